import PyProof.Rows.All
import Wide.All
import OpenK.AllK
import Wide.FinOn
import Lean
import PyProof.EqAt
import PyProof.EqKinds
import PyProof.TupleCall
import PyProof.NeKinds
import KE.KTryMore
import PyProof.EnumStmt
import PyProof.ZipIter
import PyProof.Rows.ZipGen
import PySem.Challenge.RW_gradecut_k33_hems_of_a_size
set_option Elab.async false
set_option linter.all false
set_option maxRecDepth 100000
set_option maxHeartbeats 0
set_option compiler.extract_closed false
set_option genSizeOf false
set_option genInjectivity false
open Lean in
local macro_rules | `(command| $d:declaration) => do
  let d := d.raw
  let m := d[0]
  if m[0].isNone then
    unless m[4].isNone && (d[1].getKind == ``Lean.Parser.Command.definition || d[1].getKind == ``Lean.Parser.Command.abbrev) do Macro.throwUnsupported
    return d.setArg 0 (m.setArg 4 (mkNullNode #[.node .none ``Lean.Parser.Command.noncomputable #[mkAtom "noncomputable"]]))
  let t := d.setArg 0 (m.setArg 0 mkNullNode)
  let r := m[0][0][1].getAtomVal.toList.foldl (fun (r : Nat × Nat × Array Syntax) c =>
    let n := r.1 * 64 + if c = 'p' then 16 else c.toNat - 48
    if r.2.1 = 10 then (0, 0, r.2.2.push (t.setArg 1 (t[1].setArg 1 (t[1][1].setArg 0 (mkIdent (.str `PySem.W.Fast ("tw" ++ toString n))))))) else (n, r.2.1 + 1, r.2.2)) (0, 0, #[])
  return mkNullNode r.2.2
local macro_rules | `(tactic| omega) => `(tactic| first | assumption | lia)
noncomputable section
namespace L2
open PySem PySem.Spec PyProof.Rows
abbrev Key:=Sum Int Str
def aoi:Key→Value→Bool
 | .inl k,v=>Value.isInt k v
 | .inr x,v=>Value.isStrOf x v
def awV(w:World):Key→Int
 | .inl k=>hashInt k
 | .inr x=>hashStr w x
theorem aax:∀{k:Key}{v:Value},aoi k v=true→(∃i t,k=Sum.inl i∧v=Value.int i t)∨(∃x t,k=Sum.inr x∧v=Value.str x t)
 | .inl i,v,h=>by
  obtain⟨t,e⟩:=Value.isInt_shape (k:=i) (v:=v) h
  exact .inl ⟨i,t,rfl,e⟩
 | .inr x,v,h=>by
  obtain⟨t,e⟩:=Value.isStrOf_shape (x:=x) (v:=v) h
  exact .inr ⟨x,t,rfl,e⟩
theorem apN(a b:Int):decide ((Sum.inl a:Key)=Sum.inl b)=(a==b):=by
 by_cases e:a=b
 ·subst e;simp
 ·have h:¬(Sum.inl a:Key)=Sum.inl b:=fun q=>e (Sum.inl.inj q)
  rw[decide_eq_false h]
  exact(beq_eq_false_iff_ne.mpr e).symm
theorem aps(a b:Str):decide ((Sum.inr a:Key)=Sum.inr b)=decide (a=b):=by
 by_cases e:a=b
 ·subst e;simp
 ·have h:¬(Sum.inr a:Key)=Sum.inr b:=fun q=>e (Sum.inr.inj q)
  rw[decide_eq_false h,decide_eq_false e]
theorem aqt(a:Int)(b:Str):decide ((Sum.inl a:Key)=Sum.inr b)=false:=decide_eq_false (fun q=>nomatch q)
theorem aok(a:Str)(b:Int):decide ((Sum.inr a:Key)=Sum.inl b)=false:=decide_eq_false (fun q=>nomatch q)
def afM(prog:Program)(w:World):PySem.KeyKind prog w Key where
 is:=aoi
 hash:=awV w
 inj:=fun v a b ha hb=>by
  rcases aax ha with⟨i,t,rfl,rfl⟩|⟨x,t,rfl,rfl⟩
  ·rcases aax hb with⟨j,u,rfl,e⟩|⟨y,u,rfl,e⟩
   ·injection e with e1 _;rw[e1]
   ·exact nomatch e
  ·rcases aax hb with⟨j,u,rfl,e⟩|⟨y,u,rfl,e⟩
   ·exact nomatch e
   ·injection e with e1 _;rw[e1]
 byValue:=fun k v h=>by
  rcases aax h with⟨i,t,rfl,rfl⟩|⟨x,t,rfl,rfl⟩<;>rfl
 pyHash:=fun hv h=>by
  rcases aax hv with⟨i,t,rfl,rfl⟩|⟨x,t,rfl,rfl⟩
  ·exact wpAny_pyHash_int h
  ·exact wpAny_pyHash_str h
 eqBool:=fun hu hv h=>by
  rcases aax hu with⟨i,t,rfl,rfl⟩|⟨x,t,rfl,rfl⟩
  ·rcases aax hv with⟨j,u,rfl,rfl⟩|⟨y,u,rfl,rfl⟩
   ·rw[apN]at h;exact wpAny_eqBool_int h
   ·rw[aqt]at h;exact SeqAt.EqAt.int_str i t y u _ _ _ _ h
  ·rcases aax hv with⟨j,u,rfl,rfl⟩|⟨y,u,rfl,rfl⟩
   ·rw[aok]at h;exact SeqAt.EqAt.str_int x t j u _ _ _ _ h
   ·rw[aps]at h;exact wpAny_eqBool_str h
 «strs»:=fun k x t v h=>by
  rcases aax h with⟨i,u,rfl,e⟩|⟨y,u,rfl,e⟩
  ·exact nomatch e
  ·injection e with e1 _
   subst e1
   cases v<;>rfl
end L2
namespace L2
open PySem PySem.Spec PyProof.Rows
set_option genInjectivity true in
inductive V where
 | non|bl (b:Bool)|int (i:Int)|str (x:Str)|byt (b:Array UInt8)|flt (b:UInt64)|ref (a:Addr)|ty (n:String)
 deriving DecidableEq
def aa8:V→Value→Prop
 | .non,u=>u=Value.none
 | .bl b,u=>u=Value.bool b
 | .int i,u=>∃t,u=Value.int i t
 | .str x,u=>∃t,u=Value.str x t
 | .byt b,u=>∃t,u=Value.bytes b t
 | .flt b,u=>∃t,u=Value.float b t
 | .ref a,u=>u=Value.ref a
 | .ty n,u=>u=Value.type n
abbrev Vals:List V→List Value→Prop:=Paired aa8
theorem Vals.length{xs:List V}{us:List Value}(r:Vals xs us):xs.length=us.length:=Paired.length r
theorem Vals.get:∀{xs:List V}{us:List Value}{i:Nat}{x:V},Vals xs us→xs[i]?=some x→∃u,us[i]?=some u∧aa8 x u
 | _,_,_,_,.nil,e=>by simp at e
 | _,_,0,_,.cons r _,e=>by simp at e;subst e;exact⟨_,rfl,r⟩
 | _,_,i+1,x,.cons _ t,e=>by
  obtain⟨u,h1,h2⟩:=Vals.get (i:=i) (x:=x) t (by simpa using e)
  exact⟨u,by simpa using h1,h2⟩
theorem Vals.set{x:V}{u:Value}(r:aa8 x u):∀{xs:List V}{us:List Value} (i:Nat),Vals xs us→Vals (xs.set i x) (us.set i u)
 | _,_,_,.nil=>.nil
 | _,_,0,.cons _ t=>.cons r t
 | _,_,i+1,.cons q t=>.cons q (Vals.set r i t)
theorem Vals.append:∀{xs ys:List V}{us ws:List Value},Vals xs us→Vals ys ws→Vals (xs++ys) (us++ws)
 | _,_,_,_,.nil,s=>s
 | _,_,_,_,.cons r t,s=>.cons r (Vals.append t s)
theorem Vals.take:∀{xs:List V}{us:List Value} (n:Nat),Vals xs us→Vals (xs.take n) (us.take n)
 | _,_,0,_=>.nil
 | _,_,_+1,.nil=>.nil
 | _,_,n+1,.cons r t=>.cons r (Vals.take n t)
theorem Vals.drop:∀{xs:List V}{us:List Value} (n:Nat),Vals xs us→Vals (xs.drop n) (us.drop n)
 | _,_,0,r=>r
 | _,_,_+1,.nil=>.nil
 | _,_,n+1,.cons _ t=>Vals.drop n t
theorem Vals.none_of:∀{xs:List V}{us:List Value}{i:Nat},Vals xs us→xs[i]?=none→us[i]?=none:=fun {xs us i} r e=>by
 have h1:=r.length
 have h2:xs.length≤i:=List.getElem?_eq_none_iff.mp e
 exact List.getElem?_eq_none_iff.mpr (by omega)
def ajr:Option V→Option Value→Prop
 | some v,some u=>aa8 v u
 | none,none=>True
 | _,_=>False
def KV{κ:Type}:List (κ×V)→List (κ×Value)→Prop:=Paired fun(p:κ×V) (q:κ×Value)=>p.1=q.1∧aa8 p.2 q.2
def kV:Key→V
 | .inl i=>.int i
 | .inr x=>.str x
set_option genInjectivity true in
inductive HO where
 | lst (xs:List V)
 | tup (xs:List V)
 | dK (kvs:List (Key×V))|dT (kvs:List (List Key×V))
 | set (S:Int→Bool) (n:Nat)
 | ins (C dx:Addr) (fs:List (Str×V))
 | own (x:Addr)
 | xd (fs:List (Str×V))
 | met (f x:Addr)
 | rng (lo hi:Int)
 | frz (o:Obj) (u:HO)
 | tbl (ps:Array Value)
 | ext (φ:Heap→Prop)
abbrev Hp:=Addr→Option HO
def upd(H:Hp)(a:Addr)(o:HO):Hp:=fun b=>if b=a then some o else H b
theorem aaq{H:Hp}{a:Addr}{o:HO}:upd H a o a=some o:=by unfold upd;rw[if_pos rfl]
theorem aah{H:Hp}{a b:Addr}{o:HO}(h:b≠a):upd H a o b=H b:=by unfold upd;rw[if_neg h]
theorem akn{H:Hp}{a b:Addr}{o u:HO}(h:H a=some o)(h':H b=some u)(d:o≠u):a≠b:=by
 intro e;subst e;rw[h]at h';exact d (Option.some.inj h')
theorem abk{H:Hp}{a b:Addr}{o:HO}(h:H a=some o)(h':H b=none):a≠b:=by
 intro e;subst e;rw[h]at h';cases h'
section
variable(P:Program)(w:World)
def abi(H:Hp)(h:Heap)(a:Addr):HO→Prop
 | .lst xs=>xs.length≤sizeLine∧∃(its:List Value) (n:Nat),Vals xs its∧h.get? a=some { cls:=.type "list",data:=.seq its.toArray n }
 | .tup xs=>xs.length≤sizeLine∧∃its:List Value,Vals xs its∧IsTup h a its.toArray
 | .dK kvs=>kvs.length≤sizeLine∧(a==sysModules)=false∧∃vs,KV kvs vs∧h.DictOf (afM P w) a vs
 | .dT kvs=>kvs.length≤sizeLine∧(a==sysModules)=false∧∃xs:List (List Key×Addr×Value),
   Paired (fun(p:List Key×V) (q:List Key×Addr×Value)=>p.1=q.1∧H q.2.1=some (.tup (p.1.map kV))∧aa8 p.2 q.2.2) kvs xs∧
   ∃o es ep,h.get? a=some o∧o.ExactDict∧o.data=.dict es ep∧es.toList=xs.map (entryOfKey (tupleKind (afM P w)))∧(xs.map (·.1)).Nodup
 | .set S n=>h.SetOf (intKind P w) a S n
 | .ins C dx fs=>H dx=some (.own a)∧fs.length≤1000∧dx≠a∧h.get? a=some (PySem.W.instObj C dx)∧
   ∃mA,h.Ns1 dx mA∧(∀f,ajr (fs.lookup f) (mA f))∧PySem.Within mA (fs.map (·.1))
 | .own _=>∃o,h.get? a=some o
 | .xd fs=>∃mA,h.Ns1 a mA∧∀f,ajr (fs.lookup f) (mA f)
 | .rng lo hi=>∃t u v,h.get? a=some { cls:=.type "range",data:=.fields #[.int lo t,.int hi u,.int 1 v] }
 | .frz o u=>h.get? a=some o∧abi H h a u
 | .tbl ps=>h.get? a=some { cls:=.none,data:=.fields ps }
 | .met f x=>h.get? a=some (PySem.W.methodObj (.ref f) (.ref x))
 | .ext φ=>φ h∧(∃o,h.get? a=some o)∧∀h1 h2:Heap,φ h1→(∀o,h1.get? a=some o→h2.get? a=some o)→φ h2
def HOk(H:Hp)(h:Heap):Prop:=∀a o,H a=some o→abi P w H h a o
end
section
variable{P:Program}{w:World}{H H':Hp}{h h':Heap}{a:Addr}{o:HO}
theorem abi.lt(x:abi P w H h a o):a<h.objs.size:=by
 cases o with
 | lst xs=>obtain⟨_,_,_,_,e⟩:=x;exact Heap.lt_size e
 | tup xs=>obtain⟨_,_,_,p⟩:=x;exact p.lt
 | dK kvs=>obtain⟨_,_,_,_,o,_,_,e,_⟩:=x;exact Heap.lt_size e
 | dT kvs=>obtain⟨_,_,_,_,o,_,_,e,_⟩:=x;exact Heap.lt_size e
 | set S n=>obtain⟨o,_,_,_,e,_⟩:=x;exact Heap.lt_size e
 | ins C dx fs=>obtain⟨_,_,_,e,_⟩:=x;exact Heap.lt_size e
 | own y=>obtain⟨_,e⟩:=x;exact Heap.lt_size e
 | xd fs=>obtain⟨_,⟨_,_,_,e,_⟩,_⟩:=x;exact Heap.lt_size e
 | rng lo hi=>obtain⟨_,_,_,e⟩:=x;exact Heap.lt_size e
 | frz ob u=>obtain⟨e,_⟩:=x;exact Heap.lt_size e
 | tbl ps=>exact Heap.lt_size (show h.get? a=some _ from x)
 | met f y=>exact Heap.lt_size (show h.get? a=some _ from x)
 | ext φ=>obtain⟨_,⟨_,e⟩,_⟩:=x;exact Heap.lt_size e
theorem Paired.mapP{α β:Type}{F G:α→β→Prop}:∀{l₁:List α}{l₂:List β},Paired F l₁ l₂→(∀a b,F a b→G a b)→Paired G l₁ l₂
 | _,_,.nil,_=>.nil
 | _,_,.cons r t,f=>.cons (f _ _ r) (Paired.mapP t f)
theorem abi.stay(x:abi P w H h a o)(k:∀b u,(b=a∨H b=some (.own a))→h.get? b=some u→h'.get? b=some u)
  (ho:∀b,H b=some (.own a)→H' b=some (.own a)) (ht:∀b xs,H b=some (.tup xs)→H' b=some (.tup xs)):abi P w H' h' a o:=by
 induction o with
 | lst xs=>obtain⟨z,its,n,r,e⟩:=x;exact⟨z,its,n,r,k _ _ (.inl rfl) e⟩
 | tup xs=>obtain⟨z,its,r,ob,e,c⟩:=x;exact⟨z,its,r,ob,k _ _ (.inl rfl) e,c⟩
 | dK kvs=>obtain⟨z,y,vs,r,ob,es,ep,e,c⟩:=x;exact⟨z,y,vs,r,ob,es,ep,k _ _ (.inl rfl) e,c⟩
 | dT kvs=>
  obtain⟨z,y,xs,r,ob,es,ep,e,c⟩:=x
  exact⟨z,y,xs,Paired.mapP r fun p q z=>⟨z.1,ht _ _ z.2.1,z.2.2⟩,ob,es,ep,k _ _ (.inl rfl) e,c⟩
 | set S n=>obtain⟨ob,es,ep,t,e,c⟩:=x;exact⟨ob,es,ep,t,k _ _ (.inl rfl) e,c⟩
 | ins C dx fs=>
  obtain⟨d,z,ne,e,mA,⟨od,es,ep,e2,c⟩,r⟩:=x
  exact⟨ho _ d,z,ne,k _ _ (.inl rfl) e,mA,⟨od,es,ep,k _ _ (.inr d) e2,c⟩,r⟩
 | own y=>obtain⟨ob,e⟩:=x;exact⟨ob,k _ _ (.inl rfl) e⟩
 | xd fs=>obtain⟨mA,⟨od,es,ep,e,c⟩,r⟩:=x;exact⟨mA,⟨od,es,ep,k _ _ (.inl rfl) e,c⟩,r⟩
 | rng lo hi=>obtain⟨t,u,v,e⟩:=x;exact⟨t,u,v,k _ _ (.inl rfl) e⟩
 | frz ob u ih=>obtain⟨e,q⟩:=x;exact⟨k _ _ (.inl rfl) e,ih q⟩
 | tbl ps=>
  have e:h.get? a=some { cls:=.none,data:=.fields ps }:=x
  show h'.get? a=some { cls:=.none,data:=.fields ps }
  exact k a _ (.inl rfl) e
 | met f y=>
  have e:h.get? a=some (PySem.W.methodObj (.ref f) (.ref y)):=x
  show h'.get? a=some (PySem.W.methodObj (.ref f) (.ref y))
  exact k a _ (.inl rfl) e
 | ext φ=>obtain⟨p,⟨o,e⟩,st⟩:=x;exact⟨st _ _ p fun o q=>k _ _ (.inl rfl) q,⟨o,k _ _ (.inl rfl) e⟩,st⟩
theorem HOk.lt(x:HOk P w H h)(e:H a=some o):a<h.objs.size:=(x a o e).lt
theorem HOk.fresh(x:HOk P w H h)(e:h.objs.size≤a):H a=none:=by
 cases q:H a with
 | none=>rfl
 | some u=>exact absurd (Nat.lt_of_lt_of_le (x.lt q) e) (Nat.lt_irrefl _)
theorem HOk.kept(x:HOk P w H h)(k:∀b u,h.get? b=some u→h'.get? b=some u):HOk P w H h':=fun a o e=>
 (x a o e).stay (fun b u _ q=>k b u q) (fun _ q=>q) fun _ _ q=>q
theorem HOk.laid(x:HOk P w H h)(k:∀b u,h.get? b=some u→h'.get? b=some u)(hp:h.objs.size≤a)(new:abi P w (upd H a o) h' a o):HOk P w (upd H a o) h':=fun b u e=>by
 have hn:=x.fresh hp
 by_cases hb:b=a
 ·subst hb;rw[aaq]at e;cases e;exact new
 ·rw[aah hb]at e
  exact(x b u e).stay (fun c v _ q=>k c v q) (fun c q=>by rw[aah (abk q hn)];exact q) fun c xs q=>by rw[aah (abk q hn)];exact q
end
def Rd(H:Hp)(a:Addr)(u:HO):Prop:=H a=some u∨∃o,H a=some (.frz o u)
theorem Rd.of{H:Hp}{a:Addr}{u:HO}(h:H a=some u):Rd H a u:=.inl h
theorem Rd.ok{P:Program}{w:World}{H:Hp}{h:Heap}{a:Addr}{u:HO}(r:Rd H a u)(x:HOk P w H h):abi P w H h a u:=by
 rcases r with r|⟨o,r⟩
 ·exact x a u r
 ·obtain⟨_,q⟩:=x a _ r
  exact q
def Mut:Option HO→Prop
 | some (.lst _)=>True
 | some (.dK _)=>True
 | some (.dT _)=>True
 | some (.set _ _)=>True
 | some (.ins _ _ _)=>True
 | some (.ext _)=>True
 | _=>False
section
variable{P:Program}{w:World}{H:Hp}{h h':Heap}{x e:Addr}{o':HO}
theorem HOk.write(ok:HOk P w H h)(mu:Mut (H x))(he:e=x∨H e=some (.own x))(k:∀b u,b≠e→h.get? b=some u→h'.get? b=some u)(heo:∃u,h'.get? e=some u)
  (new:abi P w (upd H x o') h' x o'):HOk P w (upd H x o') h':=fun b u q=>by
 have nown:∀c y,H c=some (.own y)→c≠x:=fun c y r z=>by subst z;rw[r]at mu;exact mu
 have ntup:∀c xs,H c=some (.tup xs)→c≠x:=fun c xs r z=>by subst z;rw[r]at mu;exact mu
 by_cases hb:b=x
 ·subst hb;rw[aaq]at q;cases q;exact new
 ·rw[aah hb]at q
  by_cases hbe:b=e
  ·have q':H b=some (.own x):=by
    rcases he with z|z
    ·exact absurd (hbe.trans z) hb
    ·rw[hbe];exact z
   rw[q]at q';cases q'
   obtain⟨v,hv⟩:=heo
   exact⟨v,by rw[hbe];exact hv⟩
  ·refine(ok b u q).stay (fun c v hc r=>k c v ?_ r) (fun c r=>by rw[aah (nown c b r)];exact r) fun c xs r=>by rw[aah (ntup c xs r)];exact r
   rcases hc with rfl|hc
   ·exact hbe
   ·rintro rfl
    rcases he with z|z
    ·exact nown c b hc z
    ·rw[hc]at z;cases z;exact hb rfl
end
structure Un(fs ex:List Addr)(H H':Hp)(h h':Heap):Prop where
 keep:∀b o,h.get? b=some o→H b=none→b∉fs→b∉ex→h'.get? b=some o
 slot:∀b o,h.get? b=some o→H b=none→b∈fs→b∉ex→∃sl,h'.get? b=some { o with slots:=sl }
 free:∀b o,h.get? b=some o→H b=none→b∉ex→H' b=none
 there:∀b o,h.get? b=some o→b∉ex→∃o',h'.get? b=some o'
 tups:∀b xs,H b=some (.tup xs)→H' b=some (.tup xs)
 frzs:∀b o u,H b=some (.frz o u)→H' b=some (.frz o u)
 tbls:∀b ps,H b=some (.tbl ps)→∃more,H' b=some (.tbl (ps++more))
section
variable{fs fs' ex ex':List Addr}{H H1 H2:Hp}{h h1 h2 h':Heap}{a x e:Addr}{o:HO}
theorem Un.any(u:Un fs ex H H1 h h1){b:Addr}{ob:Obj}(q:h.get? b=some ob)(n:H b=none)(hx:b∉ex):∃sl,h1.get? b=some { ob with slots:=sl }:=by
 by_cases hb:b∈fs
 ·exact u.slot b ob q n hb hx
 ·exact⟨ob.slots,u.keep b ob q n hb hx⟩
theorem Un.trans(a:Un fs ex H H1 h h1)(b:Un fs ex H1 H2 h1 h2):Un fs ex H H2 h h2 where
 keep:=fun c ob q n hc hx=>b.keep c ob (a.keep c ob q n hc hx) (a.free c ob q n hx) hc hx
 slot:=fun c ob q n hc hx=>by
  obtain⟨sl,e1⟩:=a.slot c ob q n hc hx
  obtain⟨sl',e2⟩:=b.slot c _ e1 (a.free c ob q n hx) hc hx
  exact⟨sl',e2⟩
 free:=fun c ob q n hx=>by
  obtain⟨o',e1⟩:=a.there c ob q hx
  exact b.free c o' e1 (a.free c ob q n hx) hx
 there:=fun c ob q hx=>by
  obtain⟨o',e1⟩:=a.there c ob q hx
  exact b.there c o' e1 hx
 tups:=fun c xs q=>b.tups c xs (a.tups c xs q)
 frzs:=fun c ob xs q=>b.frzs c ob xs (a.frzs c ob xs q)
 tbls:=fun c ps q=>by
  obtain⟨m1,e1⟩:=a.tbls c ps q
  obtain⟨m2,e2⟩:=b.tbls c _ e1
  exact⟨m1++m2,by rw[e2,Array.append_assoc]⟩
theorem Un.kept(k:∀b u,h.get? b=some u→h'.get? b=some u):Un fs ex H H h h':=
 ⟨fun b ob q _ _ _=>k b ob q,fun b ob q _ _ _=>⟨ob.slots,k b ob q⟩,fun _ _ _ n _=>n,fun b ob q _=>⟨ob,k b ob q⟩,fun _ _ q=>q,fun _ _ _ q=>q,fun _ ps q=>⟨#[],by rw[q];simp⟩⟩
theorem Un.refl:Un fs ex H H h h:=Un.kept fun _ _ q=>q
theorem Un.laid(k:∀b u,h.get? b=some u→h'.get? b=some u)(hp:h.objs.size≤a)(hn:H a=none):Un fs ex H (upd H a o) h h' where
 keep:=fun b u q _ _ _=>k b u q
 slot:=fun b u q _ _ _=>⟨u.slots,k b u q⟩
 free:=fun b u q n _=>by rw[aah (Nat.ne_of_lt (Nat.lt_of_lt_of_le (Heap.lt_size q) hp))];exact n
 there:=fun b u q _=>⟨u,k b u q⟩
 tups:=fun b xs q=>by rw[aah (abk q hn)];exact q
 frzs:=fun b u xs q=>by rw[aah (abk q hn)];exact q
 tbls:=fun b ps q=>⟨#[],by rw[aah (abk q hn),q];simp⟩
theorem Un.write(mu:Mut (H x))(he:e=x∨H e=some (.own x))(k:∀b u,b≠e→h.get? b=some u→h'.get? b=some u)(heo:∃u,h'.get? e=some u):Un fs ex H (upd H x o) h h':=by
 have hx:∀b,H b=none→b≠x:=fun b n z=>by subst z;rw[n]at mu;exact mu
 have hb:∀b,H b=none→b≠e:=fun b n z=>by
  subst z
  rcases he with r|r
  ·exact hx b n r
  ·rw[n]at r;cases r
 have hm:∀b u,H b=some u→¬Mut (some u)→b≠x:=fun b u q nm z=>by subst z;rw[q]at mu;exact nm mu
 refine⟨fun b u q n _ _=>k b u (hb b n) q,fun b u q n _ _=>⟨u.slots,k b u (hb b n) q⟩,fun b u q n _=>by rw[aah (hx b n)];exact n,fun b u q _=>?_,
  fun b xs q=>by rw[aah (hm b _ q fun z=>z)];exact q,fun b u xs q=>by rw[aah (hm b _ q fun z=>z)];exact q,fun b ps q=>⟨#[],by rw[aah (hm b _ q fun z=>z),q];simp⟩⟩
 by_cases hbe:b=e
 ·subst hbe;exact heo
 ·exact⟨u,k b u hbe q⟩
theorem Un.mono(u:Un fs ex H H1 h h1)(hs:∀b∈fs,b∈fs')(hx:∀b∈ex,b∈ex'):Un fs' ex' H H1 h h1:=
 ⟨fun b ob q n hb he=>u.keep b ob q n (fun z=>hb (hs b z)) fun z=>he (hx b z),fun _ _ q n _ he=>u.any q n fun z=>he (hx _ z),fun b ob q n he=>u.free b ob q n fun z=>he (hx b z),fun b ob q he=>u.there b ob q fun z=>he (hx b z),u.tups,u.frzs,u.tbls⟩
end
def trk(h:Heap)(H:Hp):List Addr:=(List.range h.objs.size).filter fun a=>(H a).isSome
def ajv(h:Heap)(H:Hp):Heap:=PySem.W.hideAll h (trk h H)
theorem ajh(h:Heap)(H:Hp):(ajv h H).objs.size=h.objs.size:=PySem.W.hideAll_size _ _
theorem ajU{h:Heap}{H:Hp}{b:Addr}{o:Obj}(e:h.get? b=some o)(n:H b=none):(ajv h H).get? b=some o:=
 PySem.W.hideAll_get _ e fun hm=>by
  have q:(H b).isSome=true:=(List.mem_filter.mp hm).2
  rw[n]at q;simp at q
theorem amO{h:Heap}{H:Hp}{b:Addr}{o:Obj}(e:(ajv h H).get? b=some o):h.get? b=some o∧H b=none:=by
 have e':h.get? b=some o:=PySem.W.of_hideAll (trk h H) e
 refine⟨e',?_⟩
 cases q:H b with
 | none=>rfl
 | some x=>
  have hm:b∈trk h H:=List.mem_filter.mpr ⟨List.mem_range.mpr (Heap.lt_size e'),by simp[q]⟩
  have z:(ajv h H).get? b=none:=PySem.W.hideAll_none (trk h H) hm
  rw[z]at e;cases e
def ama(g h:Heap)(L:Addr):List (Addr×Obj):=(List.range h.objs.size).filterMap fun a=>if a=L∨(g.get? a).isSome=true then none else(h.get? a).map fun o=>(a,o)
def rest(g h:Heap)(L d:Addr):List (Addr×Obj):=(ama g h L).filter fun p=>decide (p.1≠d)
end L2
namespace L2
open PySem PySem.Spec PyProof.Rows
structure Mod(K:PySem.W.Frag)(mg:Str→Option Value)(base:Heap):Prop where
 kin:K.In base
 glob:base.Ns mainGlobals mg
 blt:∃mb,base.Ns builtinsNs mb∧∀x:Str,x≠"__name__"→mb x=bootBuiltins x
 nolimit:base.NoLimit
structure Cx where
 prog:Program
 w:World
 K:PySem.W.Frag
 mg:Str→Option Value
 base:Heap
 A:Around
 N:List Str
 s₀:Shared
 H₀:Hp
 env:Env
 outer:List Env
 stack:List Env
 ex:List Addr
 fn:Str→Bool
 calm:Bool
 pn:List (Addr×Obj)
 xe:Value→Shared→Prop
def frs(l:List Env):List Addr:=l.filterMap (·.frame)
abbrev Cx.fs(X:Cx):List Addr:=frs X.outer
def Vis(sc:Scope)(x:Str):Prop:=sc.names.lookup x=some .local∨sc.names.lookup x=some .cell∨sc.names.lookup x=some .free
def Loc(sc:Scope)(x:Str):Prop:=sc.names.lookup x=some .local∨sc.names.lookup x=some .cell
def axi(env:Env)(h:Heap)(m:Str→Option Value)(x:Str)(u:Value):Prop:=
 (env.kindOf x=some .local∧m x=some u)∨((env.kindOf x=some .cell∨env.kindOf x=some .free)∧∃c,env.cells.lookup x=some c∧h.IsCell c (some u))
structure Cx.Ok(X:Cx):Prop where
 mod:Mod X.K X.mg X.base
 kind:X.env.scope.kind=.function
 glob:X.env.globals=mainGlobals
 blt:X.env.builtins=builtinsNs
 above:X.s₀.heap.objs.size≤X.env.locals
 inj:∀x y c,X.env.cells.lookup x=some c→X.env.cells.lookup y=some c→x=y
 has:∀x,(X.env.kindOf x=some .cell∨X.env.kindOf x=some .free)→∃c,X.env.cells.lookup x=some c
 cab:∀x c,X.fn x=true→X.env.cells.lookup x=some c→X.s₀.heap.objs.size≤c
 hd:X.calm=true→X.A.handled=none
 frames:X.A.frames=some X.stack
 stk:X.stack=X.outer∨(X.stack=X.env::X.outer∧X.env.frame=some X.env.locals)
 exf:∀b∈X.ex,b≠X.env.locals∧∀x c,X.env.cells.lookup x=some c→c≠b
 bs:∀b o,X.base.get? b=some o→X.s₀.heap.get? b=some o∧X.H₀ b=none
 bsz:X.base.objs.size≤X.s₀.heap.objs.size
 noex:∀b o,X.base.get? b=some o→b∉X.ex
 exfs:∀b∈X.ex,b∉X.fs
 funs:X.s₀.heap.FunFrames X.base X.outer
 frf:∀b∈X.fs,X.H₀ b=none
structure Inv(X:Cx)(pins:List (Addr×Obj))(σ:List (Option V))(H:Hp)(s:Shared):Prop where
 ok:X.Ok
 os:s.os=X.s₀.os
 bare:AllBare s.gens
 base:Un X.fs X.ex X.H₀ H X.s₀.heap s.heap
 loc:∃m,s.heap.Ns X.env.locals m∧∀(i:Nat) (x:Str) (v:V),X.N[i]?=some x→σ[i]?=some (some v)→Vis X.env.scope x→∃u,aa8 v u∧axi X.env s.heap m x u
 cell:∀x c,X.env.cells.lookup x=some c→∃v,s.heap.IsCell c v
 free:H X.env.locals=none
 freeC:∀x c,X.env.cells.lookup x=some c→H c=none
 pin:∀p∈X.pn++pins,s.heap.get? p.1=some p.2∧H p.1=none∧p.1≠X.env.locals∧p.1∉X.fs∧∀v,p.2.data≠.cell v
 hok:HOk X.prog X.w H s.heap
 len:σ.length=X.N.length
section
variable{X:Cx}{pins:List (Addr×Obj)}{σ:List (Option V)}{H H':Hp}{s:Shared}{h':Heap}
theorem Cx.Ok.nofr(ok:X.Ok){b:Addr}{o:Obj}(e:X.base.get? b=some o):b∉X.fs:=fun hb=>by
 have:=(ok.funs.mem hb).1
 rw[e]at this;cases this
theorem Inv.bs(I:Inv X pins σ H s):∀b o,X.base.get? b=some o→s.heap.get? b=some o∧H b=none:=fun b o e=>
 ⟨I.base.keep b o (I.ok.bs b o e).1 (I.ok.bs b o e).2 (I.ok.nofr e) (I.ok.noex b o e),I.base.free b o (I.ok.bs b o e).1 (I.ok.bs b o e).2 (I.ok.noex b o e)⟩
theorem Inv.bk(I:Inv X pins σ H s):∀b o,X.base.get? b=some o→s.heap.get? b=some o:=fun b o e=>(I.bs b o e).1
theorem Inv.mod(I:Inv X pins σ H s):Mod X.K X.mg X.base:=I.ok.mod
theorem Inv.kIn(I:Inv X pins σ H s):X.K.In s.heap:=I.ok.mod.kin.keeps I.bk
theorem Inv.nolimit(I:Inv X pins σ H s):s.heap.NoLimit:=I.ok.mod.nolimit.keeps I.bk
theorem Inv.fr(I:Inv X pins σ H s):∃m,Fr X.base X.env.locals s.heap m:=
 let ⟨m,hn,_⟩:=I.loc
 ⟨m,hn,I.bk,Nat.le_trans I.ok.bsz I.ok.above⟩
theorem Inv.lt(I:Inv X pins σ H s):X.env.locals<s.heap.objs.size:=let ⟨_,hn,_⟩:=I.loc;hn.lt
theorem Inv.sz(I:Inv X pins σ H s):X.s₀.heap.objs.size≤s.heap.objs.size:=Nat.le_trans I.ok.above (Nat.le_of_lt I.lt)
theorem Inv.nofs(I:Inv X pins σ H s){a:Addr}(h:s.heap.objs.size≤a):a∉X.fs:=fun hb=>by
 obtain⟨_,o,ho,_⟩:=I.ok.funs.mem hb
 exact absurd (Nat.lt_of_lt_of_le (Heap.lt_size ho) (Nat.le_trans I.sz h)) (Nat.lt_irrefl _)
theorem Inv.cne(I:Inv X pins σ H s):∀x c,X.env.cells.lookup x=some c→c≠X.env.locals:=fun x c e z=>by
 obtain⟨v,o,ho,hd⟩:=I.cell x c e
 obtain⟨m,⟨o',es,ep,ho',hd',_⟩,_⟩:=I.loc
 rw[z,ho']at ho;cases ho;rw[hd']at hd;cases hd
theorem Inv.funs(I:Inv X pins σ H s):s.heap.FunFrames X.base X.outer:=by
 have all:∀(l:List Env),(∀b∈frs l,b∈X.fs)→X.s₀.heap.FunFrames X.base l→s.heap.FunFrames X.base l:=by
  intro l
  induction l with
  | nil=>intro _ _;trivial
  | cons env r ih=>
   intro hs hl
   obtain⟨hk,⟨L,o,hf,hn,ho,hd⟩,hr⟩:=hl
   have hL:L∈X.fs:=hs L (by unfold frs;rw[List.filterMap_cons,hf];exact List.mem_cons_self)
   obtain⟨sl,e⟩:=I.base.slot L o ho (I.ok.frf L hL) hL fun z=>I.ok.exfs L z hL
   exact⟨hk,⟨L,_,hf,hn,e,hd⟩,ih (fun b hb=>hs b (by unfold frs;rw[List.filterMap_cons,hf];exact List.mem_cons_of_mem _ hb)) hr⟩
 exact all X.outer (fun _ hb=>hb) I.ok.funs
theorem Inv.stack(I:Inv X pins σ H s):s.heap.FunFrames X.base X.stack:=by
 rcases I.ok.stk with e|⟨e,hf⟩
 ·rw[e];exact I.funs
 ·rw[e]
  obtain⟨m,hn,_⟩:=I.loc
  refine .cons (by rw[I.ok.kind];decide) hf hn ?_ I.funs
  exact Heap.get?_none_of_le (Nat.le_trans I.ok.bsz I.ok.above)
theorem Inv.stkSub(I:Inv X pins σ H s):∀b∈frs X.stack,b∈X.env.locals::X.fs:=fun b hb=>by
 rcases I.ok.stk with e|⟨e,hf⟩
 ·rw[e]at hb;exact List.mem_cons_of_mem _ hb
 ·rw[e]at hb
  unfold frs at hb
  rw[List.filterMap_cons,hf]at hb
  exact hb
theorem Inv.stkFree(I:Inv X pins σ H s):∀b∈frs X.stack,H b=none:=fun b hb=>by
 rcases List.mem_cons.mp (I.stkSub b hb)with e|hb
 ·rw[e];exact I.free
 ·obtain⟨_,o,ho,_⟩:=I.ok.funs.mem hb
  exact I.base.free b o ho (I.ok.frf b hb) fun z=>I.ok.exfs b z hb
theorem Inv.step{g':Array GenState}{t':Nat}{d':Drawn}{ch:List Addr}(I:Inv X pins σ H s)
  (hch:∀b∈ch,(b∈X.ex∨X.s₀.heap.objs.size≤b)∧b≠X.env.locals∧(∀x c,X.env.cells.lookup x=some c→c≠b)∧∀p∈X.pn++pins,p.1≠b)
  (keep:∀b o,b≠X.env.locals→b∉X.fs→b∉ch→s.heap.get? b=some o→H b=none→h'.get? b=some o)
  (slot:∀b o,b≠X.env.locals→b∈X.fs→b∉ch→s.heap.get? b=some o→H b=none→∃sl,h'.get? b=some { o with slots:=sl }) (free:∀b o,b∉ch→s.heap.get? b=some o→H b=none→H' b=none)
  (there:∀b o,b∉ch→s.heap.get? b=some o→∃o',h'.get? b=some o')
  (tups:∀b xs,H b=some (.tup xs)→H' b=some (.tup xs)) (frzs:∀b o u,H b=some (.frz o u)→H' b=some (.frz o u)) (tbls:∀b ps,H b=some (.tbl ps)→∃more,H' b=some (.tbl (ps++more)))
  (ns:∀m,s.heap.Ns X.env.locals m→h'.Ns X.env.locals m) (hok:HOk X.prog X.w H' h') (hg:AllBare g'):
  Inv X pins σ H' { s with heap:=h',gens:=g',drawn:=d',toks:=t' }:=by
 have neL:∀b o,X.s₀.heap.get? b=some o→b≠X.env.locals:=fun b o e=>Nat.ne_of_lt (Nat.lt_of_lt_of_le (Heap.lt_size e) I.ok.above)
 have neC:∀b o,X.s₀.heap.get? b=some o→b∉X.ex→b∉ch:=fun b o e hx hb=>by
  rcases(hch b hb).1 with z|z
  ·exact hx z
  ·exact absurd (Nat.lt_of_lt_of_le (Heap.lt_size e) z) (Nat.lt_irrefl _)
 have cellK:∀x c,X.env.cells.lookup x=some c→∀v,s.heap.IsCell c v→h'.IsCell c v:=fun x c e v ⟨o,ho,hd⟩=>by
  have nch:c∉ch:=fun z=>(hch c z).2.2.1 x c e rfl
  by_cases hc:c∈X.fs
  ·obtain⟨sl,q⟩:=slot c o (I.cne x c e) hc nch ho (I.freeC x c e)
   exact⟨_,q,hd⟩
  ·exact⟨o,keep c o (I.cne x c e) hc nch ho (I.freeC x c e),hd⟩
 refine⟨I.ok,I.os,hg,⟨fun b o e n hb hx=>?_,fun b o e n hb hx=>?_,fun b o e n hx=>?_,fun b o e hx=>?_,fun b xs e=>tups b xs (I.base.tups b xs e),fun b o xs e=>frzs b o xs (I.base.frzs b o xs e),fun b ps e=>?_⟩,?_,fun x c e=>?_,?_,fun x c e=>?_,fun p hp=>?_,hok,I.len⟩
 ·exact keep b o (neL b o e) hb (neC b o e hx) (I.base.keep b o e n hb hx) (I.base.free b o e n hx)
 ·obtain⟨sl,e1⟩:=I.base.slot b o e n hb hx
  obtain⟨sl',e2⟩:=slot b _ (neL b o e) hb (neC b o e hx) e1 (I.base.free b o e n hx)
  exact⟨sl',e2⟩
 ·obtain⟨o',e1⟩:=I.base.there b o e hx
  exact free b o' (neC b o e hx) e1 (I.base.free b o e n hx)
 ·obtain⟨o',e1⟩:=I.base.there b o e hx
  exact there b o' (neC b o e hx) e1
 ·obtain⟨m1,e1⟩:=I.base.tbls b ps e
  obtain⟨m2,e2⟩:=tbls b _ e1
  exact⟨m1++m2,by rw[e2,Array.append_assoc]⟩
 ·obtain⟨m,hn,hl⟩:=I.loc
  refine⟨m,ns m hn,fun i x v e1 e2 e3=>?_⟩
  obtain⟨u,r,l⟩:=hl i x v e1 e2 e3
  refine⟨u,r,?_⟩
  rcases l with l|⟨k,c,e,z⟩
  ·exact .inl l
  ·exact .inr ⟨k,c,e,cellK x c e _ z⟩
 ·obtain⟨v,z⟩:=I.cell x c e
  exact⟨v,cellK x c e v z⟩
 ·obtain⟨m,⟨o,_,_,ho,_⟩,_⟩:=I.loc
  exact free _ o (fun z=>(hch _ z).2.1 rfl) ho I.free
 ·obtain⟨v,o,ho,hd⟩:=I.cell x c e
  exact free c o (fun z=>(hch c z).2.2.1 x c e rfl) ho (I.freeC x c e)
 ·obtain⟨e,n,ne,nf,d⟩:=I.pin p hp
  have nch:p.1∉ch:=fun z=>(hch p.1 z).2.2.2 p hp rfl
  exact⟨keep p.1 p.2 ne nf nch e n,free p.1 p.2 nch e n,ne,nf,d⟩
theorem Inv.un{t':Nat}(I:Inv X pins σ H s)(u:Un X.fs [] H H' s.heap h')(hok:HOk X.prog X.w H' h'):Inv X pins σ H' { s with heap:=h',toks:=t' }:=by
 obtain⟨m,⟨o,es,ep,ho,r⟩,_⟩:=id I.loc
 obtain⟨sl,hL⟩:=u.any ho I.free (by simp)
 exact I.step (g':=s.gens) (d':=s.drawn) (ch:=[]) (fun _ z=>nomatch z) (fun b o _ hb _ e n=>u.keep b o e n hb (by simp)) (fun b o _ hb _ e n=>u.slot b o e n hb (by simp)) (fun b o _ e n=>u.free b o e n (by simp)) (fun b o _ e=>u.there b o e (by simp)) u.tups u.frzs u.tbls (fun m' hm=>by
  obtain⟨o',es',ep',ho',r'⟩:=hm
  rw[ho]at ho';cases ho'
  exact⟨_,es',ep',hL,r'⟩) hok I.bare
theorem Inv.call{g':Array GenState}{t':Nat}{d':Drawn}{ch:List Addr}(I:Inv X pins σ H s)(u:Un (frs X.stack) ch H H' s.heap h')(hok:HOk X.prog X.w H' h')(hg:AllBare g')
  (hch:∀b∈ch,(b∈X.ex∨X.s₀.heap.objs.size≤b)∧b≠X.env.locals∧(∀x c,X.env.cells.lookup x=some c→c≠b)∧∀p∈X.pn++pins,p.1≠b):
  Inv X pins σ H' { s with heap:=h',gens:=g',drawn:=d',toks:=t' }:=by
 obtain⟨m,⟨o,es,ep,ho,r⟩,_⟩:=id I.loc
 obtain⟨sl,hL⟩:=u.any ho I.free fun z=>(hch _ z).2.1 rfl
 exact I.step (ch:=ch) hch (fun b o hL hb hc e n=>u.keep b o e n (fun z=>(List.mem_cons.mp (I.stkSub b z)).elim hL hb) hc) (fun b o _ _ hc e n=>u.any e n hc) (fun b o hc e n=>u.free b o e n hc) (fun b o hc e=>u.there b o e hc) u.tups u.frzs u.tbls (fun m' hm=>by
  obtain⟨o',es',ep',ho',r'⟩:=hm
  rw[ho]at ho';cases ho'
  exact⟨_,es',ep',hL,r'⟩) hok hg
theorem Inv.turned{t':Nat}{it:Addr}(I:Inv X pins σ H s)(k:∀b o,b≠it→s.heap.get? b=some o→h'.get? b=some o)(hn:H it=none)(hL:it≠X.env.locals)
  (h1:it∈X.ex∨X.s₀.heap.objs.size≤it) (h2:∀x c,X.env.cells.lookup x=some c→c≠it) (h3:∀p∈X.pn++pins,p.1≠it):Inv X pins σ H { s with heap:=h',toks:=t' }:=by
 have nit:∀b u,H b=some u→b≠it:=fun b u e z=>by rw[z,hn]at e;cases e
 refine I.step (g':=s.gens) (d':=s.drawn) (ch:=[it]) (fun b hb=>?_) (fun b o _ _ hc e _=>k b o (fun z=>hc (by simp[z])) e) (fun b o _ _ hc e _=>⟨o.slots,k b o (fun z=>hc (by simp[z])) e⟩) (fun _ _ _ _ n=>n)
  (fun b o hc e=>⟨o,k b o (fun z=>hc (by simp[z])) e⟩) (fun _ _ e=>e) (fun _ _ _ e=>e) (fun b ps e=>⟨#[],by rw[e];simp⟩) (fun m hm=>?_) (fun b u e=>?_) I.bare
 ·have e:b=it:=by simpa using hb
  subst e
  exact⟨h1,hL,h2,h3⟩
 ·obtain⟨o,es,ep,ho,r⟩:=hm
  exact⟨o,es,ep,k _ o (Ne.symm hL) ho,r⟩
 ·refine(I.hok b u e).stay (fun c v hc q=>k c v ?_ q) (fun _ q=>q) fun _ _ q=>q
  rcases hc with z|z
  ·rw[z];exact nit b u e
  ·exact nit c _ z
theorem Inv.tok(I:Inv X pins σ H s)(t:Nat):Inv X pins σ H { s with toks:=t }:=I.un (h':=s.heap) (t':=t) Un.refl I.hok
theorem Inv.kept{t':Nat}(I:Inv X pins σ H s)(k:∀b u,s.heap.get? b=some u→h'.get? b=some u):Inv X pins σ H { s with heap:=h',toks:=t' }:=I.un (Un.kept k) (I.hok.kept k)
theorem Inv.laid{a:Addr}{o:HO}{t':Nat}(I:Inv X pins σ H s)(k:∀b u,s.heap.get? b=some u→h'.get? b=some u)(hp:s.heap.objs.size≤a)(new:abi X.prog X.w (upd H a o) h' a o):
  Inv X pins σ (upd H a o) { s with heap:=h',toks:=t' }:=I.un (Un.laid k hp (I.hok.fresh hp)) (I.hok.laid k hp new)
theorem Inv.write{x e:Addr}{o:HO}{t':Nat}(I:Inv X pins σ H s)(mu:Mut (H x))(he:e=x∨H e=some (.own x))(k:∀b u,b≠e→s.heap.get? b=some u→h'.get? b=some u)(heo:∃u,h'.get? e=some u)
  (new:abi X.prog X.w (upd H x o) h' x o):Inv X pins σ (upd H x o) { s with heap:=h',toks:=t' }:=I.un (Un.write mu he k heo) (I.hok.write mu he k heo new)
theorem Inv.weak{σ':List (Option V)}(I:Inv X pins σ H s)(hl:σ'.length=σ.length)(w:∀(i:Nat) v,σ'[i]?=some (some v)→σ[i]?=some (some v)):Inv X pins σ' H s:=
 ⟨I.ok,I.os,I.bare,I.base,let ⟨m,hn,hl'⟩:=I.loc;⟨m,hn,fun i x v e1 e2 e3=>hl' i x v e1 (w i v e2) e3⟩,I.cell,I.free,I.freeC,I.pin,I.hok,hl.trans I.len⟩
theorem Inv.pins_of{pins':List (Addr×Obj)}(I:Inv X pins σ H s)(h:∀p∈pins',s.heap.get? p.1=some p.2∧H p.1=none∧p.1≠X.env.locals∧p.1∉X.fs∧∀v,p.2.data≠.cell v):Inv X pins' σ H s:=
 ⟨I.ok,I.os,I.bare,I.base,I.loc,I.cell,I.free,I.freeC,fun p hp=>(List.mem_append.mp hp).elim (fun z=>I.pin p (List.mem_append_left _ z)) (h p),I.hok,I.len⟩
theorem ac3{N:List Str}(hN:N.Nodup){i j:Nat}{x:Str}(a:N[i]?=some x)(b:N[j]?=some x):i=j:=by
 obtain⟨h1,e1⟩:=List.getElem?_eq_some_iff.mp a
 obtain⟨h2,e2⟩:=List.getElem?_eq_some_iff.mp b
 exact(List.getElem_inj hN).mp (e1.trans e2.symm)
theorem ae9{M:Model}{A:Around}{E:Value→Shared→Prop}{i:Nat}{x:Str}{v:V}{u:Value}{Q:Unit→Shared→Prop}(I:Inv X pins σ H s)(hN:X.N.Nodup)(hi:X.N[i]?=some x)(hx:Loc X.env.scope x)(r:aa8 v u)
  (h:∀s',Inv X pins (σ.set i (some v)) H s'→(∃a,Heap.SameBut a s.heap s'.heap∧(a=X.env.locals∨X.env.cells.lookup x=some a))→Q () s') (hf:X.fn x=true∨X.env.scope.names.lookup x=some .local:=by first|exact .inl rfl|exact .inr rfl|assumption):wpAny M A (storeName X.env x u) Q E s:=by
 obtain⟨m,hn,hl⟩:=id I.loc
 have hcls:(X.env.scope.kind==.class||(X.env.scope.kind==.module&&X.env.locals != X.env.globals))=false:=by rw[I.ok.kind];rfl
 have hiσ:i<σ.length:=by rw[I.len];exact(List.getElem?_eq_some_iff.mp hi).1
 have cne:=I.cne
 have tracked:∀{a:Addr}{h':Heap},(∃o,s.heap.get? a=some o∧H a=none)→Heap.SameBut a s.heap h'→HOk X.prog X.w H h':=fun {a h'} ha hs b ob e=>by
  obtain⟨_,_,hfree⟩:=ha
  refine(I.hok b ob e).stay (fun c w' hc q=>(hs.2 c ?_).trans q) (fun _ q=>q) fun _ _ q=>q
  rintro rfl
  rcases hc with rfl|hc
  ·rw[hfree]at e;cases e
  ·rw[hfree]at hc;cases hc
 rcases hx with hk|hk
 ·refine wpAny_storeName_local hk hn (fun h' hn' hs=>?_) hcls
  obtain⟨oL,_,_,hoL,_⟩:=id hn
  refine h _ ⟨I.ok,I.os,I.bare,⟨fun b o e n hb hx=>?_,fun b o e n hb hx=>?_,I.base.free,fun b o e hx=>?_,I.base.tups,I.base.frzs,I.base.tbls⟩,⟨_,hn',fun j y v' e1 e2 e3=>?_⟩,fun y c e=>?_,I.free,I.freeC,fun p hp=>?_,tracked ⟨oL,hoL,I.free⟩ hs,by simpa using I.len⟩ ⟨_,hs,.inl rfl⟩
  ·exact(hs.2 b (Nat.ne_of_lt (Nat.lt_of_lt_of_le (Heap.lt_size e) I.ok.above))).trans (I.base.keep b o e n hb hx)
  ·obtain⟨sl,e1⟩:=I.base.slot b o e n hb hx
   exact⟨sl,(hs.2 b (Nat.ne_of_lt (Nat.lt_of_lt_of_le (Heap.lt_size e) I.ok.above))).trans e1⟩
  ·obtain⟨o',e1⟩:=I.base.there b o e hx
   exact⟨o',(hs.2 b (Nat.ne_of_lt (Nat.lt_of_lt_of_le (Heap.lt_size e) I.ok.above))).trans e1⟩
  ·by_cases hj:j=i
   ·subst hj
    rw[hi]at e1;cases e1
    rw[List.getElem?_set_self hiσ]at e2
    cases e2
    exact⟨u,r,.inl ⟨hk,by simp⟩⟩
   ·rw[List.getElem?_set_ne (Ne.symm hj)]at e2
    obtain⟨u',r',q⟩:=hl j y v' e1 e2 e3
    refine⟨u',r',?_⟩
    rcases q with⟨k,e⟩|⟨k,c,e,z⟩
    ·refine .inl ⟨k,?_⟩
     have:y≠x:=fun e=>hj (ac3 hN e1 (e▸hi))
     simp[this,e]
    ·exact .inr ⟨k,c,e,z.sameBut hs (cne y c e)⟩
  ·obtain⟨w',z⟩:=I.cell y c e
   exact⟨w',z.sameBut hs (cne y c e)⟩
  ·obtain⟨e,n,ne,nf,d⟩:=I.pin p hp
   exact⟨(hs.2 p.1 ne).trans e,n,ne,nf,d⟩
 ·have hfn:X.fn x=true:=by
   rcases hf with z|z
   ·exact z
   ·rw[z]at hk;cases hk
  obtain⟨c,hc⟩:=I.ok.has x (.inl hk)
  obtain⟨w',z⟩:=I.cell x c hc
  refine wpAny_storeName_cell I.ok.kind hk hc z (fun h' hc' hs=>?_)
  obtain⟨oc,hoc,hocd⟩:=id z
  refine h { s with heap:=h' } ⟨I.ok,I.os,I.bare,⟨fun b o e n hb hx=>?_,fun b o e n hb hx=>?_,I.base.free,fun b o e hx=>?_,I.base.tups,I.base.frzs,I.base.tbls⟩,⟨m,hn.sameBut hs (Ne.symm (cne x c hc)),fun j y v' e1 e2 e3=>?_⟩,fun y c' e=>?_,I.free,I.freeC,fun p hp=>?_,tracked ⟨oc,hoc,I.freeC x c hc⟩ hs,by simpa using I.len⟩ ⟨c,hs,.inr hc⟩
  ·exact(hs.2 b (Nat.ne_of_lt (Nat.lt_of_lt_of_le (Heap.lt_size e) (I.ok.cab x c hfn hc)))).trans (I.base.keep b o e n hb hx)
  ·obtain⟨sl,e1⟩:=I.base.slot b o e n hb hx
   exact⟨sl,(hs.2 b (Nat.ne_of_lt (Nat.lt_of_lt_of_le (Heap.lt_size e) (I.ok.cab x c hfn hc)))).trans e1⟩
  ·obtain⟨o',e1⟩:=I.base.there b o e hx
   exact⟨o',(hs.2 b (Nat.ne_of_lt (Nat.lt_of_lt_of_le (Heap.lt_size e) (I.ok.cab x c hfn hc)))).trans e1⟩
  ·by_cases hj:j=i
   ·subst hj
    rw[hi]at e1;cases e1
    rw[List.getElem?_set_self hiσ]at e2
    cases e2
    exact⟨u,r,.inr ⟨.inl hk,c,hc,hc'⟩⟩
   ·rw[List.getElem?_set_ne (Ne.symm hj)]at e2
    obtain⟨u',r',q⟩:=hl j y v' e1 e2 e3
    refine⟨u',r',?_⟩
    rcases q with q|⟨k,c',e,z'⟩
    ·exact .inl q
    ·refine .inr ⟨k,c',e,z'.sameBut hs ?_⟩
     rintro rfl
     exact hj (ac3 hN e1 (I.ok.inj _ _ _ e hc▸hi))
  ·by_cases hcc:c'=c
   ·subst hcc;exact⟨_,hc'⟩
   ·obtain⟨w2,z2⟩:=I.cell y c' e
    exact⟨w2,z2.sameBut hs hcc⟩
  ·obtain⟨e,n,ne,nf,d⟩:=I.pin p hp
   refine⟨(hs.2 p.1 ?_).trans e,n,ne,nf,d⟩
   intro q
   rw[q,hoc]at e
   have q':oc=p.2:=Option.some.inj e
   exact d w' (by rw[←q'];exact hocd)
theorem ac4{M:Model}{A:Around}{E:Value→Shared→Prop}{i:Nat}{x:Str}{v:V}{u:Value}{Q:Unit→Shared→Prop}(I:Inv X pins σ H s)(hN:X.N.Nodup)(hi:X.N[i]?=some x)(hx:Loc X.env.scope x)(r:aa8 v u)
  (h:∀s',Inv X pins (σ.set i (some v)) H s'→Q () s') (hf:X.fn x=true∨X.env.scope.names.lookup x=some .local:=by first|exact .inl rfl|exact .inr rfl|assumption):wpAny M A (storeName X.env x u) Q E s:=
 ae9 I hN hi hx r (fun s' I' _=>h s' I') hf
theorem Inv.call'{s':Shared}{ch:List Addr}(I:Inv X pins σ H s)(ho:s'.os=s.os)(u:Un (frs X.stack) ch H H' s.heap s'.heap)(hok:HOk X.prog X.w H' s'.heap)(hg:AllBare s'.gens)
  (hch:∀b∈ch,(b∈X.ex∨X.s₀.heap.objs.size≤b)∧b≠X.env.locals∧(∀x c,X.env.cells.lookup x=some c→c≠b)∧∀p∈X.pn++pins,p.1≠b):Inv X pins σ H' s':=by
 obtain⟨h',g',d',t',o'⟩:=s'
 have e:o'=s.os:=ho
 subst e
 exact I.call (g':=g') (t':=t') (d':=d') u hok hg hch
end
abbrev XK:=Value→Option Addr→Hp→Prop
abbrev St:=List (Option V)
abbrev VK:=V→Hp→Prop
abbrev TE:=St→Hp→VK→Prop
abbrev TT:=St→Hp→(Bool→Hp→Prop)→Prop
abbrev TA:=St→Hp→(List V→Hp→Prop)→Prop
structure Ends where
 nx:St→Hp→Prop
 rt:VK
 bk:St→Hp→Prop:=fun _ _=>False
 ct:St→Hp→Prop:=fun _ _=>False
abbrev TS:=Ends→St→Hp→Prop
def EP(X:Cx)(pins:List (Addr×Obj))(σ:St)(Q:VK)(u:Value)(s':Shared):Prop:=∃v H',Inv X pins σ H' s'∧aa8 v u∧Q v H'
def TP(X:Cx)(pins:List (Addr×Obj))(σ:St)(Q:Bool→Hp→Prop)(b:Bool)(s':Shared):Prop:=∃H',Inv X pins σ H' s'∧Q b H'
def AP(X:Cx)(pins:List (Addr×Obj))(σ:St)(Q:List V→Hp→Prop)(us:List Value)(s':Shared):Prop:=∃vs H',Inv X pins σ H' s'∧Vals vs us∧Q vs H'
def SP(X:Cx)(pins:List (Addr×Obj))(D:Ends)(f:Flow)(s':Shared):Prop:=
 match f with
 | .next=>∃σ' H',Inv X pins σ' H' s'∧D.nx σ' H'
 | .brk=>∃σ' H',Inv X pins σ' H' s'∧D.bk σ' H'
 | .cont=>∃σ' H',Inv X pins σ' H' s'∧D.ct σ' H'
 | .ret u=>∃v σ' H',Inv X pins σ' H' s'∧aa8 v u∧D.rt v H'
def PE(X:Cx)(e:Expr)(t:TE):Prop:=
 ∀(pins:List (Addr×Obj)) (s:Shared) (σ:St) (H:Hp) (Q:VK),Inv X pins σ H s→t σ H Q→wpAny (model X.prog X.w) X.A (eval e X.env) (EP X pins σ Q) X.xe s
def PT(X:Cx)(e:Expr)(t:TT):Prop:=
 ∀(pins:List (Addr×Obj)) (s:Shared) (σ:St) (H:Hp) (Q:Bool→Hp→Prop),Inv X pins σ H s→t σ H Q→wpAny (model X.prog X.w) X.A (isTrue e X.env (eval e X.env)) (TP X pins σ Q) X.xe s
def PW(X:Cx)(e:Expr)(t:TT):Prop:=
 ∀(whole:Sem Value) (pins:List (Addr×Obj)) (s:Shared) (σ:St) (H:Hp) (Q:Bool→Hp→Prop),Inv X pins σ H s→t σ H Q→wpAny (model X.prog X.w) X.A (isTrue e X.env whole) (TP X pins σ Q) X.xe s
theorem PW.pt{X:Cx}{e:Expr}{t:TT}(h:PW X e t):PT X e t:=h _
def PA(X:Cx)(es:List Expr)(t:TA):Prop:=
 ∀(pos:Pos) (pins:List (Addr×Obj)) (s:Shared) (σ:St) (H:Hp) (Q:List V→Hp→Prop),Inv X pins σ H s→t σ H Q→wpAny (model X.prog X.w) X.A (spliced (backTo pos (starEach es X.env))) (AP X pins σ Q) X.xe s
def PS(X:Cx)(st:Stmt)(t:TS):Prop:=
 ∀(pins:List (Addr×Obj)) (s:Shared) (σ:St) (H:Hp) (D:Ends),Inv X pins σ H s→t D σ H→wpAny (model X.prog X.w) X.A (exec st X.env) (SP X pins D) X.xe s
def PSs(X:Cx)(st:List Stmt)(t:TS):Prop:=
 ∀(pins:List (Addr×Obj)) (s:Shared) (σ:St) (H:Hp) (D:Ends),Inv X pins σ H s→t D σ H→wpAny (model X.prog X.w) X.A (execs st X.env) (SP X pins D) X.xe s
theorem thn{α:Type}{t:Sem α}{Q Q':α→Shared→Prop}{M:Model}{A:Around}{E:Value→Shared→Prop}{s:Shared}(h:wpAny M A t Q E s)(hQ:∀a s,Q a s→Q' a s):wpAny M A t Q' E s:=wpAny_mono h hQ fun _ _ x=>x
end L2
namespace L2
open PySem PySem.Spec PyProof.Rows
section
variable{X:Cx}
theorem bin{a b:Expr}{ta tb:TE}(ha:PE X a ta)(hb:PE X b tb){pins:List (Addr×Obj)}{s:Shared}{σ:St}{H:Hp}{R:V→V→Hp→Prop}(I:Inv X pins σ H s)(h:ta σ H fun x H1=>tb σ H1 fun y H2=>R x y H2)
  {α:Type}{Q:α→Shared→Prop}{f:Value→Value→Sem α}
  (hf:∀v u s2 x y H2,Inv X pins σ H2 s2→aa8 x v→aa8 y u→R x y H2→wpAny (model X.prog X.w) X.A (f v u) Q X.xe s2):
  wpAny (model X.prog X.w) X.A (eval a X.env) (fun v s₁=>wpAny (model X.prog X.w) X.A (eval b X.env) (fun u s₂=>wpAny (model X.prog X.w) X.A (f v u) Q X.xe s₂) X.xe s₁) X.xe s:=by
 refine thn (ha pins s σ H _ I h) fun v s1 ⟨x,H1,I1,r1,q1⟩=>?_
 refine thn (hb pins s1 σ H1 _ I1 q1) fun u s2 ⟨y,H2,I2,r2,q2⟩=>?_
 exact hf v u s2 x y H2 I2 r1 r2 q2
def axE(i:Nat):TE:=fun σ H Q=>∃v,σ[i]?=some (some v)∧Q v H
def tC(v:V):TE:=fun _ H Q=>Q v H
theorem alf{i:Nat}{x:Str}{pos:Pos}(hN:X.N[i]?=some x)(hv:Vis X.env.scope x)(hd:(x==("__debug__":Str))=false:=by decide)(hcd:(x==("__classdict__":Str))=false:=by decide):PE X (.Name x pos) (axE i):=by
 intro pins s σ H Q I h
 obtain⟨v,e,h⟩:=h
 obtain⟨m,hn,hl⟩:=I.loc
 obtain⟨u,r,l⟩:=hl i x v hN e hv
 have fin:EP X pins σ Q u s:=⟨v,H,I,r,h⟩
 rcases l with⟨hk,hm⟩|⟨hk,c,hc,afB⟩
 ·exact wpAny_Name (wpAny_loadName_local I.ok.kind hk hn hm fin) hd
 ·rcases hk with hk|hk
  ·exact wpAny_Name (wpAny_loadName_cell I.ok.kind hk hc afB fin) hd
  ·exact wpAny_Name (wpAny_loadName_free I.ok.kind hk hc afB fin hcd) hd
theorem aoF{i j pos}:PE X (.Constant (.int i) j pos) (tC (.int i)):=fun _ _ _ H _ I h=>wpAny_Constant_int ⟨.int i,H,I.tok _,⟨_,rfl⟩,h⟩
theorem asQ{b j pos}:PE X (.Constant (.bool b) j pos) (tC (.bl b)):=fun _ _ _ H _ I h=>Constant_bool ⟨.bl b,H,I,rfl,h⟩
theorem aoT{j pos}:PE X (.Constant .none j pos) (tC .non):=fun _ _ _ H _ I h=>Constant_none ⟨.non,H,I,rfl,h⟩
theorem alJ{x j pos}:PE X (.Constant (.str x) j pos) (tC (.str x)):=fun _ _ _ H _ I h=>Calls.Constant_str ⟨.str x,H,I.tok _,⟨_,rfl⟩,h⟩
def Gl(X:Cx)(x:Str):Prop:=X.env.kindOf x=some .globalImplicit
theorem abG{E:Value→Shared→Prop}{pins:List (Addr×Obj)}{s:Shared}{σ:St}{H:Hp}{x:Str}{u:Value}{pos:Pos}{Q:Value→Shared→Prop}(I:Inv X pins σ H s)(hg:Gl X x)(hm:X.mg x=some u)(h:Q u s)
  (hd:(x==("__debug__":Str))=false:=by decide):wpAny (model X.prog X.w) X.A (eval (.Name x pos) X.env) Q E s:=
 Calls.Name_function_global I.ok.kind hg (Calls.loadGlobal_global (by rw[I.ok.glob];exact I.mod.glob.keeps I.bk) hm h) hd
theorem adm{E:Value→Shared→Prop}{pins:List (Addr×Obj)}{s:Shared}{σ:St}{H:Hp}{x:Str}{u:Value}{pos:Pos}{Q:Value→Shared→Prop}(I:Inv X pins σ H s)(hg:Gl X x)(hm:X.mg x=none)(hv:bootBuiltins x=some u)(h:Q u s)
  (hn:x≠"__name__":=by decide) (hd:(x==("__debug__":Str))=false:=by decide):wpAny (model X.prog X.w) X.A (eval (.Name x pos) X.env) Q E s:=by
 obtain⟨mb,h1,h2⟩:=I.mod.blt
 exact Calls.Name_function_global I.ok.kind hg (Calls.loadGlobal_builtin (by rw[I.ok.glob];exact I.mod.glob.keeps I.bk) hm (by rw[I.ok.blt];exact h1.keeps I.bk) ((h2 x hn).trans hv) h) hd
theorem aiP{x:Str}{v:V}{u:Value}{pos:Pos}(hg:Gl X x)(hm:X.mg x=some u)(r:aa8 v u)(hd:(x==("__debug__":Str))=false:=by decide):PE X (.Name x pos) (tC v):=
 fun _ _ _ H _ I h=>abG I hg hm ⟨v,H,I,r,h⟩ hd
theorem amR{x:Str}{v:V}{u:Value}{pos:Pos}(hg:Gl X x)(hm:X.mg x=none)(hv:bootBuiltins x=some u)(r:aa8 v u)(hn:x≠"__name__":=by decide)(hd:(x==("__debug__":Str))=false:=by decide):PE X (.Name x pos) (tC v):=
 fun _ _ _ H _ I h=>adm I hg hm hv ⟨v,H,I,r,h⟩ hn hd
variable{a b:Expr}{ta tb:TE}{pos:Pos}
variable{tA tB':TT}{rest:List Expr}
def avR(t u:TT):TT:=fun σ H Q=>t σ H fun c H1=>if c=true then u σ H1 Q else Q false H1
def tOr(t u:TT):TT:=fun σ H Q=>t σ H fun c H1=>if c=true then Q true H1 else u σ H1 Q
def axe(t:TT):TT:=fun σ H Q=>t σ H fun c H1=>Q (!c) H1
theorem amA(ha:PT X a tA):PW X (.BoolOp .And [a] pos) tA:=by
 intro wh pins s σ H Q I h
 refine isTrue_and (thn (ha pins s σ H Q I h) fun c s1 e=>?_)
 cases c with
 | true=>exact isTrue_and_nil e
 | false=>exact e
theorem apy(ha:PT X a tA):PW X (.BoolOp .Or [a] pos) tA:=by
 intro wh pins s σ H Q I h
 refine isTrue_or (thn (ha pins s σ H Q I h) fun c s1 e=>?_)
 cases c with
 | false=>exact isTrue_or_nil e
 | true=>exact e
theorem aou(ha:PT X a tA)(hb:PW X (.BoolOp .And (b::rest) pos) tB'):PW X (.BoolOp .And (a::b::rest) pos) (avR tA tB'):=by
 intro wh pins s σ H Q I h
 refine isTrue_and (thn (ha pins s σ H _ I h) fun c s1 ⟨H1,I1,q1⟩=>?_)
 cases c with
 | true=>exact hb wh pins s1 σ H1 Q I1 q1
 | false=>exact⟨H1,I1,q1⟩
theorem aux(ha:PT X a tA)(hb:PW X (.BoolOp .Or (b::rest) pos) tB'):PW X (.BoolOp .Or (a::b::rest) pos) (tOr tA tB'):=by
 intro wh pins s σ H Q I h
 refine isTrue_or (thn (ha pins s σ H _ I h) fun c s1 ⟨H1,I1,q1⟩=>?_)
 cases c with
 | true=>exact⟨H1,I1,q1⟩
 | false=>exact hb wh pins s1 σ H1 Q I1 q1
theorem ap5(ha:PT X a tA):PT X (.UnaryOp .Not a pos) (axe tA):=by
 intro pins s σ H Q I h
 exact isTrue_not (ha pins s σ H (fun c H1=>Q (!c) H1) I h)
def ar5(ta tb:TE):TE:=fun σ H Q=>ta σ H fun x H1=>∃c,x=.bl c∧if c=true then tb σ H1 Q else Q (.bl false) H1
def ay9(ta tb:TE):TE:=fun σ H Q=>ta σ H fun x H1=>∃c,x=.bl c∧if c=true then Q (.bl true) H1 else tb σ H1 Q
theorem apI{op}{t:TE}(h:PE X a t):PE X (.BoolOp op [a] pos) t:=fun pins s σ H Q I hw=>BoolOp_one (h pins s σ H Q I hw)
theorem ao7(ha:PE X a ta)(hb:PE X (.BoolOp .And (b::rest) pos) tb):PE X (.BoolOp .And (a::b::rest) pos) (ar5 ta tb):=by
 intro pins s σ H Q I h
 refine BoolOp_and (thn (ha pins s σ H _ I h) fun v s1 ⟨x,H1,I1,r1,q1⟩=>?_)
 obtain⟨c,rfl,q1⟩:=q1
 cases r1
 refine wpAny_truthy_bool ?_
 cases c with
 | true=>exact hb pins s1 σ H1 Q I1 q1
 | false=>exact⟨.bl false,H1,I1,rfl,q1⟩
theorem ar9(ha:PE X a ta)(hb:PE X (.BoolOp .Or (b::rest) pos) tb):PE X (.BoolOp .Or (a::b::rest) pos) (ay9 ta tb):=by
 intro pins s σ H Q I h
 refine BoolOp_or (thn (ha pins s σ H _ I h) fun v s1 ⟨x,H1,I1,r1,q1⟩=>?_)
 obtain⟨c,rfl,q1⟩:=q1
 cases r1
 refine wpAny_truthy_bool ?_
 cases c with
 | false=>exact hb pins s1 σ H1 Q I1 q1
 | true=>exact⟨.bl true,H1,I1,rfl,q1⟩
def tIf(t:TT)(ta tb:TE):TE:=fun σ H Q=>t σ H fun c H1=>if c=true then ta σ H1 Q else tb σ H1 Q
theorem akE{c:Expr}(hc:PT X c tA)(ha:PE X a ta)(hb:PE X b tb):PE X (.IfExp c a b pos) (tIf tA ta tb):=by
 intro pins s σ H Q I h
 refine wpAny_IfExp (thn (hc pins s σ H _ I h) fun d s1 ⟨H1,I1,q1⟩=>?_)
 cases d with
 | true=>exact ha pins s1 σ H1 Q I1 q1
 | false=>exact hb pins s1 σ H1 Q I1 q1
end
end L2
namespace L2
open PySem PySem.Spec PyProof.Rows
def SqL(K:PySem.W.Frag)(H:Hp)(a:Addr)(xs:List V):Prop:=
 Rd H a (.lst xs)∨
  ∃(o:Obj) (its:Array Value) (n:Nat),K.lookup a=some o∧o.cls=.type "list"∧o.dict=none∧o.data=.seq its n∧its.size≤sizeLine∧Vals xs its.toList
def SqT(K:PySem.W.Frag)(H:Hp)(a:Addr)(xs:List V):Prop:=
 Rd H a (.tup xs)∨
  ∃(o:Obj) (its:Array Value) (n:Nat),K.lookup a=some o∧o.cls=.type "tuple"∧o.data=.seq its n∧its.size≤sizeLine∧Vals xs its.toList
def axJ:Value→Option V
 | .none=>some .non
 | .bool b=>some (.bl b)
 | .int i _=>some (.int i)
 | .str x _=>some (.str x)
 | .bytes b _=>some (.byt b)
 | .float b _=>some (.flt b)
 | .ref a=>some (.ref a)
 | .type n=>some (.ty n)
 | _=>none
theorem aa8.abs{x:V}{u:Value}(r:aa8 x u):axJ u=some x:=by
 cases x with
 | non=>cases r;rfl
 | bl _=>cases r;rfl
 | int _=>obtain⟨t,rfl⟩:=r;rfl
 | str _=>obtain⟨t,rfl⟩:=r;rfl
 | byt _=>obtain⟨t,rfl⟩:=r;rfl
 | flt _=>obtain⟨t,rfl⟩:=r;rfl
 | ref _=>cases r;rfl
 | ty _=>cases r;rfl
theorem aa8.inj{x y:V}{u:Value}(r:aa8 x u)(q:aa8 y u):x=y:=Option.some.inj (r.abs.symm.trans q.abs)
theorem Vals.inj:∀{xs ys:List V}{us:List Value},Vals xs us→Vals ys us→xs=ys
 | _,_,_,.nil,.nil=>rfl
 | _,_,_,.cons r t,.cons r' t'=>by rw[r.inj r',Vals.inj t t']
section
variable{X:Cx}{pins:List (Addr×Obj)}{σ:St}{H:Hp}{s:Shared}{a:Addr}{xs ys:List V}
theorem SqL.of{K:PySem.W.Frag}(h:H a=some (.lst xs)):SqL K H a xs:=.inl (.inl h)
theorem SqT.of{K:PySem.W.Frag}(h:H a=some (.tup xs)):SqT K H a xs:=.inl (.inl h)
theorem Inv.list(I:Inv X pins σ H s)(h:SqL X.K H a xs):∃its:List Value,Vals xs its∧PlainL s.heap a its.toArray∧xs.length≤sizeLine:=by
 rcases h with h|⟨o,its,n,hk,hc,hd,hs,hz,r⟩
 ·obtain⟨z,its,n,r,e⟩:=h.ok I.hok
  exact⟨its,r,⟨_,n,e,rfl,rfl,rfl⟩,z⟩
 ·refine⟨its.toList,r,⟨o,n,I.kIn a o hk,hc,hd,by simpa using hs⟩,?_⟩
  have e:=r.length
  simp only[Array.length_toList]at e
  omega
theorem Inv.tuple(I:Inv X pins σ H s)(h:SqT X.K H a xs):∃its:List Value,Vals xs its∧IsTup s.heap a its.toArray∧xs.length≤sizeLine:=by
 rcases h with h|⟨o,its,n,hk,hc,hs,hz,r⟩
 ·obtain⟨z,its,r,p⟩:=h.ok I.hok
  exact⟨its,r,p,z⟩
 ·refine⟨its.toList,r,⟨o,I.kIn a o hk,hc,n,by simpa using hs⟩,?_⟩
  have e:=r.length
  simp only[Array.length_toList]at e
  omega
theorem Inv.list_inj(I:Inv X pins σ H s)(h:SqL X.K H a xs)(h':SqL X.K H a ys):xs=ys:=by
 obtain⟨its,r,⟨o,n,e,_,_,d⟩,_⟩:=I.list h
 obtain⟨its',r',⟨o',n',e',_,_,d'⟩,_⟩:=I.list h'
 rw[e]at e';cases e'
 rw[d]at d'
 injection d' with d1 _
 have:its=its':=by simpa using congrArg Array.toList d1
 subst this
 exact r.inj r'
theorem Inv.tuple_inj(I:Inv X pins σ H s)(h:SqT X.K H a xs)(h':SqT X.K H a ys):xs=ys:=by
 obtain⟨its,r,⟨o,e,_,n,d⟩,_⟩:=I.tuple h
 obtain⟨its',r',⟨o',e',_,n',d'⟩,_⟩:=I.tuple h'
 rw[e]at e';cases e'
 rw[d]at d'
 injection d' with d1 _
 have:its=its':=by simpa using congrArg Array.toList d1
 subst this
 exact r.inj r'
end
abbrev Cx.wish(X:Cx)(E:Value→Shared→Prop):Cx:={ X with xe:=E }
abbrev Cx.nox(X:Cx):Cx:=X.wish fun _ _=>False
theorem Cx.Ok.wish{X:Cx}(ok:X.Ok)(E:Value→Shared→Prop):(X.wish E).Ok:=
 ⟨ok.mod,ok.kind,ok.glob,ok.blt,ok.above,ok.inj,ok.has,ok.cab,ok.hd,ok.frames,ok.stk,ok.exf,ok.bs,ok.bsz,ok.noex,ok.exfs,ok.funs,ok.frf⟩
theorem Cx.Ok.unwish{X:Cx}{E:Value→Shared→Prop}(ok:(X.wish E).Ok):X.Ok:=
 ⟨ok.mod,ok.kind,ok.glob,ok.blt,ok.above,ok.inj,ok.has,ok.cab,ok.hd,ok.frames,ok.stk,ok.exf,ok.bs,ok.bsz,ok.noex,ok.exfs,ok.funs,ok.frf⟩
section
variable{X:Cx}{pins:List (Addr×Obj)}{σ:St}{H:Hp}{s:Shared}{E:Value→Shared→Prop}
theorem Inv.wish(I:Inv X pins σ H s)(E:Value→Shared→Prop):Inv (X.wish E) pins σ H s:=⟨I.ok.wish E,I.os,I.bare,I.base,I.loc,I.cell,I.free,I.freeC,I.pin,I.hok,I.len⟩
theorem Inv.unwish(I:Inv (X.wish E) pins σ H s):Inv X pins σ H s:=⟨I.ok.unwish,I.os,I.bare,I.base,I.loc,I.cell,I.free,I.freeC,I.pin,I.hok,I.len⟩
theorem SP.unwish{D:Ends}{f:Flow}{s':Shared}(h:SP (X.wish E) pins D f s'):SP X pins D f s':=by
 cases f with
 | next=>obtain⟨σ',H',I,q⟩:=h;exact⟨σ',H',I.unwish,q⟩
 | brk=>obtain⟨σ',H',I,q⟩:=h;exact⟨σ',H',I.unwish,q⟩
 | cont=>obtain⟨σ',H',I,q⟩:=h;exact⟨σ',H',I.unwish,q⟩
 | ret u=>obtain⟨v,σ',H',I,r,q⟩:=h;exact⟨v,σ',H',I.unwish,r,q⟩
theorem PE.nox{e:Expr}{t:TE}(h:PE X.nox e t):PE X e t:=fun pins s σ H Q I hw=>
 wpAny_mono (h pins s σ H Q (I.wish _) hw) (fun _ _ ⟨v,H',I',r,q⟩=>⟨v,H',I'.unwish,r,q⟩) fun _ _ z=>False.elim z
theorem PT.nox{e:Expr}{t:TT}(h:PT X.nox e t):PT X e t:=fun pins s σ H Q I hw=>
 wpAny_mono (h pins s σ H Q (I.wish _) hw) (fun _ _ ⟨H',I',q⟩=>⟨H',I'.unwish,q⟩) fun _ _ z=>False.elim z
theorem PSs.nox{st:List Stmt}{t:TS}(h:PSs X.nox st t):PSs X st t:=fun pins s σ H D I hw=>
 wpAny_mono (h pins s σ H D (I.wish _) hw) (fun _ _ q=>q.unwish) fun _ _ z=>False.elim z
end
section
variable{X:Cx}{st:Stmt}{rest:List Stmt}{t u:TS}{e:Expr}{te:TE}{pos:Pos}
def atd:TS:=fun D σ H=>D.nx σ H
def axO(t u:TS):TS:=fun D σ H=>t { D with nx:=u D } σ H
theorem amd:PSs X [] atd:=fun _ _ σ H _ I h=>wpAny_execs_nil ⟨σ,H,I,h⟩
theorem ak7(h1:PS X st t)(h2:PSs X rest u):PSs X (st::rest) (axO t u):=by
 intro pins s σ H D I h
 refine wpAny_execs_cons (thn (h1 pins s σ H { D with nx:=u D } I h) fun f s1 q=>?_)
 cases f with
 | next=>
  obtain⟨σ',H',I',q⟩:=q
  exact h2 pins s1 σ' H' D I' q
 | ret v=>exact q
 | brk=>exact q
 | cont=>exact q
theorem Inv.quiet{pins:List (Addr×Obj)}{σ:St}{H:Hp}{s:Shared}(I:Inv X pins σ H s):interactive X.env=false:=by simp[interactive,I.ok.kind]
def atL(te:TE):TS:=fun D σ H=>te σ H fun _ H1=>D.nx σ H1
theorem afe(he:PE X e te)(hs:swapsWith e none pos.line X.env=pure false:=by rfl):PS X (.Expr e pos) (atL te):=by
 intro pins s σ H D I h
 exact wpAny_Expr_any (thn (he pins s σ H _ I h) fun v s1 ⟨x,H1,I1,r1,q1⟩=>⟨σ,H1,I1,q1⟩) I.quiet hs
def ayq(te:TE):TS:=fun D σ H=>te σ H D.rt
theorem alL(he:PE X e te):PS X (.Return (some e) pos) (ayq te):=by
 intro pins s σ H D I h
 exact wpAny_Return_some (thn (he pins s σ H _ I h) fun v s1 ⟨x,H1,I1,r1,q1⟩=>⟨x,σ,H1,I1,r1,q1⟩)
def awM(c:TT)(t u:TS):TS:=fun D σ H=>c σ H fun b H1=>if b=true then t D σ H1 else u D σ H1
theorem as0{c:Expr}{a b:List Stmt}{tc:TT}(hc:PT X c tc)(ha:PSs X a t)(hb:PSs X b u):PS X (.If c a b pos) (awM tc t u):=by
 intro pins s σ H D I h
 refine wpAny_If (thn (hc pins s σ H _ I h) fun d s1 ⟨H1,I1,q1⟩=>?_)
 cases d with
 | true=>exact ha pins s1 σ H1 D I1 q1
 | false=>exact hb pins s1 σ H1 D I1 q1
end
abbrev TG:=V→St→Hp→(St→Hp→Prop)→Prop
abbrev TGs:=List V→St→Hp→(St→Hp→Prop)→Prop
def PG(X:Cx)(target:Expr)(t:TG):Prop:=
 ∀(pins:List (Addr×Obj)) (s:Shared) (σ:St) (H:Hp) (v:V) (u:Value) (Q:St→Hp→Prop),Inv X pins σ H s→aa8 v u→t v σ H Q→
  wpAny (model X.prog X.w) X.A (assign target X.env u) (fun _ s'=>∃σ' H',Inv X pins σ' H' s'∧Q σ' H') X.xe s
def PGs(X:Cx)(ts:List Expr)(t:TGs):Prop:=
 ∀(pins:List (Addr×Obj)) (s:Shared) (σ:St) (H:Hp) (vs:List V) (us:List Value) (Q:St→Hp→Prop),Inv X pins σ H s→Vals vs us→t vs σ H Q→
  wpAny (model X.prog X.w) X.A (assignInOrder ((assignEach ts X.env).map (·.2)) us) (fun _ s'=>∃σ' H',Inv X pins σ' H' s'∧Q σ' H') X.xe s
abbrev atk:=V→V→V→Hp→(Hp→Prop)→Prop
def awD(X:Cx)(t:atk):Prop:=
 ∀(pins:List (Addr×Obj)) (s:Shared) (σ:St) (H:Hp) (o i v:V) (ov iv u:Value) (Q:Hp→Prop),Inv X pins σ H s→aa8 o ov→aa8 i iv→aa8 v u→t o i v H Q→
  wpAny (model X.prog X.w) X.A (setItem ov iv u) (fun _ s'=>∃H',Inv X pins σ H' s'∧Q H') X.xe s
section
variable{X:Cx}{pos:Pos}
def apY(i:Nat):TG:=fun v σ H Q=>Q (σ.set i (some v)) H
theorem ais{i:Nat}{x:Str}(hN:X.N.Nodup)(hi:X.N[i]?=some x)(hx:Loc X.env.scope x)(hf:X.fn x=true∨X.env.scope.names.lookup x=some .local:=by first|exact .inl rfl|exact .inr rfl|assumption):PG X (.Name x pos) (apY i):=by
 intro pins s σ H v u Q I r h
 exact wpAny_assign_Name (ac4 I hN hi hx r (fun s' I'=>⟨_,H,I',h⟩) hf)
def ay6:TGs:=fun vs σ H Q=>vs=[]∧Q σ H
def atp(t:TG)(u:TGs):TGs:=fun vs σ H Q=>∃v r,vs=v::r∧t v σ H fun σ' H'=>u r σ' H' Q
theorem an1:PGs X [] ay6:=by
 intro pins s σ H vs us Q I r h
 obtain⟨e,h⟩:=h
 subst e
 cases r
 exact assignInOrder_nil ⟨σ,H,I,h⟩
theorem akI{e:Expr}{es:List Expr}{t:TG}{u:TGs}(h1:PG X e t)(h2:PGs X es u)
  (hs:(assignEach (e::es) X.env).map (·.2)=assign e X.env::(assignEach es X.env).map (·.2):=by rfl):PGs X (e::es) (atp t u):=by
 intro pins s σ H vs us Q I r h
 obtain⟨v,vr,e1,h⟩:=h
 subst e1
 cases r with
 | cons r rr=>
  rw[hs]
  refine assignInOrder_cons (thn (h1 pins s σ H _ _ _ I r h) fun _ s1 ⟨σ1,H1,I1,q1⟩=>?_)
  exact h2 pins s1 σ1 H1 _ _ Q I1 rr q1
def ayg(K:PySem.W.Frag)(n:Nat)(t:TGs):TG:=fun v σ H Q=>∃a xs,v=.ref a∧SqT K H a xs∧xs.length=n∧t xs σ H Q
theorem apO{es:List Expr}{k:Nat}{t:TGs}{n:Nat}(hc:X.calm=true)(h:PGs X es t)
  (hn:(assignEach es X.env).length=n:=by rfl) (hst:(assignEach es X.env).findIdx? (·.1)=none:=by rfl):PG X (.Tuple es k pos) (ayg X.K n t):=by
 intro pins s σ H v u Q I r hw
 obtain⟨a,xs,e1,hq,hl,hw⟩:=hw
 subst e1
 cases r
 obtain⟨its,rv,ht,hz⟩:=I.tuple hq
 refine assign_Tuple_tuple (I.ok.hd hc) ht (by simp[hn,←hl,rv.length]) hst fun h' hx=>?_
 have I1:Inv X pins σ H { s with heap:=h' }:=I.kept (t':=s.toks) fun b o e=>hx b o (Nat.ne_of_lt (Heap.lt_size e)) e
 exact h pins _ σ H xs _ Q I1 (by simpa using rv) hw
def ax0(to ti:TE)(t:atk):TG:=fun v σ H Q=>to σ H fun o H1=>ti σ H1 fun i H2=>t o i v H2 fun H3=>Q σ H3
theorem apz{o i:Expr}{to ti:TE}{t:atk}(ho:PE X o to)(hi:PE X i ti)(hs:awD X t)
  (ha:∀v,assign (.Subscript o i pos) X.env v=(do
   let ov ←holding [v] (eval o X.env)
   let iv ←holding [v,ov] (eval i X.env)
   standAt pos
   holding [v,ov,iv] (setItem ov iv v)
   release [v,ov,iv] []):=by intro _;rfl):PG X (.Subscript o i pos) (ax0 to ti t):=by
 intro pins s σ H v u Q I r h
 rw[ha]
 refine wpAny_bind (wpAny_holding (thn (ho pins s σ H _ I h) fun ov s1 ⟨x,H1,I1,r1,q1⟩=>?_))
 refine wpAny_bind (wpAny_holding (thn (hi pins s1 σ H1 _ I1 q1) fun iv s2 ⟨y,H2,I2,r2,q2⟩=>?_))
 refine wpAny_bind (wpAny_standAt (wpAny_bind (wpAny_holding (thn (hs pins s2 σ H2 x y v ov iv u _ I2 r1 r2 r q2) fun _ s3 ⟨H3,I3,q3⟩=>?_))))
 exact wpAny_release ⟨σ,H3,I3,q3⟩
def aw5(te:TE)(g:TG):TS:=fun D σ H=>te σ H fun x H1=>g x σ H1 D.nx
theorem alB{tg e:Expr}{te:TE}{g:TG}(he:PE X e te)(hg:PG X tg g)(hs:swapsWithSole [tg] e pos.line X.env=pure false:=by rfl)(hw:swappedStores [tg] e X.env=pure none:=by rfl)
  (h1:(assignEach [tg] X.env).map (·.2)=[assign tg X.env]:=by rfl):PS X (.Assign [tg] e pos) (aw5 te g):=by
 intro pins s σ H D I h
 refine wpAny_Assign_stores (thn (he pins s σ H _ I h) fun v s1 ⟨x,H1,I1,r1,q1⟩=>?_) hs hw
 rw[h1]
 exact thn (hg pins s1 σ H1 x v _ I1 r1 q1) fun _ s2 q=>q
theorem akO{i:Nat}{x:Str}{e:Expr}{te:TE}{pos':Pos}(hN:X.N.Nodup)(hi:X.N[i]?=some x)(hx:Loc X.env.scope x)(he:PE X e te)(hs:swapsWith e (some (.Name x pos')) pos.line X.env=pure false:=by rfl)(hf:X.fn x=true∨X.env.scope.names.lookup x=some .local:=by first|exact .inl rfl|exact .inr rfl|assumption):
  PS X (.Assign [.Name x pos'] e pos) (aw5 te (apY i)):=by
 intro pins s σ H D I h
 refine wpAny_Assign_Name (thn (he pins s σ H _ I h) fun v s1 ⟨y,H1,I1,r1,q1⟩=>?_) hs
 exact ac4 I1 hN hi hx r1 (fun s2 I2=>⟨_,H1,I2,q1⟩) hf
end
section
variable{X:Cx}{pos:Pos}
def aq8(c:TT)(tb:TS):TS:=fun D σ H=>∃W:Nat→St→Hp→Prop,(∃m,W m σ H)∧∀m σ H,W m σ H→
 c σ H fun b H1=>if b=true then ∃N:St→Hp→Prop,(∀σ' H',N σ' H'→∃m',m'<m∧W m' σ' H')∧tb { D with nx:=N,ct:=N,bk:=D.nx } σ H1 else D.nx σ H1
theorem ajI{c:Expr}{body:List Stmt}{tc:TT}{tb:TS}(hp:PassesOwn (model X.prog X.w) X.A X.env X.xe)(hc:PT X c tc)(hb:PSs X body tb):PS X (.While c body [] pos) (aq8 tc tb):=by
 intro pins s σ H D I h
 obtain⟨W,⟨m0,w0⟩,turn⟩:=h
 refine wpAny_While (codeAny_whileLoop (fun n s'=>∃σ' H',Inv X pins σ' H' s'∧W n σ' H') ?_ m0 ⟨σ,H,I,w0⟩)
 rintro n s1 ⟨σ1,H1,I1,w1⟩
 refine wpAny_passesOwn hp (thn (hc pins s1 σ1 H1 _ I1 (turn n σ1 H1 w1)) fun b s2 ⟨H2,I2,q2⟩=>?_)
 cases b with
 | true=>
  obtain⟨N,hN,q2⟩:=q2
  rw[if_pos rfl]
  refine wpAny_passesOwn hp (thn (hb pins s2 σ1 H2 _ I2 q2) fun f s3 q3=>?_)
  cases f with
  | next=>
   obtain⟨σ3,H3,I3,n3⟩:=q3
   obtain⟨m',hm,w3⟩:=hN σ3 H3 n3
   exact⟨m',hm,σ3,H3,I3,w3⟩
  | cont=>
   obtain⟨σ3,H3,I3,n3⟩:=q3
   obtain⟨m',hm,w3⟩:=hN σ3 H3 n3
   exact⟨m',hm,σ3,H3,I3,w3⟩
  | brk=>exact q3
  | ret v=>exact q3
 | false=>
  rw[if_neg Bool.false_ne_true]
  exact wpAny_execs_nil ⟨σ1,H2,I2,q2⟩
end
structure It where
 go:Nat→Hp→Prop
 yld:Nat→Hp→V→Hp→Prop
 stop:Nat→Hp→Prop
def aeb(X:Cx)(pins:List (Addr×Obj))(H:Hp)(b:Addr):Prop:=
 H b=none∧b≠X.env.locals∧b∉X.fs∧(b∈X.ex∨X.s₀.heap.objs.size≤b)∧(∀x c,X.env.cells.lookup x=some c→c≠b)∧∀p∈X.pn++pins,p.1≠b
theorem Inv.fpOk{X:Cx}{pins:List (Addr×Obj)}{σ:St}{H H':Hp}{s:Shared}{b:Addr}(I:Inv X pins σ H s)(hb:s.heap.objs.size≤b)(hn:H' b=none):aeb X pins H' b:=by
 refine⟨hn,Nat.ne_of_gt (Nat.lt_of_lt_of_le I.lt hb),I.nofs hb,.inr (Nat.le_trans I.sz hb),fun x c e z=>?_,fun p hp z=>?_⟩
 ·obtain⟨v,q⟩:=I.cell x c e
  exact absurd (Nat.lt_of_lt_of_le q.lt (by rw[z];exact hb)) (Nat.lt_irrefl _)
 ·exact absurd (Nat.lt_of_lt_of_le (Heap.lt_size (I.pin p hp).1) (by rw[z];exact hb)) (Nat.lt_irrefl _)
structure Turn(P:Program)(w:World)(K:PySem.W.Frag)(tg:Expr)(J:It)(fp:List Addr)(it:Addr)(tn:Nat→Heap→Prop):Prop where
 mem:it∈fp
 obj:∀i h,tn i h→∀b∈fp,∃o,h.get? b=some o∧∀v,o.data≠.cell v
 keep:∀i h h',tn i h→(∀b∈fp,∀o,h.get? b=some o→h'.get? b=some o)→tn i h'
 item:∀(X:Cx),X.prog=P→X.w=w→X.K=K→X.calm=true→∀(i:Nat) (pins:List (Addr×Obj)) (s:Shared) (σ:St) (H:Hp) (E:Value→Shared→Prop),Inv X pins σ H s→(∀b∈fp,aeb X pins H b)→tn i s.heap→J.go i H→
  wpAny (model P w) X.A (pyNext (.ref it)) (fun r s1=>∃u,r=some u∧
   wpAny (model P w) X.A (letOwnedTupleGo tg (.ref it) u) (fun _ s2=>∃x H',Inv X pins σ H' s2∧aa8 x u∧J.yld i H x H'∧tn (i+1) s2.heap∧∀b∈fp,H' b=none) E s1) E s
 done:∀(X:Cx),X.prog=P→X.w=w→X.K=K→X.calm=true→∀(i:Nat) (pins:List (Addr×Obj)) (s:Shared) (σ:St) (H:Hp) (E:Value→Shared→Prop),Inv X pins σ H s→(∀b∈fp,aeb X pins H b)→tn i s.heap→J.stop i H→
  wpAny (model P w) X.A (pyNext (.ref it)) (fun r s1=>r=none∧Inv X pins σ H s1) E s
 self:∀(A:Around) (i:Nat) (s:Shared) (Q:Value→Shared→Prop) (E:Value→Shared→Prop),tn i s.heap→Q (.ref it) s→wpAny (model P w) A (pyIter (.ref it)) Q E s
abbrev TI:=St→Hp→(It→Hp→Prop)→Prop
def PIE(X:Cx)(pins:List (Addr×Obj))(σ:St)(tg:Expr)(R:It→Hp→Prop)(itv:Value)(s2:Shared):Prop:=
 ∃(it:Addr) (fp:List Addr) (tn:Nat→Heap→Prop) (J:It) (H':Hp),itv=.ref it∧Inv X pins σ H' s2∧Turn X.prog X.w X.K tg J fp it tn∧tn 0 s2.heap∧(∀b∈fp,aeb X pins H' b)∧R J H'
def PI(X:Cx)(tg iter:Expr)(wi:TI):Prop:=
 ∀(pins:List (Addr×Obj)) (s:Shared) (σ:St) (H:Hp) (R:It→Hp→Prop),Inv X pins σ H s→wi σ H R→
  wpAny (model X.prog X.w) X.A (eval iter X.env) (fun v s1=>wpAny (model X.prog X.w) X.A (pyIter v) (PIE X pins σ tg R) X.xe s1) X.xe s
theorem amc{M:Model}{A:Around}{E:Value→Shared→Prop}{s:Shared}{tg:Expr}{it:Addr}{u:Value}{o:Obj}{n:String}{vs:Array Value}{Q:Unit→Shared→Prop}(ho:s.heap.get? it=some o)(hc:o.cls=.type n)(hd:o.data=.fields vs)
  (hn:["enumerate","zip","dict_itemiterator","dict_reverseitemiterator","odict_iterator","itertools.zip_longest","itertools.pairwise"].contains n=false) (hQ:Q () s):wpAny M A (letOwnedTupleGo tg (.ref it) u) Q E s:=by
 unfold letOwnedTupleGo
 cases tg<;>first
  | exact wpAny_pure hQ
  | (cases u<;>first
    | exact wpAny_pure hQ
    | (refine wpAny_bind (wpAny_load ho ?_)
       rw[hc,hd]
       show wpAny M A (if(["enumerate","zip","dict_itemiterator","dict_reverseitemiterator","odict_iterator","itertools.zip_longest","itertools.pairwise"].contains n&&vs[0]?==some (rawInt _))=true then _ else _) Q E s
       rw[if_neg (by intro h;rw[hn,Bool.false_and]at h;cases h)]
       exact wpAny_pure hQ))
def Itl(K:PySem.W.Frag)(a:Addr):It:=
 ⟨fun i H=>∃xs x,SqL K H a xs∧xs[i]?=some x,fun i H x H'=>H'=H∧∀xs,SqL K H a xs→xs[i]?=some x,fun i H=>∃xs,SqL K H a xs∧xs.length≤i⟩
def Itt(K:PySem.W.Frag)(a:Addr):It:=
 ⟨fun i H=>∃xs x,SqT K H a xs∧xs[i]?=some x,fun i H x H'=>H'=H∧∀xs,SqT K H a xs→xs[i]?=some x,fun i H=>∃xs,SqT K H a xs∧xs.length≤i⟩
def Itr(lo:Int)(n:Nat):It:=⟨fun i _=>i<n,fun i H x H'=>H'=H∧x=.int (lo+i),fun i _=>n≤i⟩
theorem aiX{P:Program}{w:World}{K:PySem.W.Frag}{tg:Expr}(a it:Addr):Turn P w K tg (Itl K a) [it] it (fun i h=>h.IsListIter it a i)where
 mem:=by simp
 obj:=fun i h st b hb=>by
  have e:b=it:=by simpa using hb
  subst e
  obtain⟨o,e,c,d⟩:=st
  exact⟨o,e,fun v z=>by rw[d]at z;cases z⟩
 keep:=fun i h h' st k=>st.at fun o e=>k it (by simp) o e
 item:=by
  intro X hP hw hK hc i pins s σ H E I hf st hg
  subst hP hw hK
  obtain⟨xs,x,hq,hx⟩:=hg
  obtain⟨its,rv,p,hz⟩:=I.list hq
  obtain⟨u,hu,ru⟩:=rv.get hx
  obtain⟨f0,f1,f2,f3,f4,f5⟩:=hf it (by simp)
  refine wpAny_pyNext_list_item st p.isList (x:=u) (by simpa using hu) fun h' st' sb=>?_
  have I1:Inv X pins σ H { s with heap:=h' }:=I.turned (t':=s.toks) (fun b o hb e=>(sb.2 b hb).trans e) f0 f1 f3 f4 f5
  obtain⟨o,e,c,d⟩:=id st'
  exact⟨u,rfl,amc (s:={ s with heap:=h' }) e c d (by decide) ⟨x,H,I1,ru,⟨rfl,fun ys hy=>by rw[I.list_inj hy hq];exact hx⟩,st',fun b hb=>(hf b hb).1⟩⟩
 done:=by
  intro X hP hw hK hc i pins s σ H E I hf st hg
  subst hP hw hK
  obtain⟨xs,hq,hx⟩:=hg
  obtain⟨its,rv,p,hz⟩:=I.list hq
  obtain⟨f0,f1,f2,f3,f4,f5⟩:=hf it (by simp)
  have hl:=rv.length
  exact wpAny_pyNext_list_end (I.ok.hd hc) st p.isList (by simp;omega) fun h' eb=>⟨rfl,I.turned (t':=s.toks) (fun b o hb e=>eb b o hb e) f0 f1 f3 f4 f5⟩
 self:=fun _ _ _ _ _ st h=>wpAny_pyIter_listiter st h
theorem agZ{P:Program}{w:World}{K:PySem.W.Frag}{tg:Expr}(a it:Addr):Turn P w K tg (Itt K a) [it] it (fun i h=>h.IsTupleIter it a i)where
 mem:=by simp
 obj:=fun i h st b hb=>by
  have e:b=it:=by simpa using hb
  subst e
  obtain⟨o,e,c,d⟩:=st
  exact⟨o,e,fun v z=>by rw[d]at z;cases z⟩
 keep:=fun i h h' st k=>st.at fun o e=>k it (by simp) o e
 item:=by
  intro X hP hw hK hc i pins s σ H E I hf st hg
  subst hP hw hK
  obtain⟨xs,x,hq,hx⟩:=hg
  obtain⟨its,rv,p,hz⟩:=I.tuple hq
  obtain⟨u,hu,ru⟩:=rv.get hx
  obtain⟨f0,f1,f2,f3,f4,f5⟩:=hf it (by simp)
  refine wpAny_pyNext_tuple_item st (show s.heap.IsTuple a its.toArray from p) (x:=u) (by simpa using hu) fun h' st' sb=>?_
  have I1:Inv X pins σ H { s with heap:=h' }:=I.turned (t':=s.toks) (fun b o hb e=>(sb.2 b hb).trans e) f0 f1 f3 f4 f5
  obtain⟨o,e,c,d⟩:=id st'
  exact⟨u,rfl,amc (s:={ s with heap:=h' }) e c d (by decide) ⟨x,H,I1,ru,⟨rfl,fun ys hy=>by rw[I.tuple_inj hy hq];exact hx⟩,st',fun b hb=>(hf b hb).1⟩⟩
 done:=by
  intro X hP hw hK hc i pins s σ H E I hf st hg
  subst hP hw hK
  obtain⟨xs,hq,hx⟩:=hg
  obtain⟨its,rv,p,hz⟩:=I.tuple hq
  obtain⟨f0,f1,f2,f3,f4,f5⟩:=hf it (by simp)
  have hl:=rv.length
  exact wpAny_pyNext_tuple_end (I.ok.hd hc) st (show s.heap.IsTuple a its.toArray from p) (by simp;omega) fun h' eb=>⟨rfl,I.turned (t':=s.toks) (fun b o hb e=>eb b o hb e) f0 f1 f3 f4 f5⟩
 self:=fun _ _ _ _ _ st h=>wpAny_pyIter_tupleiter st h
theorem agA{P:Program}{w:World}{K:PySem.W.Frag}{tg:Expr}(it:Addr)(lo:Int)(n:Nat):Turn P w K tg (Itr lo n) [it] it (fun i h=>IsRangeIter h it (lo+(i:Nat)*1) ((n:Int)-(i:Nat)) 1)where
 mem:=by simp
 obj:=fun i h st b hb=>by
  have e:b=it:=by simpa using hb
  subst e
  exact⟨_,st,fun v z=>by
   have z':Data.fields _=Data.cell v:=z
   cases z'⟩
 keep:=fun i h h' st k=>k it (by simp) _ st
 item:=by
  intro X hP hw hK hc i pins s σ H E I hf st hg
  subst hP hw hK
  obtain⟨f0,f1,f2,f3,f4,f5⟩:=hf it (by simp)
  have W:=Walks.range (prog:=X.prog) (w:=X.w) (I.ok.hd hc) it lo 1 n
  refine W.item i s _ _ hg st fun v h' tk hv st' kk=>?_
  obtain⟨t,rfl⟩:=hv
  have I1:Inv X pins σ H { s with heap:=h',toks:=tk }:=I.turned (fun b o hb e=>kk b o (by simpa using hb) e) f0 f1 f3 f4 f5
  refine⟨_,rfl,amc (s:={ s with heap:=h',toks:=tk }) (n:="range_iterator") st' rfl rfl (by decide) ⟨.int (lo+i),H,I1,⟨t,?_⟩,⟨rfl,rfl⟩,st',fun b hb=>(hf b hb).1⟩⟩
  rw[Int.mul_one]
 done:=by
  intro X hP hw hK hc i pins s σ H E I hf st hg
  subst hP hw hK
  obtain⟨f0,f1,f2,f3,f4,f5⟩:=hf it (by simp)
  exact wpAny_pyNext_range_end (I.ok.hd hc) st (by have:n≤i:=hg;omega) fun h' eb=>⟨rfl,I.turned (t':=s.toks) (fun b o hb e=>eb b o hb e) f0 f1 f3 f4 f5⟩
 self:=fun _ _ _ _ _ st h=>wpAny_pyIter_rangeiter st h
end L2
namespace L2
open PySem PySem.Spec PyProof.Rows
section
variable{X:Cx}{tg:Expr}
theorem afW{pins:List (Addr×Obj)}{σ:St}{H:Hp}{s:Shared}{R:It→Hp→Prop}{E:Value→Shared→Prop}{lo hi:Int}{t u v:Tok}{tk:Nat}(I:Inv X pins σ H s)(h1:-(2^62)≤lo)(h2:lo<2^62)(h3:-(2^62)≤hi)(h4:hi<2^62)
  (q:R (Itr lo (hi-lo).toNat) H):wpAny (model X.prog X.w) X.A (pyIter (.ref s.heap.objs.size)) (PIE X pins σ tg R) E { s with heap:=s.heap.push { cls:=.type "range",data:=.fields #[.int lo t,.int hi u,.int 1 v] },toks:=tk }:=by
 refine wpAny_pyIter_range (IsRange.new ..) (small_one h1 h2 h3 h4) ?_
 have I1:Inv X pins σ H { s with heap:=s.heap.push { cls:=.type "range",data:=.fields #[.int lo t,.int hi u,.int 1 v] },toks:=tk }:=I.kept fun b o e=>Heap.get?_push_of_some _ e
 refine⟨(s.heap.push { cls:=.type "range",data:=.fields #[.int lo t,.int hi u,.int 1 v] }).objs.size,[(s.heap.push { cls:=.type "range",data:=.fields #[.int lo t,.int hi u,.int 1 v] }).objs.size],_,_,H,rfl,
  I1.kept (t':=tk) fun b o e=>Heap.get?_push_of_some _ e,agA _ lo (hi-lo).toNat,?_,fun b hb=>?_,q⟩
 ·have e1:lo+((0:Nat):Int)*1=lo:=by simp
  have e2:(((hi-lo).toNat:Nat):Int)-((0:Nat):Int)=Builtin.Range.rangeSize lo hi 1:=by rw[rangeSize_one];split<;>omega
  show IsRangeIter _ _ (lo+((0:Nat):Int)*1) ((((hi-lo).toNat:Nat):Int)-((0:Nat):Int)) 1
  rw[e1,e2]
  exact Heap.get?_push_size _ rfl
 ·have e:b=(s.heap.push { cls:=.type "range",data:=.fields #[.int lo t,.int hi u,.int 1 v] }).objs.size:=by simpa using hb
  subst e
  exact I1.fpOk (Nat.le_refl _) (I1.hok.fresh (Nat.le_refl _))
def atS(ta:TA):TI:=fun σ H R=>ta σ H fun vs H1=>∃j:Int,vs=[.int j]∧-(2^62)≤j∧j<2^62∧R (Itr 0 j.toNat) H1
def auw(ta:TA):TI:=fun σ H R=>ta σ H fun vs H1=>∃i j:Int,vs=[.int i,.int j]∧(-(2^62)≤i∧i<2^62∧-(2^62)≤j∧j<2^62)∧R (Itr i (j-i).toNat) H1
theorem ahR{a:Expr}{ta:TA}{p pos:Pos}(hg:Gl X "range")(hm:X.mg "range"=none)(ha:PA X [a] ta)(hs:starEach [a] X.env=[(false,eval a X.env)]:=by rfl):PI X tg (.Call (.Name "range" p) [a] [] pos) (atS ta):=by
 intro pins s σ H R I h
 refine Call_ (adm I hg hm boot_range (PyProof.Rows.callWith_type1 (thn (ha pos pins s σ H _ I h) fun us s1 ⟨vs,H1,I1,r1,q1⟩=>?_) hs rfl))
 obtain⟨j,e,q1,q2,q⟩:=q1
 subst e
 cases r1 with
 | cons r rr=>
  cases rr
  obtain⟨t,rfl⟩:=r
  exact call_range_1 (afW I1 (by omega) (by omega) q1 q2 (by simpa using q))
theorem aiN{a b:Expr}{ta:TA}{p pos:Pos}(hg:Gl X "range")(hm:X.mg "range"=none)(ha:PA X [a,b] ta)(hs:starEach [a,b] X.env=[(false,eval a X.env),(false,eval b X.env)]:=by rfl)(hs2:starEach [b] X.env=[(false,eval b X.env)]:=by rfl):
  PI X tg (.Call (.Name "range" p) [a,b] [] pos) (auw ta):=by
 intro pins s σ H R I h
 refine Call_ (adm I hg hm boot_range (PyProof.Rows.callWith_type1 (thn (ha pos pins s σ H _ I h) fun us s1 ⟨vs,H1,I1,r1,q1⟩=>?_) (by rw[hs,hs2]) (by rw[hs2];rfl)))
 obtain⟨i,j,e,⟨q1,q2,q3,q4⟩,q⟩:=q1
 subst e
 cases r1 with
 | cons r rr=>
  cases rr with
  | cons r' rr=>
   cases rr
   obtain⟨t,rfl⟩:=r
   obtain⟨t',rfl⟩:=r'
   exact call_range_2 (afW I1 q1 q2 q3 q4 q)
def axt(wi:TI)(g:TG)(tb:TS):TS:=fun D σ H=>wi σ H fun J H1=>∃W:Nat→Nat→St→Hp→Prop,(∃m,W 0 m σ H1)∧∀i m σ H,W i m σ H→
 (J.stop i H∧D.nx σ H)∨(J.go i H∧∃N:St→Hp→Prop,(∀σ' H',N σ' H'→∃m',m'<m∧W (i+1) m' σ' H')∧∀x H',J.yld i H x H'→g x σ H' fun σ2 H2=>tb { D with nx:=N,ct:=N,bk:=D.nx } σ2 H2)
def adx(fp:List Addr)(h:Heap):List (Addr×Obj):=fp.filterMap fun b=>(h.get? b).map fun o=>(b,o)
theorem abY{fp:List Addr}{h:Heap}{b:Addr}{o:Obj}(hb:b∈fp)(e:h.get? b=some o):(b,o)∈adx fp h:=List.mem_filterMap.mpr ⟨b,hb,by rw[e];rfl⟩
theorem ahF{fp:List Addr}{h:Heap}{p:Addr×Obj}(hp:p∈adx fp h):p.1∈fp∧h.get? p.1=some p.2:=by
 obtain⟨b,hb,e⟩:=List.mem_filterMap.mp hp
 cases q:h.get? b with
 | none=>rw[q]at e;cases e
 | some o=>
  rw[q]at e
  have e':(b,o)=p:=Option.some.inj e
  subst e'
  exact⟨hb,q⟩
theorem Inv.pinned{pins:List (Addr×Obj)}{σ:St}{H:Hp}{s:Shared}{fp:List Addr}(I:Inv X pins σ H s)(hf:∀b∈fp,aeb X pins H b)(ho:∀b∈fp,∃o,s.heap.get? b=some o∧∀v,o.data≠.cell v):Inv X (pins++adx fp s.heap) σ H s:=
 I.pins_of fun p hp=>(List.mem_append.mp hp).elim (fun z=>I.pin p (List.mem_append_right _ z)) fun z=>by
  obtain⟨hb,e⟩:=ahF z
  obtain⟨f0,f1,f2,_⟩:=hf p.1 hb
  obtain⟨o,e',d⟩:=ho p.1 hb
  rw[e]at e';cases e'
  exact⟨e,f0,f1,f2,d⟩
theorem Inv.unpinned{pins pl:List (Addr×Obj)}{σ:St}{H:Hp}{s:Shared}(I:Inv X (pins++pl) σ H s):Inv X pins σ H s:=I.pins_of fun p hp=>I.pin p (List.mem_append_right _ (List.mem_append_left _ hp))
theorem alI{iter:Expr}{body:List Stmt}{wi:TI}{g:TG}{tb:TS}{pos:Pos}(hp:PassesOwn (model X.prog X.w) X.A X.env X.xe)(hc:X.calm=true)(hi:PI X tg iter wi)(hg:PG X tg g)(hb:PSs X body tb)
  (hs:∀x,foldedSetIterable iter X.env x=pure x:=by intro _;rfl):PS X (.For tg iter body [] pos) (axt wi g tb):=by
 intro pins s σ H D I h
 refine wpAny_For (thn (hi pins s σ H _ I h) fun v s1 h1=>thn h1 fun itv s2 h2=>?_) hs
 obtain⟨it,fp,tn,J,H2,e,I2,T,st2,f2,W,⟨m0,w0⟩,turn⟩:=h2
 subst e
 have stat:∀{H':Hp},(∀b∈fp,H' b=none)→∀b∈fp,aeb X pins H' b:=fun hn b hb=>⟨hn b hb,(f2 b hb).2⟩
 refine codeAny_forLoop_any (fun n s'=>∃i σ' H',Inv X pins σ' H' s'∧tn i s'.heap∧(∀b∈fp,H' b=none)∧W i n σ' H') ?_ m0 ⟨0,σ,H2,I2,st2,fun b hb=>(f2 b hb).1,w0⟩
 rintro n s3 ⟨i,σ3,H3,I3,st3,fr3,w3⟩
 rcases turn i n σ3 H3 w3 with⟨stop,qn⟩|⟨go,N,hN,step⟩
 ·refine wpAny_passesOwn hp (thn (T.done X rfl rfl rfl hc i pins s3 σ3 H3 X.xe I3 (stat fr3) st3 stop) fun r s4 ⟨hr,I4⟩=>?_)
  subst hr
  exact wpAny_execs_nil ⟨σ3,H3,I4,qn⟩
 ·refine wpAny_passesOwn hp (thn (T.item X rfl rfl rfl hc i pins s3 σ3 H3 X.xe I3 (stat fr3) st3 go) fun r s4 ⟨u,hr,h4⟩=>?_)
  subst hr
  refine wpAny_passesOwn hp (thn h4 fun _ s5 ⟨x,H5,I5,r5,y5,st5,fr5⟩=>?_)
  have I5':=I5.pinned (stat fr5) (T.obj _ _ st5)
  refine wpAny_passesOwn hp (thn (hg _ s5 σ3 H5 x u _ I5' r5 (step x H5 y5)) fun _ s6 ⟨σ6,H6,I6,q6⟩=>?_)
  refine wpAny_passesOwn hp (thn (hb _ s6 σ6 H6 _ I6 q6) fun f s7 q7=>?_)
  have again:∀{σ7:St}{H7:Hp},Inv X (pins++adx fp s5.heap) σ7 H7 s7→N σ7 H7→∃m,m<n∧∃i σ' H',Inv X pins σ' H' s7∧tn i s7.heap∧(∀b∈fp,H' b=none)∧W i m σ' H':=fun {σ7 H7} I7 n7=>by
   obtain⟨m',hm,w7⟩:=hN σ7 H7 n7
   refine⟨m',hm,i+1,σ7,H7,I7.unpinned,T.keep _ _ _ st5 fun b hb o e=>(I7.pin (b,o) (List.mem_append_right _ (List.mem_append_right _ (abY hb e)))).1,fun b hb=>?_,w7⟩
   obtain⟨o,e,d⟩:=T.obj _ _ st5 b hb
   exact(I7.pin (b,o) (List.mem_append_right _ (List.mem_append_right _ (abY hb e)))).2.1
  cases f with
  | next=>obtain⟨σ7,H7,I7,n7⟩:=q7;exact again I7 n7
  | cont=>obtain⟨σ7,H7,I7,n7⟩:=q7;exact again I7 n7
  | brk=>obtain⟨σ7,H7,I7,q7⟩:=q7;exact⟨σ7,H7,I7.unpinned,q7⟩
  | ret v=>obtain⟨x7,σ7,H7,I7,r7,q7⟩:=q7;exact⟨x7,σ7,H7,I7.unpinned,r7,q7⟩
end
end L2
namespace L2
open PySem PySem.Spec PyProof.Rows
abbrev R2:=V→V→Hp→VK→Prop
def OpR(X:Cx)(f:Value→Value→Sem Value)(r:R2):Prop:=
 ∀(pins:List (Addr×Obj)) (s:Shared) (σ:St) (H:Hp) (x y:V) (v u:Value) (Q:VK),Inv X pins σ H s→aa8 x v→aa8 y u→r x y H Q→
  wpAny (model X.prog X.w) X.A (f v u) (EP X pins σ Q) X.xe s
def UnR(X:Cx)(f:Value→Sem Value)(r:V→Hp→VK→Prop):Prop:=
 ∀(pins:List (Addr×Obj)) (s:Shared) (σ:St) (H:Hp) (x:V) (v:Value) (Q:VK),Inv X pins σ H s→aa8 x v→r x H Q→
  wpAny (model X.prog X.w) X.A (f v) (EP X pins σ Q) X.xe s
def aa4(X:Cx)(f:Value)(r:List V→Hp→VK→Prop):Prop:=
 ∀(pins:List (Addr×Obj)) (s:Shared) (σ:St) (H:Hp) (xs:List V) (us:List Value) (Q:VK),Inv X pins σ H s→Vals xs us→r xs H Q→
  wpAny (model X.prog X.w) X.A (call f us) (EP X pins σ Q) X.xe s
def ax8(X:Cx)(r:V→Hp→(Bool→Hp→Prop)→Prop):Prop:=
 ∀(pins:List (Addr×Obj)) (s:Shared) (σ:St) (H:Hp) (x:V) (v:Value) (Q:Bool→Hp→Prop),Inv X pins σ H s→aa8 x v→r x H Q→
  wpAny (model X.prog X.w) X.A (truthy v) (TP X pins σ Q) X.xe s
def tOp(r:R2)(ta tb:TE):TE:=fun σ H Q=>ta σ H fun x H1=>tb σ H1 fun y H2=>r x y H2 Q
def tUn(r:V→Hp→VK→Prop)(ta:TE):TE:=fun σ H Q=>ta σ H fun x H1=>r x H1 Q
def rI(C:Int→Int→Prop)(g:Int→Int→V):R2:=fun x y H Q=>∃i j,x=.int i∧y=.int j∧C i j∧Q (g i j) H
def rI0(g:Int→Int→V):R2:=fun x y H Q=>∃i j,x=.int i∧y=.int j∧Q (g i j) H
def rU(g:Int→V):V→Hp→VK→Prop:=fun x H Q=>∃i,x=.int i∧Q (g i) H
section
variable{X:Cx}{a b c:Expr}{ta tb tc:TE}{pos:Pos}
theorem asC(ha:PE X a ta)(hb:PE X b tb){pins:List (Addr×Obj)}{s:Shared}{σ:St}{H:Hp}{R:V→V→Hp→Prop}(I:Inv X pins σ H s)
  (h:ta σ H fun x H1=>tb σ H1 fun y H2=>R x y H2) {Q:Value→Shared→Prop}{f:Value→Value→Sem Value}
  (hf:∀v u s2 x y H2,Inv X pins σ H2 s2→aa8 x v→aa8 y u→R x y H2→wpAny (model X.prog X.w) X.A (f v u) Q X.xe s2):
  wpAny (model X.prog X.w) X.A (eval a X.env) (fun v s₁=>wpAny (model X.prog X.w) X.A (eval b X.env) (fun u s₂=>wpAny (model X.prog X.w) X.A (f v u) Q X.xe s₂) X.xe s₁) X.xe s:=by
 refine thn (ha pins s σ H _ I h) fun v s1 ⟨x,H1,I1,r1,q1⟩=>?_
 refine thn (hb pins s1 σ H1 _ I1 q1) fun u s2 ⟨y,H2,I2,r2,q2⟩=>?_
 exact hf v u s2 x y H2 I2 r1 r2 q2
theorem ap7{op:Operator}{r:R2}(ho:OpR X (binaryOp op) r)(ha:PE X a ta)(hb:PE X b tb):PE X (.BinOp a op b pos) (tOp r ta tb):=by
 intro pins s σ H Q I h
 exact wpAny_BinOp (asC ha hb I h fun v u s2 x y H2 I2 rx ry q=>ho pins s2 σ H2 x y v u Q I2 rx ry q)
theorem au1{op:UnaryOp}{r:V→Hp→VK→Prop}(ho:UnR X (unaryOp op) r)(ha:PE X a ta):PE X (.UnaryOp op a pos) (tUn r ta):=by
 intro pins s σ H Q I h
 exact UnaryOp_ (thn (ha pins s σ H _ I h) fun v s1 ⟨x,H1,I1,r1,q1⟩=>ho pins s1 σ H1 x v Q I1 r1 q1)
theorem opI{f:Value→Value→Sem Value}{C:Int→Int→Prop}{g:Int→Int→Int}
  (rule:∀(i j:Int) (t u:Tok) (s:Shared) (Q:Value→Shared→Prop) (E:Value→Shared→Prop),C i j→Q (.int (g i j) s.toks) { s with toks:=s.toks+1 }→wpAny (model X.prog X.w) X.A (f (.int i t) (.int j u)) Q E s):
  OpR X f (rI C fun i j=>.int (g i j)):=by
 intro pins s σ H x y v u Q I rx ry h
 obtain⟨i,j,rfl,rfl,hc,q⟩:=h
 obtain⟨t,rfl⟩:=rx
 obtain⟨t',rfl⟩:=ry
 exact rule i j t t' s _ _ hc ⟨.int (g i j),H,I.tok _,⟨_,rfl⟩,q⟩
theorem awv{f:Value→Value→Sem Value}{g:Int→Int→Int}
  (rule:∀(i j:Int) (t u:Tok) (s:Shared) (Q:Value→Shared→Prop) (E:Value→Shared→Prop),Q (.int (g i j) s.toks) { s with toks:=s.toks+1 }→wpAny (model X.prog X.w) X.A (f (.int i t) (.int j u)) Q E s):
  OpR X f (rI0 fun i j=>.int (g i j)):=by
 intro pins s σ H x y v u Q I rx ry h
 obtain⟨i,j,rfl,rfl,q⟩:=h
 obtain⟨t,rfl⟩:=rx
 obtain⟨t',rfl⟩:=ry
 exact rule i j t t' s _ _ ⟨.int (g i j),H,I.tok _,⟨_,rfl⟩,q⟩
theorem art{f:Value→Value→Sem Value}{g:Int→Int→Bool}
  (rule:∀(i j:Int) (t u:Tok) (s:Shared) (Q:Value→Shared→Prop) (E:Value→Shared→Prop),Q (.bool (g i j)) s→wpAny (model X.prog X.w) X.A (f (.int i t) (.int j u)) Q E s):
  OpR X f (rI0 fun i j=>.bl (g i j)):=by
 intro pins s σ H x y v u Q I rx ry h
 obtain⟨i,j,rfl,rfl,q⟩:=h
 obtain⟨t,rfl⟩:=rx
 obtain⟨t',rfl⟩:=ry
 exact rule i j t t' s _ _ ⟨.bl (g i j),H,I,rfl,q⟩
def awZ(i j:Int):Prop:=0<j∧j<1073741824
def aui(i j:Int):Prop:=(-(2^64)<i∧i<2^64)∨(-(2^64)<j∧j<2^64)
theorem aui.ok{i j:Int}(h:aui i j):IntMulOk i j:=by
 rcases h with⟨h1,h2⟩|⟨h1,h2⟩
 ·exact .of_left (intBits_le_64 h1 h2)
 ·exact .of_right (intBits_le_64 h1 h2)
theorem apk:OpR X (binaryOp .Add) (rI0 fun i j=>.int (i+j)):=awv fun _ _ _ _ _ _ _ q=>add_int q
theorem ao6:OpR X (binaryOp .Sub) (rI0 fun i j=>.int (i-j)):=awv fun _ _ _ _ _ _ _ q=>sub_int q
theorem aag:OpR X (binaryOp .Mult) (rI aui fun i j=>.int (i*j)):=opI fun _ _ _ _ _ _ _ hc q=>mul_int q hc.ok
theorem aaH:OpR X (binaryOp .FloorDiv) (rI awZ fun i j=>.int (i / j)):=opI fun i j _ _ _ _ _ hc q=>by
 have h1:(0:Int)<j:=hc.1
 have h2:j<1073741824:=hc.2
 exact floordiv_int (by omega) (by rw[Int.fdiv_eq_ediv_of_nonneg i (by omega)];exact q) (.inl (PyProof.noPylong_small (by omega)))
theorem aay:OpR X (binaryOp .Mod) (rI (fun _ j=>0<j) fun i j=>.int (i % j)):=opI fun i j _ _ _ _ _ hc q=>by
 have h1:(0:Int)<j:=hc
 exact mod_int' (by omega) (by rw[Int.fmod_eq_emod_of_nonneg i (by omega)];exact q)
theorem unI{f:Value→Sem Value}{g:Int→Int}
  (rule:∀(i:Int) (t:Tok) (s:Shared) (Q:Value→Shared→Prop) (E:Value→Shared→Prop),Q (.int (g i) s.toks) { s with toks:=s.toks+1 }→wpAny (model X.prog X.w) X.A (f (.int i t)) Q E s):
  UnR X f (rU fun i=>.int (g i)):=by
 intro pins s σ H x v Q I rx h
 obtain⟨i,rfl,q⟩:=h
 obtain⟨t,rfl⟩:=rx
 exact rule i t s _ _ ⟨.int (g i),H,I.tok _,⟨_,rfl⟩,q⟩
theorem aqu:UnR X (unaryOp .USub) (rU fun i=>.int (-i)):=unI fun _ _ _ _ _ q=>neg_int q
end
section
variable{X:Cx}{a b c:Expr}{ta tb tc:TE}{pos:Pos}
theorem akV{pins:List (Addr×Obj)}{σ:St}{H:Hp}{s:Shared}{Q:VK}{k k':Bool}(I:Inv X pins σ H s)(q:Q (.bl k) H)(e:k=k'):EP X pins σ Q (.bool k') s:=by
 subst e
 exact⟨.bl k,H,I,rfl,q⟩
theorem ask:OpR X (compareOp .Lt) (rI0 fun i j=>.bl (decide (i<j))):=art fun _ _ _ _ _ _ _ q=>lt_int q
theorem arF:OpR X (compareOp .LtE) (rI0 fun i j=>.bl (decide (i≤j))):=art fun _ _ _ _ _ _ _ q=>le_int q
theorem auz:OpR X (compareOp .Gt) (rI0 fun i j=>.bl (decide (j<i))):=art fun _ _ _ _ _ _ _ q=>gt_int q
theorem atE:OpR X (compareOp .GtE) (rI0 fun i j=>.bl (decide (j≤i))):=art fun _ _ _ _ _ _ _ q=>ge_int q
theorem aqH:OpR X (compareOp .Is) (fun x y H Q=>y=.non∧Q (.bl (decide (x=.non))) H):=by
 intro pins s σ H x y v u Q I rx ry h
 obtain⟨rfl,q⟩:=h
 cases ry
 refine is_none_gen (akV I q ?_)
 cases x<;>first
  | (cases rx;rfl)
  | (obtain⟨t,rfl⟩:=rx;rfl)
theorem amD:OpR X (compareOp .IsNot) (fun x y H Q=>y=.non∧Q (.bl (!decide (x=.non))) H):=by
 intro pins s σ H x y v u Q I rx ry h
 obtain⟨rfl,q⟩:=h
 cases ry
 refine isnot_none_gen (akV I q ?_)
 cases x<;>first
  | (cases rx;rfl)
  | (obtain⟨t,rfl⟩:=rx;rfl)
def atH:HO→Bool
 | .lst _=>true
 | .ins _ _ _=>true
 | _=>false
theorem aet{pins:List (Addr×Obj)}{s:Shared}{σ:St}{H:Hp}{a:Addr}{o:HO}(I:Inv X pins σ H s)(h:H a=some o)(p:atH o=true):∃ob,s.heap.get? a=some ob∧ob.cls≠.type "tuple":=by
 cases o with
 | lst xs=>
  obtain⟨_,its,n,_,e⟩:xs.length≤sizeLine∧∃(its:List Value) (n:Nat),Vals xs its∧s.heap.get? a=some { cls:=.type "list",data:=.seq its.toArray n }:=I.hok a _ h
  exact⟨_,e,(by show Value.type "list"≠.type "tuple";decide +kernel)⟩
 | ins C dx fs=>
  have x:=I.hok a _ h
  obtain⟨_,_,_,e,_⟩:=x
  exact⟨_,e,(by show Value.ref C≠.type "tuple";exact fun z=>by cases z)⟩
 | _=>exact absurd (show false=true from p) Bool.false_ne_true
theorem OpR.or{f:Value→Value→Sem Value}{r r':R2}(h:OpR X f r)(h':OpR X f r'):OpR X f (fun x y H Q=>r x y H Q∨r' x y H Q):=by
 intro pins s σ H x y v u Q I rx ry q
 rcases q with q|q
 ·exact h pins s σ H x y v u Q I rx ry q
 ·exact h' pins s σ H x y v u Q I rx ry q
theorem awG(b:Expr){op:CmpOp}(h:op≠.In:=by decide)(h2:op≠.NotIn:=by decide):behindInMarks op b=false:=by
 have e1:(op==CmpOp.In)=false:=by cases op<;>first|rfl|exact absurd rfl h
 have e2:(op==CmpOp.NotIn)=false:=by cases op<;>first|rfl|exact absurd rfl h2
 cases b<;>simp[behindInMarks,e1,e2]
theorem amy{op:CmpOp}{r:R2}(ho:OpR X (compareOp op) r)(ha:PE X a ta)(hb:PE X b tb)(hm:behindInMarks op b=false):PE X (.Compare a [op] [b] pos) (tOp r ta tb):=by
 intro pins s σ H Q I h
 exact wpAny_Compare1 (asC ha hb I h fun v u s2 x y H2 I2 rx ry q=>ho pins s2 σ H2 x y v u Q I2 rx ry q) hm
def ats(t:TE):TT:=fun σ H Q=>t σ H fun x H'=>∃k,x=.bl k∧Q k H'
theorem amo{op:CmpOp}{r:R2}(ho:OpR X (compareOp op) r)(ha:PE X a ta)(hb:PE X b tb)(hm:behindInMarks op b=false):PT X (.Compare a [op] [b] pos) (ats (tOp r ta tb)):=by
 intro pins s σ H Q I h
 refine wpAny_isTrue_Compare1 (thn (ha pins s σ H _ I h) fun v s1 ⟨x,H1,I1,r1,q1⟩=>thn (hb pins s1 σ H1 _ I1 q1) fun u s2 ⟨y,H2,I2,r2,q2⟩=>
  thn (ho pins s2 σ H2 x y v u _ I2 r1 r2 q2) fun c s3 ⟨z,H3,I3,r3,k,e,q3⟩=>?_) hm
 subst e
 cases r3
 exact wpAny_truthy_bool ⟨H3,I3,q3⟩
def as4(K:PySem.W.Frag)(x:V)(H:Hp)(k:Bool):Prop:=
 match x with
 | .non=>k=false
 | .bl b=>k=b
 | .int i=>k=(i != 0)
 | .str y=>y.length≤sizeLine∧k=((y.length:Int) != 0)
 | .byt y=>y.size≤sizeLine∧k=((y.size:Int) != 0)
 | .ref p=>(∃xs,SqL K H p xs∧k=!xs.isEmpty)∨(∃xs,SqT K H p xs∧k=!xs.isEmpty)∨∃kvs,H p=some (.dK kvs)∧k=!kvs.isEmpty
 | _=>False
theorem agX{κ:Type}{kvs:List (κ×V)}{vs:List (κ×Value)}(r:KV kvs vs):(!vs.isEmpty)=!kvs.isEmpty:=by
 cases r<;>rfl
theorem ad6{xs:List V}{its:List Value}(r:Vals xs its):(!its.toArray.isEmpty)=!xs.isEmpty:=by
 cases r<;>simp
theorem ad3:(sizeLine:Nat)<2^63:=by rw[sizeLine_eq];decide
theorem alC:ax8 X (fun x H Q=>∃k,as4 X.K x H k∧Q k H):=by
 intro pins s σ H x v Q I rx h
 obtain⟨k,e,q⟩:=h
 have hl:=ad3
 have hs:sizeLine=16777216:=sizeLine_eq
 cases x with
 | non=>
  cases rx
  have e':k=false:=e
  subst e'
  exact truthy_none ⟨H,I,q⟩
 | bl b=>
  cases rx
  have e':k=b:=e
  subst e'
  exact wpAny_truthy_bool ⟨H,I,q⟩
 | int i=>
  obtain⟨t,rfl⟩:=rx
  have e':k=(i != 0):=e
  subst e'
  exact PySem.P.truthy_int ⟨H,I,q⟩
 | str y=>
  obtain⟨t,rfl⟩:=rx
  obtain⟨hy,e'⟩:y.length≤sizeLine∧k=((y.length:Int) != 0):=e
  subst e'
  exact PySem.P.truthy_str (by omega) ⟨H,I.tok _,q⟩
 | byt y=>
  obtain⟨t,rfl⟩:=rx
  obtain⟨hy,e'⟩:y.size≤sizeLine∧k=((y.size:Int) != 0):=e
  subst e'
  exact PySem.W.truthy_bytes (by omega) ⟨H,I.tok _,q⟩
 | ref p=>
  cases rx
  have e':(∃xs,SqL X.K H p xs∧k=!xs.isEmpty)∨(∃xs,SqT X.K H p xs∧k=!xs.isEmpty)∨∃kvs,H p=some (.dK kvs)∧k=!kvs.isEmpty:=e
  rcases e' with⟨xs,hx,e'⟩|⟨xs,hx,e'⟩|⟨kvs,hx,e'⟩
  ·subst e'
   obtain⟨its,r,pl,hz⟩:=I.list hx
   have hlen:=r.length
   exact wpAny_truthy_list pl.isList (by simp only[List.size_toArray];omega) ⟨H,I.tok _,by rw[ad6 r];exact q⟩
  ·subst e'
   obtain⟨its,r,pl,hz⟩:=I.tuple hx
   have hlen:=r.length
   exact truthy_tuple pl (by simp only[List.size_toArray];omega) ⟨H,I.tok _,by rw[ad6 r];exact q⟩
  ·subst e'
   obtain⟨hz,hS,vs,r,m⟩:kvs.length≤sizeLine∧(p==sysModules)=false∧∃vs,KV kvs vs∧s.heap.DictOf (afM X.prog X.w) p vs:=I.hok p _ hx
   have hlen:kvs.length=vs.length:=Paired.length r
   exact wpAny_truthy_dict hS m (by omega) ⟨H,I.tok _,by rw[agX r];exact q⟩
 | _=>exact(show False from e).elim
theorem ajD(ha:PE X a ta)(he:∀whole,isTrue a X.env whole=(do let v ←whole;standAt a.pos;holding [v] (truthy v))):
  PT X a (fun σ H Q=>ta σ H fun x H'=>∃k,as4 X.K x H' k∧Q k H'):=by
 intro pins s σ H Q I h
 exact isTrue_plain (thn (ha pins s σ H _ I h) fun v s1 ⟨x,H1,I1,r1,q1⟩=>alC pins s1 σ H1 x v Q I1 r1 q1) (he _)
theorem ah5{x:V}{us:List Value}(r:Vals [x] us):∃u,us=[u]∧aa8 x u:=by
 cases r with
 | cons r1 r2=>cases r2;exact⟨_,rfl,r1⟩
theorem auc{x y:V}{us:List Value}(r:Vals [x,y] us):∃u w',us=[u,w']∧aa8 x u∧aa8 y w':=by
 cases r with
 | cons r1 r2=>
  cases r2 with
  | cons r3 r4=>cases r4;exact⟨_,_,rfl,r1,r3⟩
theorem ajE:aa4 X (.builtin "abs") (fun xs H Q=>∃i,xs=[.int i]∧Q (.int (if i<0 then -i else i)) H):=by
 intro pins s σ H xs us Q I r h
 obtain⟨i,rfl,q⟩:=h
 obtain⟨u,rfl,t,rfl⟩:=ah5 r
 exact call_abs_int fun u tk=>⟨.int (if i<0 then -i else i),H,I.tok _,⟨_,rfl⟩,q⟩
theorem aiy(hc:X.calm=true):aa4 X (.builtin "max") (fun xs H Q=>∃i j,xs=[.int i,.int j]∧Q (.int (if j>i then j else i)) H):=by
 intro pins s σ H xs us Q I r h
 obtain⟨i,j,rfl,q⟩:=h
 obtain⟨u,w',rfl,⟨t,rfl⟩,⟨t',rfl⟩⟩:=auc r
 refine max_two_ints (I.ok.hd hc) fun h' tk k=>⟨_,H,I.kept k,?_,q⟩
 by_cases hj:j>i
 ·rw[if_pos hj,if_pos hj];exact⟨_,rfl⟩
 ·rw[if_neg hj,if_neg hj];exact⟨_,rfl⟩
theorem ah9:aa4 X (.type "int") (fun xs H Q=>(∃i,xs=[.int i]∧Q (.int i) H)∨∃k,xs=[.bl k]∧Q (.int (if k then 1 else 0)) H):=by
 intro pins s σ H xs us Q I r h
 rcases h with⟨i,rfl,q⟩|⟨k,rfl,q⟩
 ·obtain⟨u,rfl,t,rfl⟩:=ah5 r
  exact call_int_int ⟨.int i,H,I,⟨_,rfl⟩,q⟩
 ·obtain⟨u,rfl,r1⟩:=ah5 r
  cases r1
  exact call_int_bool ⟨.int (if k then 1 else 0),H,I.tok _,⟨_,rfl⟩,q⟩
end
end L2
namespace L2
open PySem PySem.Spec PyProof.Rows
structure ObjM(h:Heap)(x dx C:Addr)(mA:Str→Option Value):Prop where
 obj:h.get? x=some (PySem.W.instObj C dx)
 ns:h.Ns1 dx mA
 ne:dx≠x
theorem ah1{h:Heap}{dx:Addr}{mA:Str→Option Value}(n:h.Ns1 dx mA):∃od,h.get? dx=some od∧∀name,PySem.W.lookIn name od=some (mA name):=by
 obtain⟨o,es,ep,ho,hd,hk,_,hm⟩:=n
 refine⟨o,ho,fun name=>?_⟩
 have e:=hm name
 unfold nsFind findBy at e
 rw[←Array.find?_toList]at e
 unfold PySem.W.lookIn
 rw[hd]
 dsimp only
 split
 ·rename_i y q
  rw[q]at e
  exact congrArg some e
 ·rename_i q
  rw[q]at e
  have a:es.toList.any (·.refKey)=false:=by
   rw[List.any_eq_false]
   intro y hy
   obtain⟨z,t,hkey⟩:=hk y (Array.mem_toList_iff.mp hy)
   simp[DictEntry.refKey,hkey]
  have a':¬es.toList.any (·.refKey)=true:=by rw[a];exact Bool.false_ne_true
  rw[if_neg a']
  exact congrArg some e
theorem ObjM.look{h:Heap}{x dx C:Addr}{mA:Str→Option Value}(I:ObjM h x dx C mA):∃od,PySem.W.InstAt h x (PySem.W.instObj C dx) C (some od)∧∀name,PySem.W.lookIn name od=some (mA name):=
 let ⟨od,ho,hl⟩:=ah1 I.ns
 ⟨od,⟨I.obj,rfl,rfl,ho⟩,hl⟩
section
variable{prog:Program}{w:World}{A:Around}{E:Value→Shared→Prop}{s:Shared}{K:PySem.W.Frag}{x dx C f:Addr}{mA:Str→Option Value}{name:Str}{v:Value}
theorem amT{expr:Bool}{Q:Value→Shared→Prop}(X:K.In s.heap)(I:ObjM s.heap x dx C mA)(hg:PySem.W.plainGet K C name=true)(hh:PySem.W.hasDictIn K C=true)
  (ha:PySem.W.findIn K (.ref C) name=some none) (hv:mA name=some v) (hv':PySem.W.handedIn v=true) (h:Q v { s with toks:=s.toks+1 }):
  wpAny (model prog w) A (getAttr (.ref x) name expr) Q E s:=by
 obtain⟨od,J,hl⟩:=I.look
 exact PySem.W.get_value X J (PySem.W.plainGet_of hg).1 (PySem.W.findObj_own hh ha rfl (by rw[hl,hv])) hv' h
theorem ako{pl:Sem Bool}{Q:Value×List Value→Shared→Prop}(X:K.In s.heap)(I:ObjM s.heap x dx C mA)(hg:PySem.W.plainGet K C name=true)
  (hf:PySem.W.findIn K (.ref C) name=some (some (.ref f))) (ht:PySem.W.isFn K (.ref f)=true) (hv:mA name=none) (h:Q (.ref f,[.ref x]) s):
  wpAny (model prog w) A (getMethod (.ref x) name pl) Q E s:=by
 obtain⟨od,J,hl⟩:=I.look
 exact PySem.W.method_fn X J (PySem.W.plainGet_of hg).1 (PySem.W.plainGet_of hg).2 hf (beq_iff_eq.mp ht) (by show(PySem.W.lookIn name od).map (·.isSome)=some false;rw[hl,hv];rfl) h
theorem amL{ns:List Str}{Q:Unit→Shared→Prop}(X:K.In s.heap)(I:ObjM s.heap x dx C mA)
  (hs:PySem.W.findIn K (.ref C) "__setattr__"=some (some (.builtin "object.__setattr__"))) (hp:PySem.W.plainOver K C=true) (ht:PySem.W.takerIn K C name=some none) (hh:PySem.W.hasDictIn K C=true)
  (hw:PySem.Within mA ns) (hsz:ns.length≤sizeLine)
  (h:∀h',ObjM h' x dx C (fun y=>if y=name then some v else mA y)→Heap.SameBut dx s.heap h'→Q () { s with heap:=h',toks:=s.toks+2 }):
  wpAny (model prog w) A (setAttr (.ref x) name v) Q E s:=by
 obtain⟨od,J,hl⟩:=I.look
 refine PySem.W.set_plain X J hs (PySem.W.osa_open (s:={ s with toks:=s.toks+1 }) (r:=none) X J hp ht fun b=>?_)
 obtain⟨cd,hc,hd'⟩:=PySem.W.any_some hh
 have hx:s.heap.get? x=some ⟨.ref C,some dx,.plain,#[]⟩:=I.obj
 refine wpAny_bind (wpAny_pure (wpAny_bind (wpAny_bind (wpAny_loadPart hx (wpAny_bind (PySem.W.Looks.here (s:={ s with toks:=s.toks+1 }) (PySem.W.looks_clsIn X hc) ?_))))))
 rw[hd']
 refine wpAny_pure (a:=some dx) (wpAny_bind (wpAny_pure (wpAny_bind ?_)))
 refine wpAny_nsSet1 (s:={ s with toks:=s.toks+1 }) I.ns fun h' hn2 hs2=>?_
 obtain⟨oD,esD,epD,hoD,hdD,hcD⟩:=hn2.count (PySem.Within.cons name v hw)
 refine wpAny_bind (wpAny_lookBehind hoD (by rw[hdD];exact pastItsLine_dict (Nat.le_trans hcD (by rw[List.length_cons];omega))) ?_)
 exact wpAny_pure (h _ ⟨(hs2.2 _ (Ne.symm I.ne)).trans I.obj,hn2,I.ne⟩ hs2)
theorem akq{R:Result→Shared→Prop}{vs:List Value}{kw:List (Str×Value)}(X:K.In s.heap)(hm:PySem.W.makesIn K C=true)
  (hi:PySem.W.findIn K (.ref C) "__init__"=some (some (.ref f))) (hf:PySem.W.typeIn K (.ref f)=some (.type "function"))
  (h:codeAny (model prog w) (A.under (.builtin "type.__call__" ⟨.ref C::vs,kw⟩)) (.call (.ref f) ⟨.ref (s.heap.objs.size+1)::vs,kw⟩) (PySem.W.InitBack (s.heap.objs.size+1) R)
   { s with heap:=(s.heap.push PySem.W.emptyDict).push (PySem.W.instObj C s.heap.objs.size) }):
  codeAny (model prog w) A (.call (.ref C) ⟨vs,kw⟩) R s:=by
 obtain⟨hh,g,d,t,os⟩:=s
 exact PySem.W.make_core (PySem.W.makes_of X hm) (PySem.W.looks_findIn X hi) (fun self=>PySem.W.bind_fn X self hf) (.inl rfl) h
end
def abX(f:Str)(v:V):List (Str×V)→List (Str×V)
 | []=>[(f,v)]
 | (g,x)::r=>if g=f then(g,v)::r else(g,x)::abX f v r
theorem abA(f g:Str)(v:V):∀fs:List (Str×V),(abX f v fs).lookup g=if g=f then some v else fs.lookup g
 | []=>by
  show List.lookup g [(f,v)]=_
  by_cases h:g=f
  ·have hb:(g==f)=true:=beq_iff_eq.mpr h
   simp only[List.lookup,hb,if_pos h]
  ·have hb:(g==f)=false:=beq_eq_false_iff_ne.mpr h
   simp only[List.lookup,hb,if_neg h]
 | (k,x)::r=>by
  have ih:=abA f g v r
  rw[show abX f v ((k,x)::r)=(if k=f then(k,v)::r else(k,x)::abX f v r)from rfl]
  by_cases hk:k=f
  ·rw[if_pos hk]
   by_cases h:g=k
   ·have hb:(g==k)=true:=beq_iff_eq.mpr h
    simp only[List.lookup,hb,if_pos (h.trans hk)]
   ·have hb:(g==k)=false:=beq_eq_false_iff_ne.mpr h
    simp only[List.lookup,hb,if_neg (fun e:g=f=>h (e.trans hk.symm))]
  ·rw[if_neg hk]
   by_cases h:g=k
   ·have hb:(g==k)=true:=beq_iff_eq.mpr h
    simp only[List.lookup,hb,if_neg (fun e:g=f=>hk (h.symm.trans e))]
   ·have hb:(g==k)=false:=beq_eq_false_iff_ne.mpr h
    simp only[List.lookup,hb]
    exact ih
theorem acZ(f:Str)(v:V):∀fs:List (Str×V),f∈(abX f v fs).map (·.1)∧∀g,g∈fs.map (·.1)→g∈(abX f v fs).map (·.1)
 | []=>⟨by simp[abX],fun g h=>by simp at h⟩
 | (k,x)::r=>by
  obtain⟨i1,i2⟩:=acZ f v r
  rw[show abX f v ((k,x)::r)=(if k=f then(k,v)::r else(k,x)::abX f v r)from rfl]
  by_cases hk:k=f
  ·rw[if_pos hk]
   subst hk
   exact⟨by simp,fun g h=>by simpa using h⟩
  ·rw[if_neg hk]
   refine⟨?_,fun g h=>?_⟩
   ·rw[List.map_cons]
    exact List.mem_cons_of_mem _ i1
   ·rw[List.map_cons]at h ⊢
    rcases List.mem_cons.mp h with e|e
    ·exact List.mem_cons.mpr (.inl e)
    ·exact List.mem_cons_of_mem _ (i2 g e)
theorem acE(f:Str)(v:V):∀fs:List (Str×V),(abX f v fs).length≤fs.length+1
 | []=>by simp[abX]
 | (k,x)::r=>by
  have ih:=acE f v r
  rw[show abX f v ((k,x)::r)=(if k=f then(k,v)::r else(k,x)::abX f v r)from rfl]
  by_cases hk:k=f
  ·rw[if_pos hk,List.length_cons,List.length_cons];omega
  ·rw[if_neg hk,List.length_cons,List.length_cons];omega
theorem ajr.some_of{v:V}{o:Option Value}(r:ajr (some v) o):∃u,o=some u∧aa8 v u:=by
 cases o with
 | none=>exact(show False from r).elim
 | some u=>exact⟨u,rfl,r⟩
theorem ajr.none_of{o:Option Value}(r:ajr none o):o=none:=by
 cases o with
 | none=>rfl
 | some u=>exact(show False from r).elim
theorem aib{v:V}{u:Value}(r:aa8 v u):PySem.W.handedIn u=true:=by
 cases v with
 | non=>cases(show u=Value.none from r);rfl
 | bl b=>cases(show u=Value.bool b from r);rfl
 | int i=>obtain⟨t,e⟩:=(show ∃t,u=Value.int i t from r);cases e;rfl
 | str x=>obtain⟨t,e⟩:=(show ∃t,u=Value.str x t from r);cases e;rfl
 | byt b=>obtain⟨t,e⟩:=(show ∃t,u=Value.bytes b t from r);cases e;rfl
 | flt b=>obtain⟨t,e⟩:=(show ∃t,u=Value.float b t from r);cases e;rfl
 | ref a=>cases(show u=Value.ref a from r);rfl
 | ty n=>cases(show u=Value.type n from r);rfl
section
variable{P:Program}{w:World}{H H':Hp}{h h':Heap}{a C dx:Addr}{fs fs':List (Str×V)}
theorem adI(hok:HOk P w H h)(e:H a=some (.ins C dx fs)):∃mA,ObjM h a dx C mA∧(∀f,ajr (fs.lookup f) (mA f))∧PySem.Within mA (fs.map (·.1))∧fs.length≤1000∧H dx=some (.own a):=by
 obtain⟨d,z,ne,ob,mA,n,r,q⟩:=(show abi P w H h a (.ins C dx fs)from hok a _ e)
 exact⟨mA,⟨ob,n,ne⟩,r,q,z,d⟩
end
structure Cls(K:PySem.W.Frag)(C:Addr):Prop where
 pg:PySem.W.plainGet K C Str.empty=true
 hd:PySem.W.hasDictIn K C=true
 po:PySem.W.plainOver K C=true
 sa:PySem.W.findIn K (.ref C) "__setattr__"=some (some (.builtin "object.__setattr__"))
theorem Cls.get{K:PySem.W.Frag}{C:Addr}(c:Cls K C)(f:Str):PySem.W.plainGet K C f=true:=c.pg
def abb(K:PySem.W.Frag)(C:Addr)(f:Str):Prop:=PySem.W.findIn K (.ref C) f=some none
theorem abb.taker{K:PySem.W.Frag}{C:Addr}{f:Str}(n:abb K C f):PySem.W.takerIn K C f=some none:=by
 unfold PySem.W.takerIn
 rw[show PySem.W.findIn K (.ref C) f=some none from n]
 rfl
structure Con(K:PySem.W.Frag)(C:Addr)(f:Str)(v:V)(u:Value):Prop where
 at_:PySem.W.findIn K (.ref C) f=some (some u)
 rel:aa8 v u
 get:PySem.W.specialIn K u "__get__"=some none
 cp:PySem.W.copiedNames.contains f=false
structure Meth(K:PySem.W.Frag)(C:Addr)(m:Str)(f:Addr):Prop where
 at_:PySem.W.findIn K (.ref C) m=some (some (.ref f))
 fn:PySem.W.isFn K (.ref f)=true
 kp:PySem.W.keepIn K (.ref f)=true
section
variable{X:Cx}{pins:List (Addr×Obj)}{σ:St}{H:Hp}{s:Shared}{a C dx:Addr}{fs:List (Str×V)}{f:Str}{v:V}{A:Around}{E:Value→Shared→Prop}
theorem ag9{b:Bool}{Q:Value→Shared→Prop}(I:Inv X pins σ H s)(e:H a=some (.ins C dx fs))(c:Cls X.K C)(n:abb X.K C f)(l:fs.lookup f=some v)
  (h:∀u s',Inv X pins σ H s'→aa8 v u→Q u s'):wpAny (model X.prog X.w) A (getAttr (.ref a) f b) Q E s:=by
 obtain⟨mA,O,r,_,_,_⟩:=adI I.hok e
 obtain⟨u,hu,ru⟩:=ajr.some_of (v:=v) (o:=mA f) (by rw[←l];exact r f)
 exact amT I.kIn O (c.get f) c.hd n hu (aib ru) (h u _ (I.tok _) ru)
theorem adq{m:Str}{g:Addr}{pl:Sem Bool}{Q:Value×List Value→Shared→Prop}(I:Inv X pins σ H s)(e:H a=some (.ins C dx fs))(c:Cls X.K C)(k:Meth X.K C m g)(l:fs.lookup m=none)
  (h:Q (.ref g,[.ref a]) s):wpAny (model X.prog X.w) A (getMethod (.ref a) m pl) Q E s:=by
 obtain⟨mA,O,r,_,_,_⟩:=adI I.hok e
 have hn:mA m=none:=ajr.none_of (by rw[←l];exact r m)
 exact ako I.kIn O (c.get m) k.at_ k.fn hn h
theorem agL{y:V}{u:Value}{Q:Unit→Shared→Prop}(I:Inv X pins σ H s)(e:H a=some (.ins C dx fs))(c:Cls X.K C)(n:abb X.K C f)(hl:fs.length<1000)(ry:aa8 y u)
  (h:∀s',Inv X pins σ (upd H a (.ins C dx (abX f y fs))) s'→Q () s'):wpAny (model X.prog X.w) A (setAttr (.ref a) f u) Q E s:=by
 obtain⟨mA,O,r,wi,_,ho⟩:=adI I.hok e
 have hz:(fs.map (·.1)).length≤sizeLine:=by rw[List.length_map,sizeLine_eq];omega
 refine amL I.kIn O c.sa c.po n.taker c.hd wi hz fun h' O' sb=>h _ ?_
 have hd:∃o,h'.get? dx=some o:=let ⟨o,_,_,e',_⟩:=O'.ns;⟨o,e'⟩
 refine I.write (x:=a) (e:=dx) (by rw[e];exact True.intro) (.inr ho) (fun b q hb z=>(sb.2 b hb).trans z) hd ?_
 refine⟨by rw[aah O.ne];exact ho,?_,O.ne,O'.obj,_,O'.ns,fun g=>?_,fun g hg=>?_⟩
 ·have:=acE f y fs;omega
 ·show ajr ((abX f y fs).lookup g) (if g=f then some u else mA g)
  rw[abA]
  by_cases q:g=f
  ·rw[if_pos q,if_pos q];exact ry
  ·rw[if_neg q,if_neg q];exact r g
 ·by_cases q:g=f
  ·rw[q];exact(acZ f y fs).1
  ·refine(acZ f y fs).2 g (wi g fun z=>hg ?_)
   show(if g=f then some u else mA g)=none
   rw[if_neg q];exact z
theorem Inv.made(I:Inv X pins σ H s):Inv X pins σ (upd (upd H s.heap.objs.size (.own (s.heap.objs.size+1))) (s.heap.objs.size+1) (.ins C s.heap.objs.size []))
  { s with heap:=(s.heap.push PySem.W.emptyDict).push (PySem.W.instObj C s.heap.objs.size) }:=by
 have e1:(s.heap.push PySem.W.emptyDict).get? s.heap.objs.size=some PySem.W.emptyDict:=Heap.get?_push_size s.heap rfl
 have e2:((s.heap.push PySem.W.emptyDict).push (PySem.W.instObj C s.heap.objs.size)).get? (s.heap.objs.size+1)=some (PySem.W.instObj C s.heap.objs.size):=by
  have:=Heap.get?_push_size (s.heap.push PySem.W.emptyDict) (o:=PySem.W.instObj C s.heap.objs.size) rfl
  rwa [Heap.size_push]at this
 have e3:(s.heap.push PySem.W.emptyDict).Ns s.heap.objs.size (fun _=>none):=⟨PySem.W.emptyDict,#[],_,e1,rfl,(fun e he=>absurd he (by simp)),fun _=>rfl⟩
 have I1:=I.laid (a:=s.heap.objs.size) (o:=.own (s.heap.objs.size+1)) (h':=s.heap.push PySem.W.emptyDict) (t':=s.toks) (fun b u q=>Heap.get?_push_of_some _ q) (Nat.le_refl _) ⟨_,e1⟩
 refine I1.laid (a:=s.heap.objs.size+1) (o:=.ins C s.heap.objs.size []) (t':=s.toks) (fun b u q=>Heap.get?_push_of_some _ q) (Nat.le_of_eq (Heap.size_push _ _)) ?_
 have ne:s.heap.objs.size≠s.heap.objs.size+1:=Nat.ne_of_lt (Nat.lt_succ_self _)
 refine⟨by rw[aah ne,aaq],Nat.zero_le _,ne,e2,fun _=>none,(Heap.Ns1.of_empty e3).at fun o q=>Heap.get?_push_of_some _ q,fun _=>True.intro,fun y hy=>absurd rfl hy⟩
theorem amG{prog:Program}{w:World}{env:Env}{e:Expr}{f:Str}{pos:Pos}{s:Shared}{Q:Value→Shared→Prop}(hb:attributeBase e f env (eval e env)=eval e env)
  (h:wpAny (model prog w) A (eval e env) (fun o s₁=>wpAny (model prog w) A (getAttr o f true) Q E s₁) E s):wpAny (model prog w) A (eval (.Attribute e f pos) env) Q E s:=
 Attribute_any_ h (by rw[arm_eval_Attribute,hb])
end
def axl(K:PySem.W.Frag)(ta:TE)(f:Str):TE:=fun σ H Q=>ta σ H fun x H1=>∃a C dx fs v,x=.ref a∧H1 a=some (.ins C dx fs)∧Cls K C∧abb K C f∧fs.lookup f=some v∧Q v H1
def axv(K:PySem.W.Frag)(ta tv:TE)(f:Str):TS:=fun D σ H=>tv σ H fun y H1=>ta σ H1 fun x H2=>∃a C dx fs,x=.ref a∧H2 a=some (.ins C dx fs)∧Cls K C∧abb K C f∧fs.length<1000∧
 D.nx σ (upd H2 a (.ins C dx (abX f y fs)))
section
variable{X:Cx}{o e value:Expr}{f:Str}{pos pos' tpos:Pos}{ta tv:TE}
theorem aq2(he:PE X e ta)(hb:attributeBase e f X.env (eval e X.env)=eval e X.env):PE X (.Attribute e f pos) (axl X.K ta f):=by
 intro pins s σ H Q I h
 refine amG hb (thn (he pins s σ H _ I h) fun u s1 ⟨x,H1,I1,rx,a,C,dx,fs,v,ex,ea,c,n,l,q⟩=>?_)
 subst ex
 obtain rfl:u=Value.ref a:=rx
 exact ag9 I1 ea c n l fun u' s2 I2 ru=>⟨v,H1,I2,ru,q⟩
theorem aqC(ha:PE X o ta)(hv:PE X value tv)(hs:swapsWith value (some (.Attribute o f pos')) pos.line X.env=pure false):PS X (.Assign [.Attribute o f pos'] value pos) (axv X.K ta tv f):=by
 intro pins s σ H D I h
 refine plainObj_wpAny_Assign_Attribute (thn (hv pins s σ H _ I h) fun u s1 ⟨y,H1,I1,ry,q⟩=>thn (ha pins s1 σ H1 _ I1 q) fun ov s2 ⟨x,H2,I2,rx,a,C,dx,fs,ex,ea,c,n,l,q2⟩=>?_) hs
 subst ex
 obtain rfl:ov=Value.ref a:=rx
 exact agL I2 ea c n l ry fun s3 I3=>⟨σ,_,I3,q2⟩
def aw4:V→V→Hp→VK→Prop:=fun x y H Q=>∃i j,x=.int i∧y=.int j∧Q (.int (i-j)) H
end
section
variable{X:Cx}{pins:List (Addr×Obj)}{σ:St}{H:Hp}{s:Shared}{A:Around}{E:Value→Shared→Prop}{Q:Value→Shared→Prop}{c:Value}{b:Bool}
inductive TyOf(K:PySem.W.Frag)(H:Hp):V→Value→Prop where
 | non:TyOf K H .non (.type "NoneType")
 | bl (x:Bool):TyOf K H (.bl x) (.type "bool")
 | int (i:Int):TyOf K H (.int i) (.type "int")
 | str (x:Str):TyOf K H (.str x) (.type "str")
 | flt (x:UInt64):TyOf K H (.flt x) (.type "float")
 | lst {a:Addr}{xs:List V} (e:H a=some (.lst xs)):TyOf K H (.ref a) (.type "list")
 | frz {a:Addr}{o:Obj}{xs:List V} (e:H a=some (.frz o (.lst xs))):TyOf K H (.ref a) (.type "list")
 | tup {a:Addr}{xs:List V} (e:H a=some (.tup xs)):TyOf K H (.ref a) (.type "tuple")
 | dK {a:Addr}{kvs:List (Key×V)} (e:H a=some (.dK kvs)):TyOf K H (.ref a) (.type "dict")
 | dT {a:Addr}{kvs:List (List Key×V)} (e:H a=some (.dT kvs)):TyOf K H (.ref a) (.type "dict")
 | ins {a C dx:Addr}{fs:List (Str×V)} (e:H a=some (.ins C dx fs)) (cl:Cls K C) (ha:PySem.W.findIn K (.ref C) "__class__"=some (some (.builtin "object.__class__")))
   (hn:PySem.W.specialIn K (.builtin "object.__class__") "__get__"=some (some (.builtin "getset_descriptor.__get__"))) (htk:PySem.W.takesIn K (.builtin "object.__class__")=some true)
   (hm:PySem.W.mroIn K C (.type "object")=some true):TyOf K H (.ref a) (.ref C)
theorem ahP{x:V}{u t:Value}(I:Inv X pins σ H s)(rx:aa8 x u)(ty:TyOf X.K H x t)(e:PySem.W.kitOne X.K t c=some b)(h:∀tk,Q (.bool b) { s with toks:=tk }):
  wpAny (model X.prog X.w) A (call (.builtin "isinstance") [u,c]) Q E s:=by
 cases ty with
 | non=>cases(show u=Value.none from rx);exact PySem.W.kia_one PySem.W.kitx_none I.kIn True.intro e (fun z=>nomatch z) h
 | bl y=>cases(show u=Value.bool y from rx);exact PySem.W.kia_one PySem.W.kitx_bool I.kIn True.intro e (fun z=>nomatch z) h
 | int i=>obtain⟨t,q⟩:=(show ∃t,u=Value.int i t from rx);cases q;exact PySem.W.kia_one PySem.W.kitx_int I.kIn True.intro e (fun z=>nomatch z) h
 | str y=>obtain⟨t,q⟩:=(show ∃t,u=Value.str y t from rx);cases q;exact PySem.W.kia_one PySem.W.kitx_str I.kIn True.intro e (fun z=>nomatch z) h
 | flt y=>obtain⟨t,q⟩:=(show ∃t,u=Value.float y t from rx);cases q;exact PySem.W.kia_one PySem.W.kitx_float I.kIn True.intro e (fun z=>nomatch z) h
 | @lst a xs ea=>
  cases(show u=Value.ref a from rx)
  obtain⟨_,_,n,_,h1⟩:=(show abi X.prog X.w H s.heap a (.lst xs)from I.hok a _ ea)
  exact PySem.W.kia_one PySem.W.kitx_list I.kIn ⟨_,h1,rfl⟩ e (fun z=>nomatch z) h
 | @frz a ob xs ea=>
  cases(show u=Value.ref a from rx)
  obtain⟨_,_,_,n,_,h1⟩:=(show abi X.prog X.w H s.heap a (.frz ob (.lst xs))from I.hok a _ ea)
  exact PySem.W.kia_one PySem.W.kitx_list I.kIn ⟨_,h1,rfl⟩ e (fun z=>nomatch z) h
 | @tup a xs ea=>
  cases(show u=Value.ref a from rx)
  obtain⟨_,_,_,p⟩:=(show abi X.prog X.w H s.heap a (.tup xs)from I.hok a _ ea)
  obtain⟨o,h1,h2,_⟩:=p
  exact PySem.W.kia_one PySem.W.kitx_tuple I.kIn ⟨o,h1,h2⟩ e (fun z=>nomatch z) h
 | @dK a kvs ea=>
  cases(show u=Value.ref a from rx)
  obtain⟨_,_,vs,_,p⟩:=(show abi X.prog X.w H s.heap a (.dK kvs)from I.hok a _ ea)
  obtain⟨o,es,ep,h1,h2,_⟩:=p
  exact PySem.W.kia_one PySem.W.kitx_dict I.kIn ⟨o,h1,h2.1⟩ e (fun z=>nomatch z) h
 | @dT a kvs ea=>
  cases(show u=Value.ref a from rx)
  obtain⟨_,_,xs,_,o,es,ep,h1,h2,_⟩:=(show abi X.prog X.w H s.heap a (.dT kvs)from I.hok a _ ea)
  exact PySem.W.kia_one PySem.W.kitx_dict I.kIn ⟨o,h1,h2.1⟩ e (fun z=>nomatch z) h
 | @ins a C dx fs ea cl ha hn htk hm=>
  cases(show u=Value.ref a from rx)
  obtain⟨mA,O,_⟩:=adI I.hok ea
  obtain⟨od,J,_⟩:=O.look
  exact PySem.W.kia_one (PySem.W.kitx_own (cl.get _) cl.hd ha hn htk hm) I.kIn J e (fun z=>nomatch z) h
end
end L2
namespace L2
open PySem PySem.Spec PyProof.Rows
structure Room(k:Nat)(A:Around):Prop where
 hd:A.handled=none
 dp:A.depth+3*k+5<recursionLimit
 un:A.units+16*k+200<cLine
theorem Room.mono{j k:Nat}{A:Around}(r:Room k A)(h:j≤k):Room j A:=⟨r.hd,by have:=r.dp;omega,by have:=r.un;omega⟩
theorem Room.deeper{k:Nat}{A:Around}(r:Room (k+1) A)(env:Env):Room k (A.deeper env):=
 ⟨r.hd,by have:=r.dp;show A.depth+1+3*k+5<_;omega,by have:=r.un;show A.units+3+16*k+200<_;omega⟩
theorem Room.in1{k:Nat}{A:Around}(r:Room (k+1) A):Room k A.in1:=
 ⟨r.hd,by have:=r.dp;show A.depth+3*k+5<_;omega,by have:=r.un;show A.units+1+16*k+200<_;omega⟩
theorem agC{A:Around}{C:Addr}{us:List Value}{kw:List (Str×Value)}:(A.under (.builtin "type.__call__" ⟨.ref C::us,kw⟩)).depth=A.depth+1:=by
 first|rfl|simp[Around.under,Code.weight,Code.isCreation,Code.isGuard,Code.isCaller,Code.frames,Code.isFrame,guardIds]
theorem agQ{A:Around}{C:Addr}{us:List Value}{kw:List (Str×Value)}:(A.under (.builtin "type.__call__" ⟨.ref C::us,kw⟩)).units=A.units+1:=by
 first|rfl|simp[Around.under,Code.cUnits,Code.frames,Code.isFrame]
theorem Room.make{k:Nat}{A:Around}(r:Room (k+1) A)(C:Addr)(us:List Value)(kw:List (Str×Value)):Room k (A.under (.builtin "type.__call__" ⟨.ref C::us,kw⟩)):=
 ⟨r.hd,by have:=r.dp;rw[agC];omega,by have:=r.un;rw[agQ];omega⟩
theorem Room.depth{k:Nat}{A:Around}(r:Room k A):A.depth<recursionLimit:=by have:=r.dp;omega
theorem Room.units{k:Nat}{A:Around}(r:Room k A):A.units+64<cLine:=by have:=r.un;omega
def avi:TA:=fun _ H Q=>Q [] H
def aoZ(ta:TE)(tr:TA):TA:=fun σ H Q=>ta σ H fun x H1=>tr σ H1 fun xs H2=>Q (x::xs) H2
section
variable{X:Cx}{e:Expr}{es:List Expr}{te:TE}{t:TA}{pos:Pos}
theorem aaZ:PA X [] avi:=fun _ _ _ _ H Q I h=>Calls.spliced_nil ⟨[],H,I,.nil,h⟩
theorem aa2(ha:PE X e te)(hr:PA X es t)(hs:starEach (e::es) X.env=(false,eval e X.env)::starEach es X.env:=by rfl):PA X (e::es) (aoZ te t):=by
 intro pos pins s σ H Q I h
 rw[hs]
 show wpAny _ _ (spliced ((false,eval e X.env)::backTo pos (starEach es X.env))) _ _ s
 refine Calls.spliced_cons (thn (ha pins s σ H _ I h) fun u s1 ⟨x,H1,I1,r1,q1⟩=>?_)
 exact thn (hr pos pins s1 σ H1 _ I1 q1) fun us s2 ⟨xs,H2,I2,r2,q2⟩=>⟨x::xs,H2,I2,.cons r1 r2,q2⟩
def axY(t:TA):TE:=fun σ H Q=>t σ H fun xs H1=>xs.length≤sizeLine∧∀p,H1 p=none→Q (.ref p) (upd H1 p (.tup xs))
def ayu(t:TA):TE:=fun σ H Q=>t σ H fun xs H1=>xs.length≤sizeLine∧∀p,H1 p=none→Q (.ref p) (upd H1 p (.lst xs))
theorem apf{x1}(h:PA X es t):PE X (.Tuple es x1 pos) (axY t):=by
 intro pins s σ H Q I hq
 refine wpAny_Tuple_spliced (thn (h pos pins s σ H _ I hq) fun us s1 ⟨xs,H1,I1,r,z,q⟩=>⟨by rw[←r.length];exact z,?_⟩)
 have hf:H1 s1.heap.objs.size=none:=I1.hok.fresh (Nat.le_refl _)
 refine⟨.ref s1.heap.objs.size,upd H1 s1.heap.objs.size (.tup xs),I1.laid (t':=s1.toks) (fun b u e=>Heap.get?_push_of_some _ e) (Nat.le_refl _) ?_,rfl,q _ hf⟩
 exact⟨z,us,r,⟨_,Heap.get?_push_size _ rfl,rfl,_,rfl⟩⟩
theorem alG(h:PA X es t):PE X (.List es pos) (ayu t):=by
 intro pins s σ H Q I hq
 refine wpAny_List_spliced (thn (h pos pins s σ H _ I hq) fun us s1 ⟨xs,H1,I1,r,z,q⟩=>⟨by rw[←r.length];exact z,?_⟩)
 have hf:H1 s1.heap.objs.size=none:=I1.hok.fresh (Nat.le_refl _)
 refine⟨.ref s1.heap.objs.size,upd H1 s1.heap.objs.size (.lst xs),I1.laid (t':=s1.toks) (fun b u e=>Heap.get?_push_of_some _ e) (Nat.le_refl _) ?_,rfl,q _ hf⟩
 exact⟨z,us,0,r,Heap.get?_push_size _ rfl⟩
end
abbrev Sp:=List V→Hp→VK→XK→Prop
abbrev CXT:=List Env→Hp→Shared→XK→Value→Shared→Prop
structure Env0(P:Program)(w:World)(K:PySem.W.Frag)(mg:Str→Option Value)(base:Heap)(A:Around)(outer:List Env)(s:Shared)(H:Hp):Prop where
 frames:A.frames=some outer
 mod:Mod K mg base
 bs:∀b o,base.get? b=some o→s.heap.get? b=some o∧H b=none
 bsz:base.objs.size≤s.heap.objs.size
 funs:s.heap.FunFrames base outer
 frf:∀b∈frs outer,H b=none
 hok:HOk P w H s.heap
 bare:AllBare s.gens
def CE(outer:List Env)(P:Program)(w:World)(H:Hp)(s:Shared)(Q:VK)(u:Value)(s':Shared):Prop:=
 ∃v H',s'.os=s.os∧AllBare s'.gens∧Un (frs outer) [] H H' s.heap s'.heap∧HOk P w H' s'.heap∧aa8 v u∧Q v H'
def CR(CX:CXT)(outer:List Env)(P:Program)(w:World)(H:Hp)(s:Shared)(Q:VK)(E:XK)(r:Result)(s':Shared):Prop:=
 match r with
 | .ok (.ret u)=>CE outer P w H s Q u s'
 | .ok _=>False
 | .error e=>CX outer H s E e s'
structure FnOk(P:Program)(w:World)(K:PySem.W.Frag)(mg:Str→Option Value)(base:Heap)(CX:CXT)(k:Nat)(f:Addr)(fd:FuncData)(ps:List Str)(sp:Sp):Prop where
 len:∀vs H Q E,sp vs H Q E→vs.length=ps.length
 run:∀(A:Around) (outer:List Env) (s:Shared) (H:Hp) (args:Args) (us:List Value) (vs:List V) (Q:VK) (E:XK),Room k A→Env0 P w K mg base A outer s H→BindsTo s fd args (ps.zip us)→Vals vs us→sp vs H Q E→
  codeAny (model P w) A (.call (.ref f) args) (CR CX outer P w H s Q E) s
theorem FnOk.mono{P:Program}{w:World}{K:PySem.W.Frag}{mg:Str→Option Value}{base:Heap}{CX:CXT}{j k:Nat}{f:Addr}{fd:FuncData}{ps:List Str}{sp:Sp}(F:FnOk P w K mg base CX j f fd ps sp)(h:j≤k):
  FnOk P w K mg base CX k f fd ps sp:=⟨F.len,fun A outer s H args us vs Q E hr=>F.run A outer s H args us vs Q E (hr.mono h)⟩
theorem FnOk.imp{P:Program}{w:World}{K:PySem.W.Frag}{mg:Str→Option Value}{base:Heap}{CX:CXT}{k:Nat}{f:Addr}{fd:FuncData}{ps:List Str}{sp sp':Sp}(F:FnOk P w K mg base CX k f fd ps sp)
  (h:∀vs H Q E,sp' vs H Q E→sp vs H Q E):FnOk P w K mg base CX k f fd ps sp':=
 ⟨fun vs H Q E q=>F.len vs H Q E (h _ _ _ _ q),fun A outer s H args us vs Q E hr he hb hv hs=>F.run A outer s H args us vs Q E hr he hb hv (h _ _ _ _ hs)⟩
theorem Env0.make{P:Program}{w:World}{K:PySem.W.Frag}{mg:Str→Option Value}{base:Heap}{A:Around}{outer:List Env}{s:Shared}{H:Hp}(e:Env0 P w K mg base A outer s H)(C:Addr)(us:List Value)(kw:List (Str×Value)):
  Env0 P w K mg base (A.under (.builtin "type.__call__" ⟨.ref C::us,kw⟩)) outer s H:=⟨by first|exact e.frames|(simpa [Around.under,Code.envs,Code.isFrame,pushEnvs]using e.frames),e.mod,e.bs,e.bsz,e.funs,e.frf,e.hok,e.bare⟩
theorem Env0.in1{P:Program}{w:World}{K:PySem.W.Frag}{mg:Str→Option Value}{base:Heap}{A:Around}{outer:List Env}{s:Shared}{H:Hp}(e:Env0 P w K mg base A outer s H):
  Env0 P w K mg base A.in1 outer s H:=⟨e.frames,e.mod,e.bs,e.bsz,e.funs,e.frf,e.hok,e.bare⟩
section
variable{X:Cx}{pins:List (Addr×Obj)}{σ:St}{H:Hp}{s s':Shared}
theorem Inv.env0(I:Inv X pins σ H s):Env0 X.prog X.w X.K X.mg X.base X.A X.stack s H:=
 ⟨I.ok.frames,I.ok.mod,I.bs,Nat.le_trans I.ok.bsz I.sz,I.stack,I.stkFree,I.hok,I.bare⟩
theorem Inv.after{Q:VK}{u:Value}(I:Inv X pins σ H s)(h:CE X.stack X.prog X.w H s Q u s'):EP X pins σ Q u s':=by
 obtain⟨v,H',os,bare,un,hok,r,q⟩:=h
 obtain⟨hh,g,d,t,os'⟩:=s'
 obtain rfl:os'=s.os:=os
 exact⟨v,H',I.call (h':=hh) (g':=g) (d':=d) (t':=t) (ch:=[]) un hok bare (fun b z=>absurd z (by simp)),r,q⟩
end
def Binds(K:PySem.W.Frag)(fd:FuncData)(ps:List Str)(ds:List Value):Prop:=
 ∀(s:Shared) (us:List Value),K.In s.heap→(us++ds).length=ps.length→BindsTo s fd ⟨us,[]⟩ (ps.zip (us++ds))
theorem Binds.all{K:PySem.W.Frag}{fd:FuncData}{ps:List Str}(h:∀us:List Value,us.length=ps.length→bindArgs fd ⟨us,[]⟩=pure (ps.zip us)):Binds K fd ps []:=fun s us _ hl=>by
 rw[List.append_nil]at hl ⊢
 exact .of_eq (h us hl)
section
variable{X:Cx}{CX:CXT}{k:Nat}{f C:Addr}{fd:FuncData}{ps:List Str}{sp:Sp}{dvs:List V}{ds:List Value}{E:XK}{x m:Str}{p pos apos:Pos}{e o:Expr}{es:List Expr}{ta:TE}{t:TA}
structure Mk(K:PySem.W.Frag)(C f:Addr):Prop where
 makes:PySem.W.makesIn K C=true
 init:PySem.W.findIn K (.ref C) "__init__"=some (some (.ref f))
 fn:PySem.W.isFn K (.ref f)=true
 kp:PySem.W.keepIn K (.ref C)=true
end
section
variable{X:Cx}{CX:CXT}{k:Nat}{f C:Addr}{fd:FuncData}{ps ks:List Str}{sp:Sp}{E:XK}{x m:Str}{p pos apos kpos:Pos}{e o:Expr}{es:List Expr}{kws:List Keyword}{te ta:TE}{t tk:TA}{nm:Option Str}
structure KBinds(K:PySem.W.Frag)(fd:FuncData)(ps ks:List Str)(g:List Value→List Value→List Value)(gV:List V→List V→List V):Prop where
 to:∀(s:Shared) (us ws:List Value),K.In s.heap→(g us ws).length=ps.length→BindsTo s fd ⟨us,ks.zip ws⟩ (ps.zip (g us ws))
 rel:∀{vs:List V}{us:List Value}{zs:List V}{ws:List Value},Vals vs us→Vals zs ws→Vals (gV vs zs) (g us ws)
variable{g:List Value→List Value→List Value}{gV:List V→List V→List V}
end
structure FnScope(N P:List Str)(sc:Scope):Prop where
 kind:sc.kind=.function
 co:sc.isCoroutine=false
 gen:sc.isGenerator=false
 nd:N.Nodup
 pre:N.take P.length=P
 par:∀x∈P,sc.names.lookup x=some .local∨sc.names.lookup x=some .cell
 nofree:∀y∈sc.names,y.2≠.free
theorem aeC{kindOf:Str→Option NameKind}{x:Str}:∀{binds:List (Str×Value)}{m:Str→Option Value},(∀v,(x,v)∉binds)→bindL kindOf binds m x=m x
 | [],_,_=>rfl
 | (n,v)::r,m,h=>by
  unfold bindL
  rw[aeC fun w hw=>h w (List.mem_cons_of_mem _ hw)]
  split
  ·have:x≠n:=by rintro rfl;exact h v List.mem_cons_self
   simp[this]
  ·rfl
theorem aeQ{kindOf:Str→Option NameKind}{x:Str}:∀{binds:List (Str×Value)}{m:Str→Option Value},(∀v,(x,v)∉binds)→bindC kindOf binds m x=m x
 | [],_,_=>rfl
 | (n,v)::r,m,h=>by
  unfold bindC
  rw[aeQ fun w hw=>h w (List.mem_cons_of_mem _ hw)]
  split
  ·rfl
  ·have:x≠n:=by rintro rfl;exact h v List.mem_cons_self
   simp[this]
theorem aeW{kindOf:Str→Option NameKind}{x:Str}{v:Value}:∀{P:List Str}{vs:List Value}{i:Nat}{m:Str→Option Value},P.Nodup→P[i]?=some x→vs[i]?=some v→kindOf x=some .local→
  bindL kindOf (P.zip vs) m x=some v
 | [],_,_,_,_,h,_,_=>by simp at h
 | _::_,[],_,_,_,_,h,_=>by simp at h
 | p::P,w::vs,0,m,nd,h1,h2,hk=>by
  simp at h1 h2;subst h1;subst h2
  show bindL kindOf ((p,w)::P.zip vs) m p=_
  unfold bindL
  rw[aeC fun v hv=>(List.nodup_cons.mp nd).1 (List.of_mem_zip hv).1,if_pos hk]
  simp
 | p::P,w::vs,i+1,m,nd,h1,h2,hk=>by
  show bindL kindOf ((p,w)::P.zip vs) m x=_
  unfold bindL
  exact aeW (i:=i) (List.nodup_cons.mp nd).2 (by simpa using h1) (by simpa using h2) hk
theorem aeT{kindOf:Str→Option NameKind}{x:Str}{v:Value}:∀{P:List Str}{vs:List Value}{i:Nat}{m:Str→Option Value},P.Nodup→P[i]?=some x→vs[i]?=some v→kindOf x≠some .local→
  bindC kindOf (P.zip vs) m x=some v
 | [],_,_,_,_,h,_,_=>by simp at h
 | _::_,[],_,_,_,_,h,_=>by simp at h
 | p::P,w::vs,0,m,nd,h1,h2,hk=>by
  simp at h1 h2;subst h1;subst h2
  show bindC kindOf ((p,w)::P.zip vs) m p=_
  unfold bindC
  rw[aeQ fun v hv=>(List.nodup_cons.mp nd).1 (List.of_mem_zip hv).1,if_neg hk]
  simp
 | p::P,w::vs,i+1,m,nd,h1,h2,hk=>by
  show bindC kindOf ((p,w)::P.zip vs) m x=_
  unfold bindC
  exact aeT (i:=i) (List.nodup_cons.mp nd).2 (by simpa using h1) (by simpa using h2) hk
def start(N:List Str)(vs:List V):St:=vs.map some++List.replicate (N.length-vs.length) none
def aek(CX:CXT)(P:Program)(w:World)(K:PySem.W.Frag)(mg:Str→Option Value)(base:Heap)(N:List Str)(qual:Str)(scope:Scope)(f:Addr)(cd:Value)(A:Around)(outer:List Env)(s:Shared)(H:Hp)(E:XK):Cx where
 prog:=P
 w:=w
 K:=K
 mg:=mg
 base:=base
 A:=A.deeper (envOfC qual scope s.heap.objs.size f cd)
 N:=N
 s₀:=s
 H₀:=H
 env:=envOfC qual scope s.heap.objs.size f cd
 outer:=outer
 stack:=envOfC qual scope s.heap.objs.size f cd::outer
 ex:=[]
 calm:=true
 fn:=fun _=>true
 pn:=[]
 xe:=fun e s'=>wpAny (model P w) (A.deeper (envOfC qual scope s.heap.objs.size f cd)) (leaving (envOfC qual scope s.heap.objs.size f cd) e) (fun _ s''=>CX outer H s E e s'') (fun e' s''=>CX outer H s E e' s'') s'
theorem agv{sc:Scope}{n:Nat}{x:Str}(h:sc.names.lookup x=some .cell):∃c,(cellsFrom n sc.names []).lookup x=some c:=by
 have q:=PySem.W.cellsFrom_some sc.names n [] (.inl h)
 exact Option.isSome_iff_exists.mp q
theorem acF{CX:CXT}{P:Program}{w:World}{K:PySem.W.Frag}{mg:Str→Option Value}{base:Heap}{N ps:List Str}{qual:Str}{scope:Scope}{f:Addr}{cd:Value}{A:Around}{outer:List Env}{s s1:Shared}{H:Hp}{E:XK}{us:List Value}{vs:List V}
  (S:FnScope N ps scope) (hd:A.handled=none) (e0:Env0 P w K mg base A outer s H) (hl:vs.length=ps.length) (r:Vals vs us)
  (x:InCallC s s.heap.objs.size (bindL (envOfC qual scope s.heap.objs.size f cd).kindOf (ps.zip us) fun _=>none) (cellsFrom (s.heap.objs.size+1) scope.names []) (bindC (envOfC qual scope s.heap.objs.size f cd).kindOf (ps.zip us) fun _=>none) s1):
  Inv (aek CX P w K mg base N qual scope f cd A outer s H E) [] (start N vs) H s1:=by
 have hpl:ps.length≤N.length:=by have:=congrArg List.length S.pre;rw[List.length_take]at this;omega
 obtain⟨h1,tk,rfl,hk⟩:=x.done
 have noA:∀b:Addr,b∉(aek CX P w K mg base N qual scope f cd A outer s H E).ex:=fun b z=>absurd (show b∈([]:List Addr)from z) (by simp)
 refine⟨⟨e0.mod,S.kind,rfl,rfl,Nat.le_refl _,fun y z c h1 h2=>?_,fun y hy=>?_,fun y c _ h=>?_,fun _=>hd,Around.frames_deeper e0.frames,.inr ⟨rfl,rfl⟩,fun b z=>absurd z (noA b),e0.bs,e0.bsz,fun b _ _=>noA b,fun b z=>absurd z (noA b),e0.funs,e0.frf⟩,
  rfl,e0.bare,Un.kept hk,⟨_,x.toInCall.ns,fun i y v h1 h2 h3=>?_⟩,fun y c h=>⟨_,x.cell y c h⟩,e0.hok.fresh (Nat.le_refl _),fun y c h=>?_,fun p hp=>absurd (show p∈([]:List (Addr×Obj))from hp) (by simp),e0.hok.kept hk,?_⟩
 ·exact name_of_addr x.apart (PySem.mem_of_lookup h1) (PySem.mem_of_lookup h2)
 ·have hy:scope.names.lookup y=some .cell∨scope.names.lookup y=some .free:=hy
  rcases hy with hy|hy
  ·exact agv hy
  ·exact absurd rfl (S.nofree _ (PySem.mem_of_lookup hy))
 ·exact Nat.le_of_lt (x.above y c (PySem.mem_of_lookup h))
 ·have hi:i<vs.length:=by
   unfold start at h2
   by_cases hi:i<vs.length
   ·exact hi
   ·rw[List.getElem?_append_right (by simpa using hi)]at h2
    rw[List.getElem?_replicate]at h2
    split at h2<;>cases h2
  have ha:vs[i]?=some v:=by
   unfold start at h2
   rw[List.getElem?_append_left (by simpa using hi),List.getElem?_map]at h2
   cases e:vs[i]? with
   | none=>rw[e]at h2;cases h2
   | some a=>rw[e]at h2;cases h2;rfl
  obtain⟨u,hu,rv⟩:=r.get ha
  have hp:ps[i]?=some y:=by
   rw[←S.pre,List.getElem?_take_of_lt (by omega)];exact h1
  have ndP:ps.Nodup:=by rw[←S.pre];exact S.nd.sublist (List.take_sublist _ _)
  refine⟨u,rv,?_⟩
  rcases S.par y (List.mem_of_getElem? hp)with k|k
  ·exact .inl ⟨k,aeW ndP hp hu k⟩
  ·obtain⟨c,e⟩:=agv (n:=s.heap.objs.size+1) k
   refine .inr ⟨.inl k,c,e,?_⟩
   have q:=x.cell y c e
   rw[aeT ndP hp hu (by show scope.names.lookup y≠_;rw[k];decide)]at q
   exact q
 ·exact e0.hok.fresh (Nat.le_of_lt (x.above y c (PySem.mem_of_lookup h)))
 ·unfold start
  show _=N.length
  rw[List.length_append,List.length_map,List.length_replicate]
  omega
theorem apq{CX:CXT}{P:Program}{w:World}{K:PySem.W.Frag}{mg:Str→Option Value}{base:Heap}{k:Nat}{f:Addr}{name qual:Str}{params:Arguments}{body:List Stmt}{scope:Scope}{dV kV doc pm cdv ct oc:Value}{an od:Option Addr}
  {osl:Array (Option Value)}{N ps:List Str}{sp:Sp} (lk:K.lookup f=some ⟨oc,od,.func (PySem.W.fnOf name qual params body scope dV kV doc pm an cdv ct),osl⟩) (hcd:PySem.W.codeIn K cdv qual=true) (S:FnScope N ps scope)
  (len:∀vs H Q E,sp vs H Q E→vs.length=ps.length)
  (hbody:∀(A:Around) (outer:List Env) (s:Shared) (H:Hp) (vs:List V) (Q:VK) (E:XK),Room k (A.deeper (envOfC qual scope s.heap.objs.size f cdv))→sp vs H Q E→
   ∃t,PSs (aek CX P w K mg base N qual scope f cdv A outer s H E) body t∧t { nx:=fun _ H'=>Q .non H',rt:=Q } (start N vs) H):
  FnOk P w K mg base CX (k+1) f (PySem.W.fnOf name qual params body scope dV kV doc pm an cdv ct) ps sp:=by
 refine⟨len,fun A outer s H args us vs Q E hr e0 hb r hsp=>?_⟩
 have hl:=len _ _ _ _ hsp
 have KX:K.In s.heap:=e0.mod.kin.keeps fun b o e=>(e0.bs b o e).1
 have lim:s.heap.NoLimit:=e0.mod.nolimit.keeps fun b o e=>(e0.bs b o e).1
 have hkind:∀y∈ps.zip us,scope.names.lookup y.1=some .local∨(scope.names.lookup y.1=some .cell∧((cellsFrom (s.heap.objs.size+1) scope.names []).lookup y.1).isSome=true):=fun⟨n,v⟩ hy=>by
  rcases S.par n (List.of_mem_zip hy).1 with q|q
  ·exact .inl q
  ·exact .inr ⟨q,PySem.W.cellsFrom_some _ _ _ (.inl q)⟩
 refine codeAny_call_function hr.depth (KX _ _ lk) rfl S.co S.gen rfl (PySem.W.codeRec_of KX hcd) (hb _ _ _ _ ?_)
 refine wpAny_newFunctionEnv_cells S.kind hkind fun env he s1 x=>?_
 subst he
 refine⟨lim.keeps x.toInCall.keep,codeAny_func ?_⟩
 obtain⟨t,ht,hq⟩:=hbody A outer s H vs Q E (hr.deeper _) hsp
 have I:Inv (aek CX P w K mg base N qual scope f cdv A outer s H E) [] (start N vs) H s1:=acF S hr.hd e0 hl r x
 refine wpAny_mono (ht [] s1 (start N vs) H _ I hq) (fun fl s' hs=>?_) fun e s' hs=>hs
 have fin:∀{σ':St}{H':Hp}{v:V}{u:Value},Inv (aek CX P w K mg base N qual scope f cdv A outer s H E) [] σ' H' s'→aa8 v u→Q v H'→CE outer P w H s Q u s':=
  fun {σ' H' v u} J rv q=>⟨v,H',J.os,J.bare,J.base,J.hok,rv,q⟩
 cases fl with
 | ret u=>
  obtain⟨v,σ',H',J,rv,q⟩:=hs
  exact fin J rv q
 | next=>
  obtain⟨σ',H',J,q⟩:=hs
  exact fin (v:=V.non) (u:=Value.none) J rfl q
 | brk=>
  obtain⟨_,_,_,q⟩:=hs
  exact False.elim q
 | cont=>
  obtain⟨_,_,_,q⟩:=hs
  exact False.elim q
end L2
namespace L2
open PySem PySem.Spec PyProof.Rows
section
variable{X:Cx}{x:Str}{p pos:Pos}{e:Expr}{es:List Expr}{t:TA}{id T:String}{r:List V→Hp→VK→Prop}
def tCB(r:List V→Hp→VK→Prop)(t:TA):TE:=fun σ H Q=>t σ H fun vs H1=>r vs H1 Q
theorem ac6(hc:aa4 X (.builtin id) r)(hg:Gl X x)(hm:X.mg x=none)(hv:bootBuiltins x=some (.builtin id))(ha:PA X (e::es) t)(hn:x≠"__name__":=by decide)(hdb:(x==("__debug__":Str))=false:=by decide)
  (he:starEach (e::es) X.env=(false,eval e X.env)::starEach es X.env:=by rfl) (hpl:(backTo pos (starEach es X.env)).any (·.1)=false:=by rfl):PE X (.Call (.Name x p) (e::es) [] pos) (tCB r t):=by
 intro pins s σ H Q I h
 refine wpAny_Call_Name_kw (adm I hg hm hv ?_ hn hdb)
 exact PyProof.Rows.callWith_builtin1 (thn (ha pos pins s σ H _ I h) fun us s1 ⟨vs,H1,I1,r1,q1⟩=>hc pins s1 σ H1 vs us Q I1 r1 q1) he hpl
theorem aeD(hc:aa4 X (.type T) r)(hg:Gl X x)(hm:X.mg x=none)(hv:bootBuiltins x=some (.type T))(ha:PA X (e::es) t)(hn:x≠"__name__":=by decide)(hdb:(x==("__debug__":Str))=false:=by decide)
  (he:starEach (e::es) X.env=(false,eval e X.env)::starEach es X.env:=by rfl) (hpl:(backTo pos (starEach es X.env)).any (·.1)=false:=by rfl):PE X (.Call (.Name x p) (e::es) [] pos) (tCB r t):=by
 intro pins s σ H Q I h
 refine wpAny_Call_Name_kw (adm I hg hm hv ?_ hn hdb)
 exact PyProof.Rows.callWith_type1 (thn (ha pos pins s σ H _ I h) fun us s1 ⟨vs,H1,I1,r1,q1⟩=>hc pins s1 σ H1 vs us Q I1 r1 q1) he hpl
end
end L2
namespace HT
open PySem PyProof.Rows
section
open PySem.SeqAt
open PySem.AutoSeq1 (wpAny_loadPart')
open PySem.MeetsSeq PySem.MeetsSeq2 PySem.MeetsSeq3
end
section
variable{prog:Program}{w:World}{A:Around}{E:Value→Shared→Prop}{s:Shared}
theorem cat_tup{t b:Addr}{vs ws:List Value}{Q:Value→Shared→Prop}(ht:IsTup s.heap t vs.toArray)(hb:IsTup s.heap b ws.toArray)(hv:vs≠[])
  (h1:ws=[]→Q (.ref t) s) (h2:ws≠[]→Q (.ref s.heap.objs.size) { s with heap:=s.heap.push { cls:=.type "tuple",data:=.seq (vs++ws).toArray } })
  (hsz:vs.length+ws.length≤sizeLine):wpAny (model prog w) A (binaryOp .Add (.ref t) (.ref b)) Q E s:=by
 obtain⟨⟨cls,dd,data,sl⟩,ho,hc,n,hd⟩:=id ht
 obtain⟨⟨cls2,dd2,data2,sl2⟩,ho2,hc2,n2,hd2⟩:=id hb
 simp only at hc hd hc2 hd2
 subst hc hd hc2 hd2
 have e:vs.toArray++ws.toArray=(vs++ws).toArray:=by simp
 by_cases hw:ws=[]
 ·exact concat_meets ⟨_,ho,rfl⟩ ⟨_,ho2,rfl⟩ noFill_tuple_add seq_tuple_add PySem.F.slot_tuple_add PySem.F.entry_tuple_add (PySem.F.args_tuple_add_2 _ _)
   (tuple_addW1 t b vs.toArray ws.toArray n n2 dd dd2 sl sl2 (by simpa using hv) (by simp[hw])) ⟨ho,ho2,h1 hw⟩
 ·refine concat_meets ⟨_,ho,rfl⟩ ⟨_,ho2,rfl⟩ noFill_tuple_add seq_tuple_add PySem.F.slot_tuple_add PySem.F.entry_tuple_add (PySem.F.args_tuple_add_2 _ _)
   (tuple_addW2 t b vs.toArray ws.toArray n n2 dd dd2 sl sl2 (by simpa using hv) (by simpa using hw) (by rw[List.size_toArray,List.size_toArray];exact hsz)) ⟨ho,ho2,?_⟩
  rw[e]
  exact h2 hw
def sIx(n d:Nat):Option Int→Nat
 | none=>d
 | some v=>if v<0 then(v+(n:Int)).toNat else min v.toNat n
theorem sIx_nat(n d k:Nat):sIx n d (some (k:Int))=min k n:=by
 show(if(k:Int)<0 then((k:Int)+(n:Int)).toNat else min (k:Int).toNat n)=min k n
 rw[if_neg (by omega),Int.toNat_natCast]
theorem ap2(n d:Nat)(hd:d≤n)(o:Option Int):sIx n d o≤n:=by
 cases o with
 | none=>exact hd
 | some v=>
  show(if v<0 then(v+(n:Int)).toNat else min v.toNat n)≤n
  by_cases hv:v<0
  ·rw[if_pos hv];omega
  ·rw[if_neg hv];exact Nat.min_le_right _ _
theorem aix(v:Int)(n d:Nat):(if v<0 then max (v+(n:Int)) 0 else min v (n:Int))=((sIx n d (some v):Nat):Int):=by
 show(if v<0 then max (v+(n:Int)) 0 else min v (n:Int))=(((if v<0 then(v+(n:Int)).toNat else min v.toNat n):Nat):Int)
 by_cases hv:v<0
 ·simp only[if_pos hv];omega
 ·simp only[if_neg hv];omega
theorem agD(lo hi:Option Int)(n:Nat):Builtin.Slice.sliceAdjust lo hi 1 (n:Int)=(((sIx n 0 lo:Nat):Int),((sIx n n hi:Nat):Int)):=by
 have h1:¬((1:Int)<0):=by omega
 unfold Builtin.Slice.sliceAdjust
 simp only[h1,if_false]
 refine Prod.ext ?_ ?_
 ·cases lo with
  | none=>rfl
  | some v=>exact aix v n 0
 ·cases hi with
  | none=>rfl
  | some v=>exact aix v n n
theorem ahh(i j:Nat):Builtin.Slice.slicePlaces (i:Int) (j:Int) 1=j-i:=by
 unfold Builtin.Slice.slicePlaces
 have h1:(1:Int)>0:=by omega
 simp only[h1,if_true,Int.ediv_one]
 split<;>omega
theorem ad4{v:Value}{o:Option Int}{Q:Option Int→Shared→Prop}(p:IsPart v o)(h:Q o s):wpAny (model prog w) A (Builtin.Slice.slicePartIndex v) Q E s:=by
 cases p with
 | none=>exact slicePart_none h
 | int i t=>exact slicePart_int h
theorem acy{sl:Addr}{vl vu:Value}{lo hi:Option Int}{n:Nat}{Q:Int×Int×Nat→Shared→Prop}(hs:s.heap.IsSliceOf sl vl vu .none)(pl:IsPart vl lo)(pu:IsPart vu hi)
  (h:Q (((sIx n 0 lo:Nat):Int),1,sIx n n hi-sIx n 0 lo) s):wpAny (model prog w) A (Builtin.Slice.sliceApplied (.ref sl) (pure (n:Int))) Q E s:=by
 obtain⟨os,hos,hcs,hds⟩:=id hs
 unfold Builtin.Slice.sliceApplied Builtin.Slice.sliceFields
 refine wpAny_bind (wpAny_bind (wpAny_field hos hds (x:=vl) rfl (wpAny_bind (wpAny_field hos hds (x:=vu) rfl (wpAny_bind (wpAny_field hos hds (x:=.none) rfl (wpAny_pure ?_)))))))
 refine wpAny_bind (slicePart_none ?_)
 show wpAny _ _ (if((1:Int)==0)=true then _ else _) _ _ s
 rw[if_neg (by decide)]
 refine wpAny_bind (ad4 pl (wpAny_bind (ad4 pu (wpAny_bind (wpAny_pure ?_)))))
 show wpAny _ _ (match Builtin.Slice.sliceAdjust lo hi 1 (n:Int)with|(lo,hi)=>pure (lo,(1:Int),Builtin.Slice.slicePlaces lo hi 1)) _ _ s
 rw[agD lo hi n]
 show wpAny _ _ (pure (((sIx n 0 lo:Nat):Int),(1:Int),Builtin.Slice.slicePlaces ((sIx n 0 lo:Nat):Int) ((sIx n n hi:Nat):Int) 1)) _ _ s
 rw[ahh]
 exact wpAny_pure h
theorem ak5(xs:Array Value)(i k:Nat):((List.range k).filterMap fun(m:Nat)=>xs[((i:Int)+(m:Int)*1).toNat]?).toArray=((xs.toList.drop i).take k).toArray:=by
 have e:(fun(m:Nat)=>xs[((i:Int)+(m:Int)*1).toNat]?)=fun m=>xs[i+m]?:=by
  funext m
  have:((i:Int)+(m:Int)*1).toNat=i+m:=by omega
  rw[this]
 rw[e]
 have:=pick_run xs i k
 rw[List.filterMap_map]at this
 have e2:((fun x=>xs[x]?)∘fun x=>i+x)=fun m=>xs[i+m]?:=rfl
 rw[e2]at this
 rw[this]
theorem getItem_tuple_cut{t sl:Addr}{items:Array Value}{vl vu:Value}{lo hi:Option Int}{Q:Value→Shared→Prop}(ht:IsTup s.heap t items)(hs:s.heap.IsSliceOf sl vl vu .none)(pl:IsPart vl lo)(pu:IsPart vu hi)
  (hw:¬(sIx items.size 0 lo=0∧sIx items.size items.size hi=items.size))
  (h:Q (.ref s.heap.objs.size) { s with heap:=s.heap.push { cls:=.type "tuple",data:=.seq ((items.toList.drop (sIx items.size 0 lo)).take (sIx items.size items.size hi-sIx items.size 0 lo)).toArray } })
  (hsz:items.size≤sizeLine):wpAny (model prog w) A (getItem (.ref t) (.ref sl)) Q E s:=by
 have htake:sizeOk (.seq ((items.toList.drop (sIx items.size 0 lo)).take (sIx items.size items.size hi-sIx items.size 0 lo)).toArray):=by
  show((items.toList.drop (sIx items.size 0 lo)).take (sIx items.size items.size hi-sIx items.size 0 lo)).toArray.size≤sizeLine
  rw[List.size_toArray,List.length_take,List.length_drop,Array.length_toList]
  omega
 have hj:sIx items.size items.size hi≤items.size:=ap2 _ _ (Nat.le_refl _) hi
 obtain⟨os,hos,hcs,hds⟩:=id hs
 have hTs:s.TypeIs (.ref sl) "slice":=⟨os,hos,hcs⟩
 unfold getItem
 try with_reducible refine wpAny_holding ?_
 first|refine wpAny_bind (wpAny_pure ?_)|skip
 refine wpAny_bind (wpAny_sequenceKey ht.typeIs (by decide) ?_)
 refine wpAny_bind (wpAny_callSpecial?_slot (name:=Str.ofString "__getitem__") ht.typeIs PyProof.Rows.slot_tuple_getitem
  (wpAny_call_entry PyProof.Rows.slot_tuple_getitem ht.typeIs entry_tuple_getitem ?_ (args_tuple_getitem _ _)))
 show wpAny _ _ (Builtin.Tuple.tupleItemsOf (.ref t) >>= _) _ _ s
 refine wpAny_bind (tupleItemsOf_ ht ?_)
 refine wpAny_bind (wpAny_typeOf hTs ?_)
 rw[if_pos (by decide)]
 refine wpAny_bind (acy hs pl pu ?_)
 have hno:¬((((sIx items.size 0 lo:Nat):Int)==0&&(1:Int)==1&&(sIx items.size items.size hi-sIx items.size 0 lo)==items.size)=true):=by
  intro q
  rw[Bool.and_eq_true,Bool.and_eq_true]at q
  have q1:((sIx items.size 0 lo:Nat):Int)=0:=eq_of_beq q.1.1
  have q2:sIx items.size items.size hi-sIx items.size 0 lo=items.size:=eq_of_beq q.2
  exact hw ⟨by omega,by omega⟩
 show wpAny _ _ (if(((sIx items.size 0 lo:Nat):Int)==0&&(1:Int)==1&&(sIx items.size items.size hi-sIx items.size 0 lo)==items.size)=true then _ else _) _ _ s
 rw[if_neg hno,ak5]
 first
  | exact wpAny_bind (m:=Builtin.Tuple.tupleExact _) (wpAny_newObj_type (wpAny_pure ⟨_,rfl,wpAny_pure h⟩) htake)
  | exact wpAny_bind (m:=Builtin.Tuple.tupleExact _) (wpAny_newObj_type (wpAny_bind (wpAny_pure (wpAny_pure ⟨_,rfl,wpAny_pure h⟩))) htake)
  | exact wpAny_bind (wpAny_bind (m:=Builtin.Tuple.tupleExact _) (wpAny_newObj_type (wpAny_pure (wpAny_pure ⟨_,rfl,wpAny_pure h⟩)) htake))
  | exact wpAny_bind (wpAny_bind (m:=Builtin.Tuple.tupleExact _) (wpAny_newObj_type (wpAny_pure ⟨_,rfl,wpAny_pure h⟩) htake))
end
end HT
namespace L2
open PySem PySem.Spec PyProof.Rows
abbrev TO:=St→Hp→(Option Int→Hp→Prop)→Prop
def PO(X:Cx)(e:Option Expr)(t:TO):Prop:=
 ∀(pins:List (Addr×Obj)) (s:Shared) (σ:St) (H:Hp) (Q:Option Int→Hp→Prop),Inv X pins σ H s→t σ H Q→
  wpAny (model X.prog X.w) X.A (evalPart e X.env) (fun u s'=>∃o H',Inv X pins σ H' s'∧IsPart u o∧Q o H') X.xe s
def amC:TO:=fun _ H Q=>Q none H
def atA(t:TE):TO:=fun σ H Q=>t σ H fun x H1=>∃i,x=.int i∧Q (some i) H1
section
variable{X:Cx}{e:Expr}{te:TE}{lo hi:Option Expr}{tl th:TO}{pos p2:Pos}
theorem adB:PO X none amC:=by
 intro pins s σ H Q I h
 rw[evalPart_none]
 exact wpAny_pure ⟨none,H,I,.none,h⟩
theorem acT(h:PE X e te):PO X (some e) (atA te):=by
 intro pins s σ H Q I hw
 rw[evalPart_some]
 refine thn (h pins s σ H _ I hw) fun u s1 ⟨x,H1,I1,r1,q1⟩=>?_
 obtain⟨i,rfl,q⟩:=q1
 obtain⟨t,rfl⟩:=r1
 exact⟨some i,H1,I1,.int i t,q⟩
def SlR(X:Cx)(r:V→Option Int→Option Int→Hp→VK→Prop):Prop:=
 ∀(pins:List (Addr×Obj)) (s:Shared) (σ:St) (H:Hp) (x:V) (v vl vu:Value) (lo hi:Option Int) (sl:Addr) (Q:VK),Inv X pins σ H s→aa8 x v→s.heap.IsSliceOf sl vl vu .none→IsPart vl lo→IsPart vu hi→r x lo hi H Q→
  ∃T id,typeLookup (.type T) "__getitem__"=pure (some (.builtin id))∧s.TypeIs v T∧wpAny (model X.prog X.w) X.A (getItem v (.ref sl)) (EP X pins σ Q) X.xe s
theorem SlR.or{r r':V→Option Int→Option Int→Hp→VK→Prop}(h:SlR X r)(h':SlR X r'):SlR X (fun x lo hi H Q=>r x lo hi H Q∨r' x lo hi H Q):=by
 intro pins s σ H x v vl vu lo hi sl Q I rx hs pl pu q
 rcases q with q|q
 ·exact h pins s σ H x v vl vu lo hi sl Q I rx hs pl pu q
 ·exact h' pins s σ H x v vl vu lo hi sl Q I rx hs pl pu q
def tSl(r:V→Option Int→Option Int→Hp→VK→Prop)(te:TE)(tl th:TO):TE:=fun σ H Q=>te σ H fun x H1=>tl σ H1 fun l H2=>th σ H2 fun u H3=>r x l u H3 Q
theorem ad8{r:V→Option Int→Option Int→Hp→VK→Prop}(hr:SlR X r)(he:PE X e te)(hl:PO X lo tl)(hu:PO X hi th):PE X (.Subscript e (.Slice lo hi none p2) pos) (tSl r te tl th):=by
 intro pins s σ H Q I h
 refine Subscript_ (thn (he pins s σ H _ I h) fun v s1 ⟨x,H1,I1,r1,q1⟩=>?_)
 refine wpAny_Slice (thn (hl pins s1 σ H1 _ I1 q1) fun vl s2 ⟨l,H2,I2,pl,q2⟩=>thn (hu pins s2 σ H2 _ I2 q2) fun vu s3 ⟨u,H3,I3,pu,q3⟩=>?_)
 rw[evalPart_none]
 refine wpAny_pure ?_
 have I4:Inv X pins σ H3 { s3 with heap:=s3.heap.push { cls:=.type "slice",data:=.fields #[vl,vu,.none] } }:=I3.kept (t':=s3.toks) fun b ob q=>Heap.get?_push_of_some _ q
 obtain⟨T,id,hT,ht,hg⟩:=hr pins { s3 with heap:=s3.heap.push { cls:=.type "slice",data:=.fields #[vl,vu,.none] } } σ H3 x v vl vu l u s3.heap.objs.size Q I4 r1 (Heap.IsSliceOf.new ..) pl pu q3
 show wpAny (model X.prog X.w) X.A (subscriptTail e (.Slice lo hi none p2) v (.ref s3.heap.objs.size)) (EP X pins σ Q) X.xe { s3 with heap:=s3.heap.push { cls:=.type "slice",data:=.fields #[vl,vu,.none] } }
 exact tail_any (ops:=[.ref s3.heap.objs.size,v]) ht hT hg (by with_unfolding_all rfl)
def alw(xs:List V)(lo hi:Option Int):List V:=(xs.drop (HT.sIx xs.length 0 lo)).take (HT.sIx xs.length xs.length hi-HT.sIx xs.length 0 lo)
theorem acL(xs:List V)(lo hi:Option Int):(alw xs lo hi).length≤xs.length:=by
 unfold alw
 rw[List.length_take,List.length_drop]
 omega
def ay1(K:PySem.W.Frag):V→Option Int→Option Int→Hp→VK→Prop:=fun x lo hi H Q=>∃a xs,x=.ref a∧SqT K H a xs∧
 ¬(HT.sIx xs.length 0 lo=0∧HT.sIx xs.length xs.length hi=xs.length)∧∀p,H p=none→Q (.ref p) (upd H p (.tup (alw xs lo hi)))
theorem aqp:SlR X (ay1 X.K):=by
 intro pins s σ H x v vl vu lo hi sl Q I rx hs pl pu h
 obtain⟨a,xs,rfl,hx,hw,q⟩:=h
 cases rx
 obtain⟨its,r,ht,hz⟩:=I.tuple hx
 have hlen:its.toArray.size=xs.length:=by rw[List.size_toArray];exact r.length.symm
 refine⟨"tuple",_,PyProof.Rows.slot_tuple_getitem.lookup,ht.typeIs,?_⟩
 refine HT.getItem_tuple_cut ht hs pl pu (by rw[hlen];exact hw) ?_ (by rw[hlen];exact hz)
 rw[hlen]
 refine⟨.ref s.heap.objs.size,_,I.laid (t':=s.toks) (o:=.tup (alw xs lo hi)) (fun b ob q=>Heap.get?_push_of_some _ q) (Nat.le_refl _) ?_,rfl,q _ (I.hok.fresh (Nat.le_refl _))⟩
 exact⟨Nat.le_trans (acL xs lo hi) hz,_,(r.drop (HT.sIx xs.length 0 lo)).take (HT.sIx xs.length xs.length hi-HT.sIx xs.length 0 lo),IsTup.new _ _⟩
def arZ(K:PySem.W.Frag):R2:=fun x y H Q=>∃a b xs ys,x=.ref a∧y=.ref b∧SqT K H a xs∧SqT K H b ys∧xs≠[]∧xs.length+ys.length≤sizeLine∧
 (ys=[]→Q (.ref a) H)∧(ys≠[]→∀p,H p=none→Q (.ref p) (upd H p (.tup (xs++ys))))
theorem Vals.nil_iff{xs:List V}{us:List Value}(r:Vals xs us):us=[]↔xs=[]:=by
 cases r with
 | nil=>simp
 | cons _ _=>simp
theorem alT:OpR X (binaryOp .Add) (arZ X.K):=by
 intro pins s σ H x y v u Q I rx ry h
 obtain⟨a,b,xs,ys,rfl,rfl,ha,hb,hx,hz,q1,q2⟩:=h
 cases rx
 cases ry
 obtain⟨its,r1,p1,_⟩:=I.tuple ha
 obtain⟨its2,r2,p2,_⟩:=I.tuple hb
 refine HT.cat_tup p1 p2 (fun z=>hx (r1.nil_iff.mp z)) (fun z=>⟨.ref a,H,I,rfl,q1 (r2.nil_iff.mp z)⟩) (fun z=>?_) (by rw[←r1.length,←r2.length];exact hz)
 refine⟨.ref s.heap.objs.size,_,I.laid (t':=s.toks) (o:=.tup (xs++ys)) (fun b ob q=>Heap.get?_push_of_some _ q) (Nat.le_refl _) ?_,rfl,q2 (fun w=>z (r2.nil_iff.mpr w)) _ (I.hok.fresh (Nat.le_refl _))⟩
 exact⟨by rw[List.length_append];exact hz,_,r1.append r2,IsTup.new _ _⟩
end
end L2
namespace L2
open PySem PySem.Spec PyProof.Rows
def ixN(n:Nat)(i:Int):Option Nat:=if 0≤i then(if i<n then some i.toNat else none)else if -(n:Int)≤i then some (i+n).toNat else none
def atI{α:Type}(xs:List α)(i:Int):Option α:=(ixN xs.length i).bind fun j=>xs[j]?
theorem ahs{n:Nat}{i:Int}{j:Nat}(h:ixN n i=some j):seqIndex? i n=some j∧j<n∧-(n:Int)≤i∧i<n:=by
 unfold ixN at h
 by_cases h0:0≤i
 ·rw[if_pos h0]at h
  by_cases h1:i<n
  ·rw[if_pos h1]at h
   have e:i.toNat=j:=Option.some.inj h
   exact⟨by rw[seqIndex_of h0 h1,e],by omega,by omega,h1⟩
  ·rw[if_neg h1]at h;cases h
 ·rw[if_neg h0]at h
  by_cases h1:-(n:Int)≤i
  ·rw[if_pos h1]at h
   have e:(i+n).toNat=j:=Option.some.inj h
   exact⟨by rw[seqIndex_neg (by omega) h1,e],by omega,h1,by omega⟩
  ·rw[if_neg h1]at h;cases h
theorem afF{α:Type}{xs:List α}{i:Int}{v:α}(h:atI xs i=some v):∃j,seqIndex? i xs.length=some j∧xs[j]?=some v∧j<xs.length∧-(xs.length:Int)≤i∧i<xs.length:=by
 unfold atI at h
 cases e:ixN xs.length i with
 | none=>rw[e]at h;cases h
 | some j=>
  rw[e]at h
  obtain⟨h1,h2,h3,h4⟩:=ahs e
  exact⟨j,h1,h,h2,h3,h4⟩
def afP(b:Expr):Prop:=∀o i,subscripted b false o i=operate [o,i] (getItem o i)
def IxR(X:Cx)(r:R2):Prop:=
 ∀(value slice:Expr) (pins:List (Addr×Obj)) (s:Shared) (σ:St) (H:Hp) (x y:V) (v u:Value) (Q:VK),Inv X pins σ H s→aa8 x v→aa8 y u→r x y H Q→
  subscripted slice false v u=operate [v,u] (getItem v u)→wpAny (model X.prog X.w) X.A (subscriptTail value slice v u) (EP X pins σ Q) X.xe s
def MtR(X:Cx)(id:String)(r:V→List V→Hp→VK→Prop):Prop:=
 ∀(pins:List (Addr×Obj)) (s:Shared) (σ:St) (H:Hp) (x:V) (xs:List V) (v:Value) (us:List Value) (Q:VK),Inv X pins σ H s→aa8 x v→Vals xs us→r x xs H Q→
  wpAny (model X.prog X.w) X.A (call (.builtin id) (v::us)) (EP X pins σ Q) X.xe s
section
variable{X:Cx}{a b:Expr}{ta tb:TE}{pos:Pos}
theorem IxR.or{r r':R2}(h:IxR X r)(h':IxR X r'):IxR X (fun x y H Q=>r x y H Q∨r' x y H Q):=by
 intro value slice pins s σ H x y v u Q I rx ry q hs
 rcases q with q|q
 ·exact h value slice pins s σ H x y v u Q I rx ry q hs
 ·exact h' value slice pins s σ H x y v u Q I rx ry q hs
theorem MtR.or{id:String}{r r':V→List V→Hp→VK→Prop}(h:MtR X id r)(h':MtR X id r'):MtR X id (fun x xs H Q=>r x xs H Q∨r' x xs H Q):=by
 intro pins s σ H x xs v us Q I rx rs q
 rcases q with q|q
 ·exact h pins s σ H x xs v us Q I rx rs q
 ·exact h' pins s σ H x xs v us Q I rx rs q
theorem arY{r:R2}(hr:IxR X r)(ha:PE X a ta)(hb:PE X b tb)(hs:afP b):PE X (.Subscript a b pos) (tOp r ta tb):=by
 intro pins s σ H Q I h
 exact Subscript_ (asC ha hb I h fun v u s2 x y H2 I2 rx ry q=>hr a b pins s2 σ H2 x y v u Q I2 rx ry q (hs _ _))
def avI(K:PySem.W.Frag):R2:=fun x y H Q=>∃p xs i v,x=.ref p∧y=.int i∧SqL K H p xs∧atI xs i=some v∧Q v H
def avy(K:PySem.W.Frag):R2:=fun x y H Q=>∃p xs i v,x=.ref p∧y=.int i∧SqT K H p xs∧atI xs i=some v∧Q v H
def avn:R2:=fun x y H Q=>∃z i c,x=.str z∧y=.int i∧z.length≤sizeLine∧atI z.cps.toList i=some c∧Q (.str ⟨#[c]⟩) H
theorem amP:IxR X (avI X.K):=by
 intro value slice pins s σ H x y v u Q I rx ry h hs
 obtain⟨p,xs,i,z,rfl,rfl,hq,he,q⟩:=h
 cases rx
 obtain⟨t,rfl⟩:=ry
 obtain⟨its,r,pl,hz⟩:=I.list hq
 obtain⟨j,h1,h2,h3,h4,h5⟩:=afF he
 obtain⟨w,ew,rw'⟩:=r.get h2
 have hl:=r.length
 have hn:=ad3
 have fin:EP X pins σ Q w s:=⟨z,H,I,rw',q⟩
 by_cases h0:0≤i
 ·have hj:i.toNat=j:=by
   rw[seqIndex_of h0 h5]at h1
   exact Option.some.inj h1
  exact item_listR pl.isList h0 (by omega) (by rw[hj];simpa using ew) fin hs
 ·have hj:(i+(its.toArray.size:Int)).toNat=j:=by
   rw[seqIndex_neg (by omega) h4]at h1
   rw[List.size_toArray,←hl]
   exact Option.some.inj h1
  exact subscriptTail_builtinR (x:=w) pl.isList.typeIs slot_list_getitem.lookup
   (wpAny_getItem_list_neg (Q:=fun r s'=>r=w∧EP X pins σ Q r s') pl.isList (by omega) (by rw[List.size_toArray]<;>omega) (by omega) (by rw[hj];simpa using ew) ⟨rfl,fin⟩) hs
theorem aqj:IxR X (avy X.K):=by
 intro value slice pins s σ H x y v u Q I rx ry h hs
 obtain⟨p,xs,i,z,rfl,rfl,hq,he,q⟩:=h
 cases rx
 obtain⟨t,rfl⟩:=ry
 obtain⟨its,r,pl,hz⟩:=I.tuple hq
 obtain⟨j,h1,h2,h3,h4,h5⟩:=afF he
 obtain⟨w,ew,rw'⟩:=r.get h2
 have hl:=r.length
 have hn:=ad3
 have fin:EP X pins σ Q w s:=⟨z,H,I,rw',q⟩
 exact subscriptTail_builtinR (x:=w) pl.typeIs slot_tuple_getitem.lookup
  (getItem_tuple (j:=j) (Q:=fun r s'=>r=w∧EP X pins σ Q r s') pl (by omega) (by omega) (by rw[List.size_toArray,←hl];exact h1) (by simpa using ew) ⟨rfl,fin⟩) hs
theorem aoP:IxR X avn:=by
 intro value slice pins s σ H x y v u Q I rx ry h hs
 obtain⟨z,i,c,rfl,rfl,hz,he,q⟩:=h
 obtain⟨t,rfl⟩:=rx
 obtain⟨t',rfl⟩:=ry
 obtain⟨j,h1,h2,h3,h4,h5⟩:=afF he
 have hl:z.cps.toList.length=z.length:=by simp[Str.length]
 rw[hl]at h1 h4 h5
 have hn:=ad3
 exact tail_any (typeIs_str s z t) slot_str_getitem.lookup (getItem_str (c:=c) (by
  have e1:decide (i < -(2^63:Int))=false:=decide_eq_false (by omega)
  have e2:decide (i≥2^63)=false:=decide_eq_false (by omega)
  rw[e1,e2,Bool.or_false]) (by rw[h1];simpa using h2) ⟨.str ⟨#[c]⟩,H,I.tok _,⟨_,rfl⟩,q⟩) hs
def rIx(K:PySem.W.Frag):R2:=fun x y H Q=>avI K x y H Q∨avy K x y H Q∨avn x y H Q
theorem aqF:IxR X (rIx X.K):=amP.or (aqj.or aoP)
theorem agN(its:List Value)(n j:Nat)(u:Value):Obj.mapSeq (·.setIfInBounds j u) { cls:=.type "list",data:=.seq its.toArray n }={ cls:=.type "list",data:=.seq (its.set j u).toArray n }:=by
 simp[Obj.mapSeq]
theorem Inv.lst{pins:List (Addr×Obj)}{σ:St}{H:Hp}{s:Shared}{p:Addr}{xs:List V}(I:Inv X pins σ H s)(h:H p=some (.lst xs)):
  ∃(its:List Value) (n:Nat),Vals xs its∧s.heap.get? p=some { cls:=.type "list",data:=.seq its.toArray n }∧xs.length≤sizeLine:=by
 obtain⟨z,its,n,r,e⟩:=I.hok p _ h
 exact⟨its,n,r,e,z⟩
theorem Inv.lstUpd{pins:List (Addr×Obj)}{σ:St}{H:Hp}{s:Shared}{p:Addr}{xs ys:List V}{its its':List Value}{n n':Nat}{f:Obj→Obj}(I:Inv X pins σ H s)(h:H p=some (.lst xs))
  (ho:s.heap.get? p=some { cls:=.type "list",data:=.seq its.toArray n }) (hf:f { cls:=.type "list",data:=.seq its.toArray n }={ cls:=.type "list",data:=.seq its'.toArray n' }) (r:Vals ys its') (hz:ys.length≤sizeLine) (t:Nat):
  Inv X pins σ (upd H p (.lst ys)) { s with heap:=s.heap.update p f,toks:=t }:=by
 have e:(s.heap.update p f).get? p=some { cls:=.type "list",data:=.seq its'.toArray n' }:=by
  rw[Heap.get?_update_self f ho (by rw[hf]<;>rfl),hf]
 refine I.write (x:=p) (e:=p) (by rw[h];trivial) (.inl rfl) (fun b u hb q=>(Heap.get?_update_other _ _ (Ne.symm hb)).trans q) ⟨_,e⟩ ?_
 exact⟨hz,its',n',r,e⟩
def asW:V→V→V→Hp→(Hp→Prop)→Prop:=fun o i v H Q=>∃p xs k j,o=.ref p∧i=.int k∧H p=some (.lst xs)∧ixN xs.length k=some j∧Q (upd H p (.lst (xs.set j v)))
theorem aj4:awD X asW:=by
 intro pins s σ H o i v ov iv u Q I ro ri rv h
 obtain⟨p,xs,k,j,rfl,rfl,hp,hj,q⟩:=h
 cases ro
 obtain⟨t,rfl⟩:=ri
 obtain⟨its,n,r,ho,hz⟩:=I.lst hp
 obtain⟨h1,h2,h3,h4⟩:=ahs hj
 have hl:=r.length
 have hn:=ad3
 have I':Inv X pins σ (upd H p (.lst (xs.set j v))) { s with heap:=s.heap.update p (Obj.mapSeq (·.setIfInBounds j u)) }:=
  I.lstUpd hp ho (agN its n j u) (r.set rv j) (by rw[List.length_set];exact hz) s.toks
 by_cases h0:0≤k
 ·have hk:k.toNat=j:=by
   rw[seqIndex_of h0 h4]at h1
   exact Option.some.inj h1
  exact PySem.W.ki_setAt ho h0 (by omega) (by rw[List.size_toArray,←hl];exact h4) (by rw[hk];exact⟨_,I',q⟩)
 ·have hk:(k+(its.toArray.size:Int)).toNat=j:=by
   rw[seqIndex_neg (by omega) h3]at h1
   rw[List.size_toArray,←hl]
   exact Option.some.inj h1
  exact PySem.W.ki_setBack ho (by omega) (by rw[List.size_toArray,←hl];exact h3) (by omega) (by rw[hk];exact⟨_,I',q⟩)
theorem aew(lo hi:Option Int)(n:Nat):(sliceBounds lo hi none n).1=((HT.sIx n 0 lo:Nat):Int)∧(sliceBounds lo hi none n).2.1=((HT.sIx n n hi:Nat):Int)∧(sliceBounds lo hi none n).2.2=1:=by
 refine⟨?_,?_,rfl⟩
 ·cases lo with
  | none=>simp[sliceBounds,HT.sIx]
  | some i=>
   simp only[sliceBounds,HT.sIx,Option.getD_none,show(1:Int)>0 by decide,if_true]
   by_cases h:i<0
   ·simp only[h,if_true]<;>omega
   ·simp only[h,if_false]<;>omega
 ·cases hi with
  | none=>simp[sliceBounds,HT.sIx]
  | some i=>
   simp only[sliceBounds,HT.sIx,Option.getD_none,show(1:Int)>0 by decide,if_true]
   by_cases h:i<0
   ·simp only[h,if_true]<;>omega
   ·simp only[h,if_false]<;>omega
theorem adL(its:List Value)(lo hi:Option Int):slicePick its.toArray lo hi none=((its.drop (HT.sIx its.length 0 lo)).take (HT.sIx its.length its.length hi-HT.sIx its.length 0 lo)).toArray:=by
 obtain⟨h1,h2,h3⟩:=aew lo hi its.toArray.size
 unfold slicePick
 rw[h1,h2,h3]
 simp only[sliceRange_one,pick_run,List.size_toArray]<;>rfl
def aya(K:PySem.W.Frag):V→Option Int→Option Int→Hp→VK→Prop:=fun x lo hi H Q=>∃a xs,x=.ref a∧SqL K H a xs∧∀p,H p=none→Q (.ref p) (upd H p (.lst (alw xs lo hi)))
theorem amI:SlR X (aya X.K):=by
 intro pins s σ H x v vl vu lo hi sl Q I rx hs pl pu h
 obtain⟨a,xs,rfl,hx,q⟩:=h
 cases rx
 obtain⟨its,r,ht,hz⟩:=I.list hx
 have hlen:=r.length
 refine⟨"list",_,slot_list_getitem.lookup,ht.isList.typeIs,?_⟩
 refine wpAny_getItem_list_slice ht.isList hs pl pu .none (by simp) ?_ (by rw[List.size_toArray]<;>omega)
 rw[adL,←hlen]
 refine⟨.ref s.heap.objs.size,_,I.laid (t':=s.toks) (o:=.lst (alw xs lo hi)) (fun b ob q=>Heap.get?_push_of_some _ q) (Nat.le_refl _) ?_,rfl,q _ (I.hok.fresh (Nat.le_refl _))⟩
 exact⟨Nat.le_trans (acL xs lo hi) hz,_,0,(r.drop (HT.sIx xs.length 0 lo)).take (HT.sIx xs.length xs.length hi-HT.sIx xs.length 0 lo),Heap.get?_push_size _ rfl⟩
theorem aey:aa4 X (.builtin "len") (fun xs H Q=>∃p ys,xs=[.ref p]∧(SqL X.K H p ys∨SqT X.K H p ys)∧Q (.int ys.length) H):=by
 intro pins s σ H xs us Q I r h
 obtain⟨p,ys,rfl,hq,q⟩:=h
 obtain⟨u,rfl,rx⟩:=ah5 r
 cases rx
 have hn:=ad3
 rcases hq with hq|hq
 ·obtain⟨its,r',pl,hz⟩:=I.list hq
  have hlen:=r'.length
  exact Calls.call_len_list pl.isList (by simp only[List.size_toArray]<;>omega) ⟨.int ys.length,H,I.tok _,⟨s.toks+1,by rw[List.size_toArray,hlen]⟩,q⟩
 ·obtain⟨its,r',pl,hz⟩:=I.tuple hq
  have hlen:=r'.length
  exact len_tuple pl (by simp only[List.size_toArray]<;>omega) ⟨.int ys.length,H,I.tok _,⟨s.toks+1,by rw[List.size_toArray,hlen]⟩,q⟩
theorem aa4.or{f:Value}{r r':List V→Hp→VK→Prop}(h:aa4 X f r)(h':aa4 X f r'):aa4 X f (fun xs H Q=>r xs H Q∨r' xs H Q):=by
 intro pins s σ H xs us Q I rs q
 rcases q with q|q
 ·exact h pins s σ H xs us Q I rs q
 ·exact h' pins s σ H xs us Q I rs q
theorem acs:aa4 X (.type "list") (fun xs H Q=>∃p ys,xs=[.ref p]∧(SqL X.K H p ys∨SqT X.K H p ys)∧∀l,H l=none→Q (.ref l) (upd H l (.lst ys))):=by
 intro pins s σ H xs us Q I r h
 obtain⟨p,ys,rfl,hq,q⟩:=h
 obtain⟨u,rfl,rx⟩:=ah5 r
 cases rx
 have fin:∀(its:List Value),Vals ys its→ys.length≤sizeLine→∀(h':Heap) (c':Nat),(∀b o',s.heap.get? b=some o'→h'.get? b=some o')→
   h'.get? s.heap.objs.size=some { cls:=.type "list",dict:=none,data:=.seq its.toArray c',slots:=#[] }→EP X pins σ Q (.ref s.heap.objs.size) { s with heap:=h' }:=fun its r' hz h' c' kp e=>
  ⟨.ref s.heap.objs.size,_,I.laid (t':=s.toks) kp (Nat.le_refl _) (show abi X.prog X.w _ h' _ (.lst ys)from⟨hz,its,c',r',e⟩),rfl,q _ (I.hok.fresh (Nat.le_refl _))⟩
 rcases hq with hq|hq
 ·obtain⟨its,r',pl,hz⟩:=I.list hq
  have hlen:=r'.length
  obtain⟨o,ho,hc,n,hd⟩:=pl.isList
  exact call_list_seq p (.inl rfl) ho hc hd (fun h' c' kp e=>fin its r' hz h' c' kp e) (by simp only[List.size_toArray]<;>omega)
 ·obtain⟨its,r',pl,hz⟩:=I.tuple hq
  have hlen:=r'.length
  obtain⟨o,ho,hc,n,hd⟩:=pl
  exact call_list_seq p (.inr rfl) ho hc hd (fun h' c' kp e=>fin its r' hz h' c' kp e) (by simp only[List.size_toArray]<;>omega)
def tyV(K:PySem.W.Frag)(T:String)(x:V)(H:Hp):Prop:=match x with
 | .str _=>T="str"
 | .int _=>T="int"
 | .ref p=>(T="list"∧∃xs,SqL K H p xs)∨(T="tuple"∧∃o,K.lookup p=some o∧o.cls=.type "tuple"∧o.dict=none)∨
   (T="dict"∧((∃kvs,H p=some (.dK kvs))∨∃kvs,H p=some (.dT kvs)))∨(T="set"∧∃S n,H p=some (.set S n))
 | _=>False
theorem ap0{pins:List (Addr×Obj)}{σ:St}{H:Hp}{s:Shared}{T:String}{x:V}{v:Value}(I:Inv X pins σ H s)(r:aa8 x v)(ty:tyV X.K T x H):
  s.TypeIs v T∧∀a,v=.ref a→∃ob,s.heap.get? a=some ob∧ob.dict=none:=by
 cases x with
 | str z=>
  obtain⟨t,rfl⟩:=r
  cases(show T="str" from ty)
  exact⟨typeIs_str s z t,fun _ e=>nomatch e⟩
 | int i=>
  obtain⟨t,rfl⟩:=r
  cases(show T="int" from ty)
  exact⟨typeIs_int s i t,fun _ e=>nomatch e⟩
 | ref p=>
  cases r
  rcases ty with⟨rfl,xs,hq⟩|⟨rfl,o,hk,hc,hd⟩|⟨rfl,hk⟩|⟨rfl,S,n,hk⟩
  ·obtain⟨its,_,pl,_⟩:=I.list hq
   refine⟨pl.isList.typeIs,fun a e=>?_⟩
   cases e
   obtain⟨o,n,e,c,hd,_⟩:=pl
   exact⟨o,e,hd⟩
  ·refine⟨⟨o,I.kIn p o hk,hc⟩,fun a e=>?_⟩
   cases e
   exact⟨o,I.kIn _ o hk,hd⟩
  ·have z:∃o,s.heap.get? p=some o∧o.ExactDict:=by
    rcases hk with⟨kvs,hk⟩|⟨kvs,hk⟩
    ·obtain⟨_,_,_,_,o,_,_,e,ex,_⟩:=I.hok p _ hk
     exact⟨o,e,ex⟩
    ·obtain⟨_,_,_,_,o,_,_,e,ex,_⟩:=I.hok p _ hk
     exact⟨o,e,ex⟩
   obtain⟨o,e,ex⟩:=z
   refine⟨⟨o,e,ex.1⟩,fun a e2=>?_⟩
   cases e2
   exact⟨o,e,ex.2.1⟩
  ·obtain⟨o,_,_,_,e,ex,_⟩:=I.hok p _ hk
   refine⟨⟨o,e,ex.1⟩,fun a e2=>?_⟩
   cases e2
   exact⟨o,e,ex.2.1⟩
 | _=>exact False.elim ty
def tBM(K:PySem.W.Frag)(T:String)(r:V→List V→Hp→VK→Prop)(to:TE)(t:TA):TE:=fun σ H Q=>to σ H fun x H1=>tyV K T x H1∧t σ H1 fun xs H2=>r x xs H2 Q
variable{o e:Expr}{es:List Expr}{to:TE}{t:TA}{name:Str}{apos cpos:Pos}{T id:String}{r:V→List V→Hp→VK→Prop}
theorem apT(pa:PlainAttrs T)(slot:Slot T name id)(hty:typeOf (.builtin id)=pure (.type "method_descriptor"))(hm:MtR X id r)(ho:PE X o to)(ha:PA X (e::es) t)
  (hbase:attributeBase o name X.env (eval o X.env)=eval o X.env:=by rfl)
  (hfew:((backTo cpos (starEach (e::es) X.env)).all (fun x=>!x.1)&&(backToKw cpos (keywordEach [] X.env)).all (fun x=>x.1.isSome)
   && decide ((e::es).length+([]:List Keyword).length+(if([]:List Keyword).isEmpty then 0 else 1)<30))=true:=by rfl)
  (hline:(apos.endLine==cpos.line)=true:=by rfl) (hs:starEach (e::es) X.env=(false,eval e X.env)::starEach es X.env:=by rfl) (hplain:(backTo cpos (starEach es X.env)).any (·.1)=false:=by rfl):
  PE X (.Call (.Attribute o name apos) (e::es) [] cpos) (tBM X.K T r to t):=by
 intro pins s σ H Q I h
 refine wpAny_Call_method_late hbase hfew hline rfl (thn (ho pins s σ H _ I h) fun v s1 ⟨x,H1,I1,r1,ty,q1⟩=>?_)
 obtain⟨h1,h2⟩:=ap0 I1 r1 ty
 refine⟨T,id,pa,slot,hty,h1,h2,?_⟩
 have hA:=ha cpos pins s1 σ H1 _ I1 q1
 rw[hs]at hA ⊢
 refine Calls.callWith_builtin (by show(false||(backTo cpos (starEach es X.env)).any (·.1))=false;rw[hplain]<;>rfl) (Calls.evalArgs_plain ?_)
 exact thn hA fun us s2 ⟨vs,H2,I2,r2,q2⟩=>hm pins s2 σ H2 x vs v us Q I2 r1 r2 q2
end
end L2
namespace L2
open PySem PySem.Spec PyProof.Rows
def MtM(X:Cx)(id:String)(r:V→List V→Hp→VK→Prop):Prop:=
 ∀(pins:List (Addr×Obj)) (s:Shared) (σ:St) (H:Hp) (x:V) (xs:List V) (v:Value) (us:List Value) (Q:VK),Inv X pins σ H s→aa8 x v→Vals xs us→r x xs H Q→
  wpAny (model X.prog X.w) X.A (call (.builtin id) (v::us)) (EP X pins σ Q) X.xe s
theorem Vals.one:∀{x:V}{us:List Value},Vals [x] us→∃u,us=[u]∧aa8 x u
 | _,_,.cons r .nil=>⟨_,rfl,r⟩
theorem Vals.two:∀{x y:V}{us:List Value},Vals [x,y] us→∃u v,us=[u,v]∧aa8 x u∧aa8 y v
 | _,_,_,.cons r (.cons q .nil)=>⟨_,_,rfl,r,q⟩
theorem Vals.zero:∀{us:List Value},Vals [] us→us=[]
 | _,.nil=>rfl
theorem Vals.dropLast{xs:List V}{us:List Value}(h:Vals xs us):Vals xs.dropLast us.dropLast:=by
 induction h with
 | nil=>exact .nil
 | cons r t ih=>
  cases t with
  | nil=>exact .nil
  | cons q t'=>exact .cons r ih
theorem Vals.reverse{xs:List V}{us:List Value}(h:Vals xs us):Vals xs.reverse us.reverse:=by
 induction h with
 | nil=>exact .nil
 | cons r t ih=>rw[List.reverse_cons,List.reverse_cons];exact Vals.append ih (.cons r .nil)
section
variable{X:Cx}{pins:List (Addr×Obj)}{σ:St}{H:Hp}{s:Shared}{l b:Addr}{xs ys zs:List V}
theorem Inv.lset{its its':List Value}{n:Nat}{f:Array Value→Array Value}{t':Nat}(I:Inv X pins σ H s)(hH:H l=some (.lst xs))
  (e:s.heap.get? l=some { cls:=.type "list",data:=.seq its.toArray n }) (hf:f its.toArray=its'.toArray) (hv:Vals ys its') (hz:ys.length≤sizeLine):
  Inv X pins σ (upd H l (.lst ys)) { s with heap:=s.heap.update l (Obj.mapSeq f),toks:=t' }:=by
 have q:=PySem.IsL.update e f
 rw[hf]at q
 refine I.write (x:=l) (e:=l) (by rw[hH];exact trivial) (.inl rfl) (fun b' u hb hu=>(Heap.get?_update_other s.heap (Obj.mapSeq f) (Ne.symm hb)).trans hu) ⟨_,q⟩ ?_
 exact⟨hz,its',_,hv,q⟩
theorem Inv.lnew{its:List Value}{t':Nat}(I:Inv X pins σ H s)(hv:Vals ys its)(hz:ys.length≤sizeLine):
  Inv X pins σ (upd H s.heap.objs.size (.lst ys)) { s with heap:=s.heap.push { cls:=.type "list",data:=.seq its.toArray },toks:=t' }:=
 I.laid (fun _ _ q=>Heap.get?_push_of_some _ q) (Nat.le_refl _) ⟨hz,its,0,hv,Heap.get?_push_size _ rfl⟩
theorem Inv.fresh(I:Inv X pins σ H s):H s.heap.objs.size=none:=I.hok.fresh (Nat.le_refl _)
theorem Inv.lstM(I:Inv X pins σ H s)(hH:H l=some (.lst xs)):xs.length≤sizeLine∧∃(its:List Value) (n:Nat),Vals xs its∧xs.length=its.length∧s.heap.get? l=some { cls:=.type "list",data:=.seq its.toArray n }:=by
 obtain⟨z,its,n,r,e⟩:=I.hok l _ hH
 exact⟨z,its,n,r,r.length,e⟩
end
section
variable{X:Cx}
def anp:V→List V→Hp→VK→Prop:=fun x vs H Q=>∃l xs y,x=.ref l∧vs=[y]∧H l=some (.lst xs)∧xs.length<sizeLine∧Q .non (upd H l (.lst (xs++[y])))
theorem acQ:MtM X "list.append" anp:=by
 intro pins s σ H x vs v us Q I rx rv h
 obtain⟨l,xs,y,rfl,rfl,hH,hz,q⟩:=h
 cases rx
 obtain⟨u,rfl,ru⟩:=rv.one
 obtain⟨z,its,n,r,hl,e⟩:=I.lstM hH
 refine call_meets F.slot_list_append ⟨_,e,rfl⟩ F.entry_list_append (F.args_list_append_2 _ _) (PySem.list_append l its.toArray n u (by rw[List.size_toArray];omega)) ⟨e,?_⟩
 refine⟨.non,_,I.lset (its':=its++[u]) hH e (by simp) (r.append (.cons ru .nil)) ?_,rfl,q⟩
 rw[List.length_append,List.length_singleton]
 omega
end
end L2
namespace Att
open PySem PySem.W PySem.Calls PyProof.Rows
theorem acO{P:Params}{h:Heap}:∀(ns:List Int) (vs:List Value),WellAll P h vs (ns.map WData.int)→IntsAre vs ns:=by
 intro ns
 induction ns with
 | nil=>
  intro vs w
  rw[List.map_nil]at w
  cases w
  exact .nil
 | cons n ns ih=>
  intro vs w
  rw[List.map_cons]at w
  cases w with
  | cons a b=>
   cases a
   exact .cons _ _ (ih _ b)
theorem aiD{l:OpenLaw}{n:Nat}(hn:l.most=some n){P:Params}{h:Heap}{args:List WData}{vals:List Value}
  (hpre:l.row.toRowW.claim.pre args=true) (hwl:WellAll P h vals args):
  ∃a vs ns,vals=[Value.ref a]∧args=[WData.list (ns.map WData.int)]∧h.get? a=some { cls:=.type "list",data:=.seq vs.toArray }∧IntsAre vs ns∧ns.length≤n:=by
 have hsh:WShape.hasAll [] args [.list .int]=true:=(pre_splitW hpre).1
 have hc:l.pre.holds [] { args:=args }=true:=(pre_splitW hpre).2
 obtain⟨d,r,rfl,h1,h2⟩:=hasAllW_cons hsh
 obtain rfl:=hasAllW_nil h2
 obtain⟨xs,rfl,h3⟩:=hasW_list h1
 obtain⟨ns,rfl⟩:=items_int h3
 have hlen:ns.length≤n:=by
  unfold OpenLaw.pre at hc
  have h4:(WTm.not (.lt (.lit (.int (n:Int))) (.len (.arg 0)))).holds [] { args:=[.list (ns.map .int)] }=true:=by
   have h4:=(holds_andW hc).1
   rw[hn]at h4
   exact h4
  have h5:=condW_of h4 (w_not (w_lt w_lit (w_len_list (w_arg rfl))))
  rw[List.length_map]at h5
  refine Nat.le_of_not_lt fun q=>?_
  have q':(n:Int)<((ns.length:Nat):Int):=by omega
  first
   | (rw[decide_eq_true q']at h5;exact absurd h5 (by decide))
   | (simp at h5;omega)
 cases hwl with
 | cons w1 w2=>
  cases w2
  cases w1 with
  | list ho hall=>exact⟨_,_,ns,rfl,rfl,ho,acO ns _ hall,hlen⟩
theorem ai3(l:OpenLaw)(args:List WData):l.row.toRowW.claim.post args (.bool true) args=true:=
 postW_of (r:=l.row.toRowW) (X:=(true==true))
  (show WShape.has [] (.bool true) .bool=true by first|rfl|decide|simp[WShape.has,WShape.arms,WShape.armsAll])
  (show(WTm.eq .res (.lit (.bool true))).value [] { args:=args,res:=some (.bool true),after:=args }=some (.bool (true==true))from w_eq_bool (w_res rfl) w_lit) rfl
theorem attach_call{l:OpenLaw}{n:Nat}{q:Program}{loose:List Str}{XP:(Str→Option Value)→Heap→Prop}{YP:World→Heap→Prop}{d:DefRec}
  (hn:l.most=some n) (hdf:d.params.defaults=[])
  (call:∀(w:World) (s₀ s₁:Shared) (mg mb:Str→Option Value) (fa:Addr) (o:Obj) (pm cd doc:Value) (a:Addr) (vs:List Value) (ns:List Int),
   Ground q loose [] XP w s₀ mg mb s₁.heap→YP w s₁.heap→
   s₁.heap.get? fa=some o→o.data=.func (docDef d.name d.params d.body d.scope pm cd doc)→s₁.heap.CodeRec cd d.name→mg d.name=some (.ref fa)→
   s₁.heap.get? a=some { cls:=.type "list",data:=.seq vs.toArray }→IntsAre vs ns→ns.length≤n→s₁.gens=#[]→
   codeAny (model l.prog w) callerA (.call (.ref fa) ⟨[.ref a],[]⟩) (fun r s'=>r=.ok (.ret (.bool true))∧OldK s₁.heap s'.heap∧s'.os=s₁.os∧AllBare s'.gens) s₁):
  WalkO q loose XP YP l.row.toRowW d [] (fun f vs=>PySem.call f vs):=by
 intro w s₀ s₁ mg mb G Y fa o pm cd doc dV kV ho hd hcd hD hmg hg args vals as hpre hlay hrd hwl hlo
 obtain rfl:dV=.none:=Dflts.none hD hdf
 obtain rfl:kV=.none:=Dflts.noKw hD
 obtain⟨a,vs,ns,rfl,rfl,hobj,hints,hlen⟩:=aiD hn hpre hwl
 refine enter_call (codeAny_mono (call w s₀ s₁ mg mb fa o pm cd doc a vs ns G Y ho (fd_plain hd) hcd hmg hobj hints hlen hg) fun r s' hq=>?_)
 obtain⟨rfl,h2,h3,h4⟩:=hq
 exact⟨.inl ⟨.bool true,.bool true,[],rfl,fun _=>rfl,.bool true,ai3 l _,fun _=>⟨List.Pairwise.nil,fun _ hm=>(nomatch hm)⟩⟩,h2,h3,h4⟩
section
variable{prog:Program}{w:World}{A:Around}{E:Value→Shared→Prop}{s:Shared}{K:Frag}
def avH(h:Heap)(L d:Addr):List (Addr×Obj):=(List.range h.objs.size).filterMap fun a=>if a=L∨a=d then none else(h.get? a).map fun o=>(a,o)
end
end Att
namespace L2
open PySem PySem.Spec PyProof.Rows
theorem aeG:∀{vs:List Value}{ns:List Int},IntsAre vs ns→Vals (ns.map V.int) vs
 | _,_,.nil=>.nil
 | _,_,.cons n t h=>.cons ⟨t,rfl⟩ (aeG h)
def atq(H:Hp):Prop:=∀b,H b=none∨∃o xs,H b=some (.frz o (.lst xs))
theorem aj3{P:Program}{w:World}{K:PySem.W.Frag}{mg mb:Str→Option Value}{CX:CXT}{k:Nat}{fa a:Addr}{fd:FuncData}{x:Str}{sp:Sp}{s₁:Shared}{vs:List Value}{ns:List Int}
  (KX:K.In s₁.heap) (hns:s₁.heap.Ns mainGlobals mg) (hb:s₁.heap.Ns builtinsNs mb) (hbb:∀x:Str,x≠"__name__"→mb x=bootBuiltins x) (hlim:s₁.heap.NoLimit) (hg:s₁.gens=#[])
  (ha:s₁.heap.get? a=some { cls:=.type "list",data:=.seq vs.toArray }) (hi:IntsAre vs ns) (hl:ns.length≤sizeLine) (hr:Room k callerA)
  (F:∀base:Heap,K.In base→base.Ns mainGlobals mg→FnOk P w K mg base CX k fa fd [x] sp) (hbind:∀(s:Shared) (u:Value),BindsTo s fd ⟨[u],[]⟩ [(x,u)])
  (hsp:∀H:Hp,atq H→SqL K H a (ns.map V.int)→sp [.ref a] H (fun v _=>v=.bl true) fun _ _ _=>False)
  (hCX:∀H e s',CX [] H s₁ (fun _ _ _=>False) e s'→False):
  codeAny (model P w) callerA (.call (.ref fa) ⟨[.ref a],[]⟩) (fun r s'=>r=.ok (.ret (.bool true))∧OldK s₁.heap s'.heap∧s'.os=s₁.os∧AllBare s'.gens) s₁:=by
 have rv:=aeG hi
 have lenV:=hi.length
 have core:∀H:Hp,atq H→SqL K H a (ns.map V.int)→HOk P w H s₁.heap→(∀b,H b≠none→b=a)→(H a≠none→K.lookup a=none)→
   codeAny (model P w) callerA (.call (.ref fa) ⟨[.ref a],[]⟩) (fun r s'=>r=.ok (.ret (.bool true))∧OldK s₁.heap s'.heap∧s'.os=s₁.os∧AllBare s'.gens) s₁:=by
  intro H hO hS hok hA hK
  have base_of:∀{b:Addr}{o:Obj},s₁.heap.get? b=some o→H b=none→(ajv s₁.heap H).get? b=some o:=fun e n=>ajU e n
  have noA:∀{b:Addr}{o:Obj}{es:Array DictEntry}{ep:Nat},s₁.heap.get? b=some o→o.data=.dict es ep→H b=none:=fun {b o es ep} e d=>by
   cases q:H b with
   | none=>rfl
   | some u=>
    have e':b=a:=hA b (by rw[q];simp)
    subst e'
    rw[ha]at e;cases e
    have d':Data.seq vs.toArray _=Data.dict es ep:=d
    cases d'
  have nsK:∀{b:Addr}{m:Str→Option Value},s₁.heap.Ns b m→(ajv s₁.heap H).Ns b m:=fun {b m} ⟨o,es,ep,e,d,r⟩=>⟨o,es,ep,base_of e (noA e d),d,r⟩
  have hKb:K.In (ajv s₁.heap H):=fun b o e=>base_of (KX b o e) (by
   cases q:H b with
   | none=>rfl
   | some u=>
    have e':b=a:=hA b (by rw[q];simp)
    subst e'
    rw[hK (by rw[q];simp)]at e;cases e)
  have hM:Mod K mg (ajv s₁.heap H):=⟨hKb,nsK hns,⟨mb,nsK hb,hbb⟩,let ⟨mc,h1,h2⟩:=hlim;⟨mc,nsK h1,h2⟩⟩
  have e0:Env0 P w K mg (ajv s₁.heap H) callerA [] s₁ H:=⟨rfl,hM,fun b o e=>amO e,Nat.le_of_eq (ajh _ _),trivial,fun b hb=>absurd (show b∈([]:List Addr)from hb) (by simp),hok,.of_eq hg⟩
  refine codeAny_mono ((F _ hKb (nsK hns)).run callerA [] s₁ H ⟨[.ref a],[]⟩ [.ref a] [.ref a] _ _ hr e0 (hbind s₁ (.ref a)) (.cons rfl .nil) (hsp H hO hS)) fun r s' h=>?_
  cases r with
  | error e=>exact(hCX H e s' h).elim
  | ok fl=>
   cases fl with
   | next=>exact False.elim h
   | brk=>exact False.elim h
   | cont=>exact False.elim h
   | ret u=>
    obtain⟨v,H',os,bare,un,hok',r',q⟩:=h
    have q':v=.bl true:=q
    subst q'
    obtain rfl:u=Value.bool true:=r'
    refine⟨rfl,OldK.of_keep fun b o e=>?_,os,bare⟩
    cases q:H b with
    | none=>exact un.keep b o e q (by intro z;exact absurd (show b∈([]:List Addr)from z) (by simp)) (by simp)
    | some u=>
     rcases hO b with z|⟨ob,xs,z⟩
     ·rw[q]at z;cases z
     ·have z2:=un.frzs b ob _ z
      obtain⟨e1,_⟩:=hok b _ z
      obtain⟨e2,_⟩:=hok' b _ z2
      rw[e]at e1;cases e1
      exact e2
 cases hk:K.lookup a with
 | some o=>
  have e:=KX a o hk
  rw[ha]at e
  cases e
  refine core (fun _=>none) (fun _=>.inl rfl) (.inr ⟨_,vs.toArray,_,hk,rfl,rfl,rfl,by rw[List.size_toArray,lenV];exact hl,by simpa using rv⟩) (fun b u z=>by have z':(none:Option HO)=some u:=z;cases z') (fun b z=>absurd rfl z) fun z=>absurd rfl z
 | none=>
  refine core (fun b=>if b=a then some (.frz { cls:=.type "list",data:=.seq vs.toArray } (.lst (ns.map V.int)))else none) (fun b=>?_) (.inl (.inr ⟨{ cls:=.type "list",data:=.seq vs.toArray },if_pos rfl⟩)) (fun b u z=>?_) (fun b z=>?_) fun _=>hk
  ·by_cases hb:b=a
   ·exact .inr ⟨_,_,if_pos hb⟩
   ·exact .inl (if_neg hb)
  ·by_cases hb:b=a
   ·have z':=(if_pos hb).symm.trans z
    cases z'
    subst hb
    exact⟨ha,by rw[List.length_map];exact hl,vs,_,rv,ha⟩
   ·have z':=(if_neg hb).symm.trans z
    cases z'
  ·by_cases hb:b=a
   ·exact hb
   ·exact absurd (if_neg hb) z
end L2
namespace L2
open PySem PySem.Spec PyProof.Rows
abbrev KOf{K:PySem.W.Frag}{h:Heap}(_:K.In h):PySem.W.Frag:=K
theorem walk_of{l:PySem.W.OpenLaw}{n k:Nat}{q:Program}{loose:List Str}{XP:(Str→Option Value)→Heap→Prop}{YP:World→Heap→Prop}{d:DefRec}{K:Params→PySem.W.Frag}{CX:World→CXT}{sp:World→Sp}{x:Str}
  (hn:l.most=some n) (hn2:n≤sizeLine) (hdf:d.params.defaults=[]) (hr:Room k callerA)
  (hY:∀(w:World) (h:Heap),YP w h→(K w.params).In h)
  (F:∀(w:World) (mg:Str→Option Value) (fa:Addr) (h:Heap),(K w.params).In h→h.Ns mainGlobals mg→mg d.name=some (.ref fa)→
   ∃fd:FuncData,(∀(s:Shared) (u:Value),BindsTo s fd ⟨[u],[]⟩ [(x,u)])∧
    ∀base:Heap,(K w.params).In base→base.Ns mainGlobals mg→FnOk l.prog w (K w.params) mg base (CX w) k fa fd [x] (sp w))
  (hsp:∀(w:World) (H:Hp) (a:Addr) (ns:List Int),ns.length≤n→atq H→SqL (K w.params) H a (ns.map V.int)→sp w [.ref a] H (fun v _=>v=.bl true) fun _ _ _=>False)
  (hCX:∀(w:World) (H:Hp) (s:Shared) (e:Value) (s':Shared),CX w [] H s (fun _ _ _=>False) e s'→False):
  PySem.W.WalkO q loose XP YP l.row.toRowW d [] (fun f vs=>PySem.call f vs):=by
 refine Att.attach_call hn hdf fun w s₀ s₁ mg mb fa o pm cd doc a vs ns G Y ho hd hcd hmg hobj hints hlen hg=>?_
 have KX:=hY w _ Y
 obtain⟨fd,hb,hF⟩:=F w mg fa _ KX G.T.g hmg
 exact aj3 KX G.T.g G.T.b G.T.builtins G.T.nolimit hg hobj hints (Nat.le_trans hlen hn2) hr hF hb (fun H hO hS=>hsp w H a ns hlen hO hS) fun H e s'=>hCX w H s₁ e s'
end L2
namespace L2
open PySem PySem.Spec PyProof.Rows
def inClass(s:Stmt)(j:Nat):Stmt:=match s with
 | .ClassDef _ _ _ body _ _ _ _ _ _ _=>body.getD j (.Pass ⟨0,0,0,0⟩)
 | _=>.Pass ⟨0,0,0,0⟩
def defArgs(s:Stmt):Arguments:=match s with
 | .FunctionDef _ a _ _ _ _ _ _ _ _=>a
 | _=>{ posonlyargs:=[],args:=[],vararg:=none,kwonlyargs:=[],kw_defaults:=[],kwarg:=none,defaults:=[] }
def defBody(s:Stmt):List Stmt:=match s with
 | .FunctionDef _ _ b _ _ _ _ _ _ _=>b
 | _=>[]
def defScope(s:Stmt):Scope:=match s with
 | .FunctionDef _ _ _ _ _ _ sc _ _ _=>sc
 | _=>{ kind:=.function,names:=[],isGenerator:=false,isCoroutine:=false }
abbrev CX0:CXT:=fun _ _ _ _ _ _=>False
structure Fun(K:PySem.W.Frag)(x qual:Str)(st:Stmt)(f:Addr)(fd:FuncData):Prop where
 ex:∃(oc:Value) (od:Option Addr) (kV doc pm:Value) (an:Option Addr) (cdv ct:Value) (osl:Array (Option Value)),
  fd=PySem.W.fnOf x qual (defArgs st) (defBody st) (defScope st) .none kV doc pm an cdv ct∧K.lookup f=some ⟨oc,od,.func fd,osl⟩∧PySem.W.codeIn K cdv qual=true
 kp:PySem.W.keepIn K (.ref f)=true
section
variable{P:Program}{w:World}{K:PySem.W.Frag}{mg:Str→Option Value}{base:Heap}
theorem Fun.ok{x qual:Str}{st:Stmt}{f:Addr}{fd:FuncData}{N ps:List Str}{k:Nat}{sp:Sp}(F:Fun K x qual st f fd)(S:FnScope N ps (defScope st))(len:∀vs H Q E,sp vs H Q E→vs.length=ps.length)
  (hbody:∀(cdv:Value) (A:Around) (outer:List Env) (s:Shared) (H:Hp) (vs:List V) (Q:VK) (E:XK),Room k (A.deeper (envOfC qual (defScope st) s.heap.objs.size f cdv))→sp vs H Q E→
   ∃t,PSs (aek CX0 P w K mg base N qual (defScope st) f cdv A outer s H E).nox (defBody st) t∧t { nx:=fun _ H'=>Q .non H',rt:=Q } (start N vs) H):FnOk P w K mg base CX0 (k+1) f fd ps sp:=by
 obtain⟨oc,od,kV,doc,pm,an,cdv,ct,osl,rfl,lk,hcd⟩:=F.ex
 refine apq lk hcd S len fun A outer s H vs Q E hr hsp=>?_
 obtain⟨t,h,q⟩:=hbody cdv A outer s H vs Q E hr hsp
 exact⟨t,h.nox,q⟩
theorem Fun.binds{x qual:Str}{st:Stmt}{f:Addr}{fd:FuncData}{ps:List Str}(F:Fun K x qual st f fd)
  (h:∀(kV doc pm:Value) (an:Option Addr) (cdv ct:Value) (us:List Value),us.length=ps.length→bindArgs (PySem.W.fnOf x qual (defArgs st) (defBody st) (defScope st) .none kV doc pm an cdv ct) ⟨us,[]⟩=pure (ps.zip us)):Binds K fd ps []:=by
 obtain⟨oc,od,kV,doc,pm,an,cdv,ct,osl,rfl,lk,hcd⟩:=F.ex
 exact .all (h kV doc pm an cdv ct)
end
theorem amj{A B:Prop}(h:B):if false=true then A else B:=by
 rw[if_neg Bool.false_ne_true]
 exact h
theorem am1{A B:Prop}(h:A):if true=true then A else B:=by
 rw[if_pos rfl]
 exact h
def ajt(H H':Hp):Prop:=∀b o,H b=some o→H' b=some o
theorem ajt.refl(H:Hp):ajt H H:=fun _ _ h=>h
theorem ajt.trans{H H1 H2:Hp}(a:ajt H H1)(b:ajt H1 H2):ajt H H2:=fun c o h=>b c o (a c o h)
theorem ajt.free{H H':Hp}(e:ajt H H'){l:Addr}(h:H' l=Option.none):H l=Option.none:=by
 cases q:H l with
 | none=>rfl
 | some o=>
  rw[e l o q]at h
  cases h
theorem ajt.seq{K:PySem.W.Frag}{H H':Hp}{a:Addr}{xs:List V}(e:ajt H H')(h:SqL K H a xs):SqL K H' a xs:=by
 rcases h with(h|⟨o,h⟩)|h
 ·exact .inl (.inl (e _ _ h))
 ·exact .inl (.inr ⟨o,e _ _ h⟩)
 ·exact .inr h
end L2
end
noncomputable section
namespace IP
open PySem (Str)
set_option genInjectivity true in
inductive T where
 | non|bl (b:Bool)|int (i:Int)|str (x:Str)|tup (xs:List T)|lst (xs:List T)|loc (l:Nat)|exc (c:Nat)
 deriving Inhabited
set_option genInjectivity true in
inductive R where
 | val (t:T)|bor (ts:List T)
set_option genInjectivity true in
inductive B where
 | val (t:T)|own (ts:List T)|bor (ts:List T)|lck (ts:List T)
 deriving Inhabited
abbrev Fr:=List (Option B)
set_option genInjectivity true in
inductive Cell where
 | lst (ts:List T)|ins (c:Nat) (fs:List (Option T))|tbl (k:Nat) (p:PySem.Pos) (q:PySem.Str)
abbrev Sto:=List Cell
set_option genInjectivity true in
inductive Res(α:Type)where
 | stuck|ok (a:α) (s:Sto)|exc (c:Nat) (s:Sto)
def Res.bind{α β:Type}(m:Res α)(k:α→Sto→Res β):Res β:=match m with
 | .stuck=>.stuck
 | .ok a s=>k a s
 | .exc c s=>.exc c s
@[simp] theorem Res.bind_ok {α β:Type} (a:α) (s:Sto) (k:α→Sto→Res β):(Res.ok a s).bind k=k a s:=rfl
@[simp] theorem Res.bind_exc {α β:Type} (c:Nat) (s:Sto) (k:α→Sto→Res β):(Res.exc c s:Res α).bind k=.exc c s:=rfl
@[simp] theorem Res.bind_stuck {α β:Type} (k:α→Sto→Res β):(Res.stuck:Res α).bind k=.stuck:=rfl
def Res.of{α:Type}(o:Option α)(s:Sto):Res α:=match o with
 | none=>.stuck
 | some a=>.ok a s
@[simp] theorem Res.of_some {α:Type} (a:α) (s:Sto):Res.of (some a) s=.ok a s:=rfl
@[simp] theorem Res.of_none {α:Type} (s:Sto):Res.of (none:Option α) s=.stuck:=rfl
inductive Op where|add|sub|mul|fdiv|mod|pow
inductive Cm where|lt|le|gt|ge|eq|ne|isN|notN|mem|nmem
inductive Bi where|len|abs|int|list|tuple|any|all|min|max|sorted|str
inductive Ty where|int|bool|tuple|list|str|cls(c:Nat)
set_option genInjectivity true in
inductive Tg where|one(i:Nat)|many(is:List Nat)
inductive E where
 | var (i:Nat)
 | cst (t:T)
 | glb (x:Str) (i:Int)
 | bin (o:Op) (a b:E)
 | neg (a:E)
 | not (a:E)
 | cmp (c:Cm) (a b:E)
 | and (a b:E)|or (a b:E)
 | ife (c a b:E)
 | tup (es:List E)|lst (es:List E)
 | sub (a b:E)
 | cutL (a lo:E)|cutU (a hi:E)|cutLU (a lo hi:E)|rev (a:E)
 | b1 (f:Bi) (a:E)
 | mn2 (a b:E)|mx2 (a b:E)
 | mxd (a d:E)|mnd (a d:E)
 | mnk (a:E) (i j l k:Nat) (p:PySem.Pos) (q:Str)|sok (a:E) (i:Nat) (k:E)
 | isi (a:E) (c:Ty)
 | call (f:Nat) (es:List E) (ds:List T)
 | comp (elt:E) (tg:Tg) (it:E)
 | compIf (elt:E) (tg:Tg) (it c:E)
 | rng1 (a:E)|rng2 (a b:E)|enm (a:E)|zip (a b:E)
 | fld (a:E) (c f:Nat)|cell (a:E)|new (c f n:Nat) (es:List E) (ds:List T)|meth (a:E) (c f:Nat) (es:List E) (ds:List T)
 | compC (elt:E) (tg:Tg) (it:E)
 | cmpD (c:Cm) (a b:E)
 | join (x:Str) (b:E)
 deriving Inhabited
inductive S where
 | asg (i:Nat) (e:E)
 | asgT (is:List Nat) (e:E)
 | mk (i:Nat) (e:E)
 | app (i:Nat) (e:E)
 | ext (i:Nat) (e:E)
 | put (i:Nat) (j e:E)
 | pop (k i:Nat)
 | frz (i:Nat)
 | ifs (c:E) (a b:List S)
 | whl (c:E) (b:List S)
 | for_ (tg:Tg) (it:E) (b:List S)
 | ret (e:E)
 | retO (e:E)
 | retV (i:Nat)
 | exp (e:E)
 | raise (c:Nat)
 | putL (a j e:E)|appL (a e:E)|setF (a:E) (c f:Nat) (e:E)|popL (a:E)|clrL (a:E)|forC (tg:Tg) (it:E) (b:List S)
 | try_ (b:List S) (c:Nat) (nm:Option Nat) (h:List S)
 | pass
 deriving Inhabited
def eqL(f:T→T→Option Bool):List T→List T→Option Bool
 | [],[]=>some true
 | [],_::_=>some false
 | _::_,[]=>some false
 | a::r,b::q=>match f a b,eqL f r q with
  | some k,some k'=>some (k&&k')
  | _,_=>none
def eqD:Nat→T→T→Option Bool
 | _,.non,.non=>some true
 | _,.bl a,.bl b=>some (a==b)
 | _,.int a,.int b=>some (a==b)
 | _,.str a,.str b=>some (a==b)
 | n+1,.tup a,.tup b=>eqL (eqD n) a b
 | n+1,.lst a,.lst b=>eqL (eqD n) a b
 | _,.non,.int _=>some false
 | _,.int _,.non=>some false
 | _+1,.non,.tup _=>some false
 | _+1,.tup _,.non=>some false
 | _,_,_=>none
abbrev eqT:T→T→Option Bool:=eqD 8
abbrev au8:List T→List T→Option Bool:=eqL (eqD 7)
def big:Nat:=10^300
def ahr(i j:Int):Bool:=decide (i.natAbs<2^64)||decide (j.natAbs<2^64)||(decide (i.natAbs<big)&&decide (j.natAbs<big))
def lim:Nat:=1000000
def R.seq:R→Option (List T)
 | .val (.lst ts)=>some ts
 | .bor ts=>some ts
 | _=>none
def R.sq2:R→Option (List T)
 | .val (.lst ts)=>some ts
 | .val (.tup ts)=>some ts
 | .bor ts=>some ts
 | _=>none
def R.dr(s:Sto):R→R
 | .val (.loc l)=>match s[l]? with
  | some (.lst ts)=>.bor ts
  | _=>.val (.loc l)
 | r=>r
def opI:Op→Int→Int→Option Int
 | .add,i,j=>some (i+j)
 | .sub,i,j=>some (i-j)
 | .mul,i,j=>if ahr i j then some (i*j)else none
 | .fdiv,i,j=>if j≠0∧j.natAbs<big then some (Int.fdiv i j)else none
 | .mod,i,j=>if j≠0 then some (Int.fmod i j)else none
 | .pow,i,j=>if 0≤j∧j≤100∧i.natAbs<big then some (i^j.toNat)else none
def opR(o:Op)(x y:R):Option R:=match o,x,y with
 | o,.val (.int i),.val (.int j)=>(opI o i j).map fun k=>.val (.int k)
 | .add,.val (.tup xs),.val (.tup ys)=>if xs≠[]∧ys≠[]∧xs.length+ys.length≤lim then some (.val (.tup (xs++ys)))else none
 | .add,.val (.str x),.val (.str y)=>if x.length+y.length≤lim then some (.val (.str (x++y)))else none
 | .add,x,y=>match x.seq,y.seq with
  | some xs,some ys=>if xs.length+ys.length≤lim then some (.val (.lst (xs++ys)))else none
  | _,_=>none
 | _,_,_=>none
def aaN:List T→Option (List Int)
 | []=>some []
 | .int i::r=>(aaN r).map (i::·)
 | _=>none
def aaG:List T→Option (List Bool)
 | []=>some []
 | .bl b::r=>(aaG r).map (b::·)
 | _=>none
def aln:List T→Option (List Str)
 | []=>some []
 | .str x::r=>(aln r).map (x::·)
 | _=>none
def R.int?:R→Option Int
 | .val (.int i)=>some i
 | _=>none
def R.isNon:R→Bool
 | .val .non=>true
 | _=>false
def R.tup?:R→Option (List T)
 | .val (.tup ts)=>some ts
 | .val (.lst ts)=>some ts
 | _=>none
def R.val?:R→Option T
 | .val t=>some t
 | _=>none
def tru:R→Option Bool
 | .val .non=>some false
 | .val (.bl b)=>some b
 | .val (.int i)=>some (i != 0)
 | .val (.lst ts)=>some (!ts.isEmpty)
 | .val (.tup ts)=>some (!ts.isEmpty)
 | .bor ts=>some (!ts.isEmpty)
 | _=>none
def eqR:R→R→Option Bool
 | .val a,.val b=>eqT a b
 | .val (.lst a),.bor b=>au8 a b
 | .bor a,.val (.lst b)=>au8 a b
 | .bor a,.bor b=>au8 a b
 | _,_=>none
def alF(x:T):List T→Option Bool
 | []=>some false
 | y::r=>match eqT y x,alF x r with
  | some k,some k'=>some (k||k')
  | _,_=>none
def ade(c:Cm)(x y:R):Option Bool:=match c with
 | .lt=>do let i ←x.int?;let j ←y.int?;some (decide (i<j))
 | .le=>do let i ←x.int?;let j ←y.int?;some (decide (i≤j))
 | .gt=>do let i ←x.int?;let j ←y.int?;some (decide (j<i))
 | .ge=>do let i ←x.int?;let j ←y.int?;some (decide (j≤i))
 | .eq=>eqR x y
 | .ne=>(eqR x y).map (!·)
 | .isN=>match y with
  | .val .non=>some x.isNon
  | _=>none
 | .notN=>match y with
  | .val .non=>some (!x.isNon)
  | _=>none
 | .mem=>do let t ←x.val?;let ts ←y.sq2;alF t ts
 | .nmem=>do let t ←x.val?;let ts ←y.sq2;(alF t ts).map (!·)
def aaQ(x:R)(i:Int):Option T:=match x.sq2 with
 | some ts=>L2.atI ts i
 | none=>none
def am6(ts:List T)(lo hi:Option Int):List T:=(ts.drop (HT.sIx ts.length 0 lo)).take (HT.sIx ts.length ts.length hi-HT.sIx ts.length 0 lo)
def aeL(x:R)(lo hi:Option Int):Option R:=match x with
 | .val (.tup ts)=>if HT.sIx ts.length 0 lo=0∧HT.sIx ts.length ts.length hi=ts.length then none else some (.val (.tup (am6 ts lo hi)))
 | .val (.lst ts)=>some (.val (.lst (am6 ts lo hi)))
 | .bor ts=>some (.val (.lst (am6 ts lo hi)))
 | _=>none
def ay5(i j:Nat):T→Option (Int×Int)
 | .tup ts=>match ts[i]?,ts[j]? with
  | some (.int x),some (.int y)=>some (x,y)
  | _,_=>none
 | _=>none
def aqy(i j:Nat):List T→Option (List (Int×Int))
 | []=>some []
 | t::r=>match ay5 i j t,aqy i j r with
  | some x,some y=>some (x::y)
  | _,_=>none
def lt2(a b:Int×Int):Bool:=decide (a.1<b.1)||(decide (a.1=b.1)&&decide (a.2<b.2))
def amN:Int×Int→T→List ((Int×Int)×T)→T
 | _,t,[]=>t
 | k,t,(k',t')::r=>if lt2 k' k then amN k' t' r else amN k t r
def asN(s:Sto)(l k:Nat)(p:PySem.Pos)(q:Str):Bool:=match s[l]? with
 | some (.tbl k' p' q')=>decide (k'=k)&&decide (p'=p)&&decide (q'=q)
 | _=>false
def axA(i j:Nat)(ts:List T):Option T:=match aqy i j ts,ts with
 | some (k::ks),t::r=>some (amN k t (ks.zip r))
 | _,_=>none
def auI:List Int→Option Int
 | []=>none
 | a::r=>some (r.foldl (fun m x=>if x<m then x else m) a)
def auU:List Int→Option Int
 | []=>none
 | a::r=>some (r.foldl (fun m x=>if x>m then x else m) a)
def ahq(x:Int):List Int→List Int
 | []=>[x]
 | y::r=>if x<y then x::y::r else y::ahq x r
def aeh(xs:List Int):List Int:=xs.foldl (fun acc x=>ahq x acc) []
def b1R(f:Bi)(x:R):Option R:=match f with
 | .len=>x.sq2.map fun ts=>.val (.int ts.length)
 | .abs=>x.int?.map fun i=>.val (.int (if i<0 then -i else i))
 | .int=>match x with | .val (.int i)=>some (.val (.int i)) | .val (.bl b)=>some (.val (.int (if b then 1 else 0))) | _=>none
 | .list=>x.sq2.map fun ts=>.val (.lst ts)
 | .tuple=>x.sq2.map fun ts=>.val (.tup ts)
 | .any=>do let ts ←x.seq;let bs ←aaG ts;some (.val (.bl (bs.any id)))
 | .all=>do let ts ←x.seq;let bs ←aaG ts;some (.val (.bl (bs.all id)))
 | .min=>do let ts ←x.seq;let is ←aaN ts;(auI is).map fun i=>.val (.int i)
 | .max=>do let ts ←x.seq;let is ←aaN ts;(auU is).map fun i=>.val (.int i)
 | .sorted=>do let ts ←x.seq;let is ←aaN ts;if is.length<64 then some (.val (.lst ((aeh is).map .int)))else none
 | .str=>match x with | .val (.int i)=>if i.natAbs<big then some (.val (.str (PySem.Str.ofString (toString i))))else none | .val (.str y)=>some (.val (.str y)) | _=>none
def asd(sep:Str)(y:R):Option R:=do let ts ←y.seq;let xs ←aln ts;if(xs.map (·.length)).sum+xs.length*sep.length≤lim then some (.val (.str (PySem.Str.join sep xs)))else none
def asc(x:R)(c:Ty):Option Bool:=match x,c with
 | .val (.int _),.int=>some true | .val (.bl _),.int=>some true | .val (.tup _),.int=>some false | .val (.lst _),.int=>some false | .val .non,.int=>some false | .bor _,.int=>some false
 | .val (.int _),.bool=>some false | .val (.bl _),.bool=>some true | .val (.tup _),.bool=>some false | .val (.lst _),.bool=>some false | .val .non,.bool=>some false
 | .val (.tup _),.tuple=>some true | .val (.int _),.tuple=>some false | .val (.bl _),.tuple=>some false | .val (.lst _),.tuple=>some false | .val .non,.tuple=>some false
 | .val (.lst _),.list=>some true | .bor _,.list=>some true | .val (.tup _),.list=>some false | .val (.int _),.list=>some false | .val .non,.list=>some false
 | .val (.str _),.str=>some true | .val (.int _),.str=>some false | .val .non,.str=>some false | .val (.tup _),.str=>some false | .val (.lst _),.str=>some false
 | _,_=>none
def ael(sub:Nat→Nat→Bool)(x:R)(c:Ty):Option Bool:=match x,c with
 | .val (.exc d),.cls k=>some (sub d k)
 | x,c=>asc x c
def enT:Nat→List T→List T
 | _,[]=>[]
 | n,t::ts=>.tup [.int n,t]::enT (n+1) ts
def ziT:List T→List T→List T
 | a::as,b::bs=>.tup [a,b]::ziT as bs
 | _,_=>[]
def ahd(s:Sto)(x:R)(c f:Nat):Option T:=match x with
 | .val (.loc l)=>match s[l]? with
  | some (.ins d fs)=>if d=c then(fs[f]?).join else none
  | _=>none
 | _=>none
def R.locL(s:Sto):R→Option (Nat×List T)
 | .val (.loc l)=>match s[l]? with
  | some (.lst ts)=>some (l,ts)
  | _=>none
 | _=>none
def R.locI(s:Sto)(c:Nat):R→Option (Nat×List (Option T))
 | .val (.loc l)=>match s[l]? with
  | some (.ins d fs)=>if d=c then some (l,fs)else none
  | _=>none
 | _=>none
def look(σ:Fr)(i:Nat):Option R:=match σ[i]? with
 | some (some (.val t))=>some (.val t)
 | some (some (.own ts))=>some (.bor ts)
 | some (some (.bor ts))=>some (.bor ts)
 | some (some (.lck ts))=>some (.bor ts)
 | _=>none
def put(σ:Fr)(i:Nat)(t:T):Fr:=σ.set i (some (.val t))
def puts(σ:Fr):List Nat→List T→Option Fr
 | [],[]=>some σ
 | i::is,t::ts=>puts (put σ i t) is ts
 | _,_=>none
def aal(σ:Fr)(g:Tg)(t:T):Option Fr:=match g with
 | .one i=>some (put σ i t)
 | .many is=>match t with
  | .tup ts=>puts σ is ts
  | .lst ts=>puts σ is ts
  | _=>none
set_option genInjectivity true in
inductive SR where
 | stuck|next (σ:Fr) (s:Sto)|ret (r:R) (s:Sto)|retO (ts:List T) (s:Sto)|exc (c:Nat) (σ:Fr) (s:Sto)
structure Cf where
 cf:Nat→List R→Sto→Res R
 sub:Nat→Nat→Bool
 fr:Nat→Bool
 wl:(Fr→Sto→Res Bool)→(Fr→Sto→SR)→Fr→Sto→SR
def afQ:Option T→List T→List T
 | some x,q=>x::q
 | none,q=>q
@[simp] theorem anN (x:T) (q:List T):afQ (some x) q=x::q:=rfl
@[simp] theorem agY (q:List T):afQ none q=q:=rfl
def aat(f:T→Sto→Res (Option T)):List T→Sto→Res (List T)
 | [],s=>.ok [] s
 | t::ts,s=>(f t s).bind fun r s1=>(aat f ts s1).bind fun q s2=>.ok (afQ r q) s2
def aai(i j:Int):List T:=(List.range (j-i).toNat).map fun(k:Nat)=>T.int (i+k)
def bnd(i:Int):Bool:=decide (-(2^62)≤i)&&decide (i<2^62)
inductive Md where|v|t|i|j
def R.sq3:R→Option (List T)
 | .val (.lst ts)=>some ts
 | .val (.tup ts)=>some ts
 | _=>none
def fin(m:Md)(r:Res R):Res R:=match m with
 | .v=>r
 | .t=>r.bind fun x s=>.of ((tru x).map fun k=>.val (.bl k)) s
 | .i=>r.bind fun x s=>.of (x.sq2.map fun ts=>.val (.lst ts)) s
 | .j=>r.bind fun x s=>.of (x.sq3.map fun ts=>.val (.lst ts)) s
@[simp] theorem ayj (r:Res R):fin .v r=r:=rfl
@[simp] theorem ax5 (r:Res R):fin .t r=r.bind fun x s=>.of ((tru x).map fun k=>.val (.bl k)) s:=rfl
@[simp] theorem axD (r:Res R):fin .j r=r.bind fun x s=>.of (x.sq3.map fun ts=>.val (.lst ts)) s:=rfl
@[simp] theorem ayr (r:Res R):fin .i r=r.bind fun x s=>.of (x.sq2.map fun ts=>.val (.lst ts)) s:=rfl
def onB(x:R)(a b:Res R):Res R:=match x with
 | .val (.bl true)=>a
 | .val (.bl false)=>b
 | _=>.stuck
def onI(x:R)(f:Int→Res R):Res R:=match x with
 | .val (.int i)=>f i
 | _=>.stuck
def onL(x:R)(f:List T→Res R):Res R:=match x with
 | .val (.lst ts)=>f ts
 | _=>.stuck
def onV(x:R)(f:T→Res (List T)):Res (List T):=match x with
 | .val t=>f t
 | _=>.stuck
def one(m:Res R):Res (Option T):=match m with
 | .ok r s=>.of (r.val?.map some) s
 | .exc c s=>.exc c s
 | .stuck=>.stuck
def onO{α β:Type}(o:Option α)(f:α→Res β):Res β:=match o with
 | some a=>f a
 | none=>.stuck
def onN(x:R)(m:Res R):Res R:=match x with
 | .val .non=>m
 | _=>.stuck
open Classical in
def arC{α:Type}(l:Nat)(ts:List T)(m:Res α):Res α:=match m with
 | .ok a s=>if s[l]?=some (.lst ts)then .ok a s else .stuck
 | r=>r
def ajq(m:Md)(r:Res R):Res R:=match m with | .i=>r | .j=>r | _=>.stuck
mutual
def ev(C:Cf):E→Md→Fr→Sto→Res R
 | .var i,m,σ,s=>fin m (.of (look σ i) s)
 | .cst t,m,_,s=>fin m (.ok (.val t) s)
 | .glb _ i,m,_,s=>fin m (.ok (.val (.int i)) s)
 | .bin o a b,m,σ,s=>fin m ((ev C a .v σ s).bind fun x s1=>(ev C b .v σ s1).bind fun y s2=>.of (opR o x y) s2)
 | .neg a,m,σ,s=>fin m ((ev C a .v σ s).bind fun x s1=>.of (x.int?.map fun i=>.val (.int (-i))) s1)
 | .not a,.t,σ,s=>(ev C a .t σ s).bind fun x s1=>onB x (.ok (.val (.bl false)) s1) (.ok (.val (.bl true)) s1)
 | .not a,m,σ,s=>fin m ((ev C a .v σ s).bind fun x s1=>.of ((tru x).map fun k=>.val (.bl (!k))) s1)
 | .cmp c a b,m,σ,s=>fin m ((ev C a .v σ s).bind fun x s1=>(ev C b .v σ s1).bind fun y s2=>.of ((ade c x y).map fun k=>.val (.bl k)) s2)
 | .and a b,.t,σ,s=>(ev C a .t σ s).bind fun x s1=>onB x (ev C b .t σ s1) (.ok (.val (.bl false)) s1)
 | .or a b,.t,σ,s=>(ev C a .t σ s).bind fun x s1=>onB x (.ok (.val (.bl true)) s1) (ev C b .t σ s1)
 | .and a b,m,σ,s=>fin m ((ev C a .v σ s).bind fun x s1=>onB x (ev C b .v σ s1) (.ok (.val (.bl false)) s1))
 | .or a b,m,σ,s=>fin m ((ev C a .v σ s).bind fun x s1=>onB x (.ok (.val (.bl true)) s1) (ev C b .v σ s1))
 | .ife c a b,m,σ,s=>fin m ((ev C c .t σ s).bind fun x s1=>onB x (ev C a .v σ s1) (ev C b .v σ s1))
 | .tup es,m,σ,s=>fin m ((evs C es σ s).bind fun ts s1=>.ok (.val (.tup ts)) s1)
 | .lst es,m,σ,s=>fin m ((evs C es σ s).bind fun ts s1=>.ok (.val (.lst ts)) s1)
 | .sub a b,m,σ,s=>fin m ((ev C a .v σ s).bind fun x s1=>(ev C b .v σ s1).bind fun y s2=>onI y fun i=>.of ((aaQ (x.dr s2) i).map .val) s2)
 | .cutL a l,m,σ,s=>fin m ((ev C a .v σ s).bind fun x s1=>(ev C l .v σ s1).bind fun y s2=>onI y fun i=>.of (aeL (x.dr s2) (some i) none) s2)
 | .cutU a h,m,σ,s=>fin m ((ev C a .v σ s).bind fun x s1=>(ev C h .v σ s1).bind fun y s2=>onI y fun i=>.of (aeL (x.dr s2) none (some i)) s2)
 | .cutLU a l h,m,σ,s=>fin m ((ev C a .v σ s).bind fun x s1=>(ev C l .v σ s1).bind fun y s2=>onI y fun i=>(ev C h .v σ s2).bind fun z s3=>onI z fun j=>.of (aeL (x.dr s3) (some i) (some j)) s3)
 | .rev a,m,σ,s=>fin m ((ev C a .v σ s).bind fun x s1=>.of (x.seq.map fun ts=>.val (.lst ts.reverse)) s1)
 | .b1 f a,m,σ,s=>fin m ((ev C a .v σ s).bind fun x s1=>.of (b1R f (x.dr s1)) s1)
 | .mn2 a b,m,σ,s=>fin m ((ev C a .v σ s).bind fun x s1=>(ev C b .v σ s1).bind fun y s2=>.of (do let i ←x.int?;let j ←y.int?;some (.val (.int (if j<i then j else i)))) s2)
 | .mx2 a b,m,σ,s=>fin m ((ev C a .v σ s).bind fun x s1=>(ev C b .v σ s1).bind fun y s2=>.of (do let i ←x.int?;let j ←y.int?;some (.val (.int (if j>i then j else i)))) s2)
 | .mxd a d,m,σ,s=>fin m ((ev C a .v σ s).bind fun x s1=>(ev C d .v σ s1).bind fun y s2=>.of (do let ts ←x.seq;let is ←aaN ts;let d ←y.int?;some (.val (.int ((auU is).getD d)))) s2)
 | .mnd a d,m,σ,s=>fin m ((ev C a .v σ s).bind fun x s1=>(ev C d .v σ s1).bind fun y s2=>.of (do let ts ←x.seq;let is ←aaN ts;let d ←y.int?;some (.val (.int ((auI is).getD d)))) s2)
 | .mnk a i j l k p q,m,σ,s=>fin m ((ev C a .v σ s).bind fun x s1=>.of (if asN s1 l k p q then x.seq.bind fun ts=>(axA i j ts).map .val else none) s1)
 | .sok _ _ _,_,_,_=>.stuck
 | .isi a c,m,σ,s=>fin m ((ev C a .v σ s).bind fun x s1=>.of ((ael C.sub (x.dr s1) c).map fun k=>.val (.bl k)) s1)
 | .call f es ds,m,σ,s=>fin m ((evr C es σ s).bind fun rs s1=>C.cf f (rs++ds.map .val) s1)
 | .comp e g it,m,σ,s=>fin m ((ev C it .i σ s).bind fun x s1=>onL x fun ts=>(aat (fun t s=>onO (aal σ g t) fun σ'=>one (ev C e .v σ' s)) ts s1).bind fun q s2=>.ok (.val (.lst q)) s2)
 | .compIf e g it c,m,σ,s=>fin m ((ev C it .i σ s).bind fun x s1=>onL x fun ts=>(aat (fun t s=>onO (aal σ g t) fun σ'=>
   match ev C c .t σ' s with
   | .ok (.val (.bl true)) s2=>one (ev C e .v σ' s2)
   | .ok (.val (.bl false)) s2=>.ok none s2
   | .exc c s2=>.exc c s2
   | _=>.stuck) ts s1).bind fun q s2=>.ok (.val (.lst q)) s2)
 | .rng1 a,m,σ,s=>ajq m ((ev C a .v σ s).bind fun x s1=>onI x fun j=>if bnd j&&decide (j≤lim)then .ok (.val (.lst (aai 0 j))) s1 else .stuck)
 | .rng2 a b,m,σ,s=>ajq m ((ev C a .v σ s).bind fun x s1=>onI x fun i=>(ev C b .v σ s1).bind fun y s2=>onI y fun j=>if bnd i&&bnd j&&decide (j-i≤lim)then .ok (.val (.lst (aai i j))) s2 else .stuck)
 | .enm a,m,σ,s=>ajq m ((ev C a .v σ s).bind fun x s1=>onL x fun ts=>.ok (.val (.lst (enT 0 ts))) s1)
 | .zip a b,m,σ,s=>ajq m ((ev C a .v σ s).bind fun x s1=>(ev C b .v σ s1).bind fun y s2=>onL x fun ts=>onL y fun us=>.ok (.val (.lst (ziT ts us))) s2)
 | .fld a c f,m,σ,s=>fin m ((ev C a .v σ s).bind fun x s1=>.of ((ahd s1 x c f).map .val) s1)
 | .cell a,m,σ,s=>fin m ((ev C a .v σ s).bind fun x s1=>onL x fun ts=>.ok (.val (.loc s1.length)) (s1++[.lst ts]))
 | .new c f n es ds,m,σ,s=>fin m ((evr C es σ s).bind fun rs s1=>(C.cf f (.val (.loc s1.length)::rs++ds.map .val) (s1++[.ins c (List.replicate n none)])).bind fun r s2=>onN r (.ok (.val (.loc s1.length)) s2))
 | .meth a c f es ds,m,σ,s=>fin m ((ev C a .v σ s).bind fun x s1=>onO (x.locI s1 c) fun _=>(evr C es σ s1).bind fun rs s2=>C.cf f (x::rs++ds.map .val) s2)
 | .compC e g it,m,σ,s=>fin m ((ev C it .v σ s).bind fun x s1=>onO (x.locL s1) fun p=>(aat (fun t s=>onO (aal σ g t) fun σ'=>arC p.1 p.2 (one (ev C e .v σ' s))) p.2 s1).bind fun q s2=>.ok (.val (.lst q)) s2)
 | .cmpD c a b,m,σ,s=>fin m ((ev C a .v σ s).bind fun x s1=>(ev C b .v σ s1).bind fun y s2=>.of ((ade c (x.dr s2) (y.dr s2)).map fun k=>.val (.bl k)) s2)
 | .join x b,m,σ,s=>fin m ((ev C b .v σ s).bind fun y s1=>.of (asd x (y.dr s1)) s1)
def evs(C:Cf):List E→Fr→Sto→Res (List T)
 | [],_,s=>.ok [] s
 | e::es,σ,s=>(ev C e .v σ s).bind fun x s1=>onV x fun t=>(evs C es σ s1).bind fun ts s2=>.ok (t::ts) s2
def evr(C:Cf):List E→Fr→Sto→Res (List R)
 | [],_,s=>.ok [] s
 | e::es,σ,s=>(ev C e .v σ s).bind fun x s1=>(evr C es σ s1).bind fun xs s2=>.ok (x::xs) s2
end
def frz(σ:Fr)(i:Nat):Fr:=match σ[i]? with
 | some (some (.own ts))=>σ.set i (some (.val (.lst ts)))
 | _=>σ
def aas(σ:Fr)(i:Nat)(ts:List T):Fr:=σ.set i (some (.own ts))
def abE(σ:Fr)(i:Nat):Option (List T):=match σ[i]? with
 | some (some (.own ts))=>some ts
 | _=>none
def R.sto(r:R):Option T:=r.val?
def Res.st(m:Res R)(σ:Fr)(k:R→Sto→SR):SR:=match m with
 | .stuck=>.stuck
 | .ok a s=>k a s
 | .exc c s=>.exc c σ s
@[simp] theorem Res.st_ok (a:R) (s:Sto) (σ:Fr) (k:R→Sto→SR):(Res.ok a s).st σ k=k a s:=rfl
@[simp] theorem Res.st_exc (c:Nat) (s:Sto) (σ:Fr) (k:R→Sto→SR):(Res.exc c s).st σ k=.exc c σ s:=rfl
def SR.bind(m:SR)(k:Fr→Sto→SR):SR:=match m with
 | .next σ s=>k σ s
 | r=>r
@[simp] theorem SR.bind_next (σ:Fr) (s:Sto) (k:Fr→Sto→SR):(SR.next σ s).bind k=k σ s:=rfl
@[simp] theorem SR.bind_ret (r:R) (s:Sto) (k:Fr→Sto→SR):(SR.ret r s).bind k=.ret r s:=rfl
@[simp] theorem SR.bind_retO (ts:List T) (s:Sto) (k:Fr→Sto→SR):(SR.retO ts s).bind k=.retO ts s:=rfl
@[simp] theorem SR.bind_exc (c:Nat) (σ:Fr) (s:Sto) (k:Fr→Sto→SR):(SR.exc c σ s).bind k=.exc c σ s:=rfl
@[simp] theorem SR.bind_stuck (k:Fr→Sto→SR):SR.stuck.bind k=.stuck:=rfl
def onS{α:Type}(o:Option α)(f:α→SR):SR:=match o with
 | some a=>f a
 | none=>.stuck
@[simp] theorem ary {α:Type} (a:α) (f:α→SR):onS (some a) f=f a:=rfl
@[simp] theorem arp {α:Type} (f:α→SR):onS none f=.stuck:=rfl
def ara(x:R)(a b:SR):SR:=match x with
 | .val (.bl true)=>a
 | .val (.bl false)=>b
 | _=>.stuck
def R.lst?:R→Option (List T)
 | .val (.lst ts)=>some ts
 | _=>none
def abH(g:Tg)(body:Fr→Sto→SR):List T→Fr→Sto→SR
 | [],σ,s=>.next σ s
 | t::ts,σ,s=>onS (aal σ g t) fun σ'=>(body σ' s).bind fun σ2 s2=>abH g body ts σ2 s2
open Classical in
def forC(g:Tg)(body:Fr→Sto→SR)(l:Nat)(all:List T):List T→Fr→Sto→SR
 | [],σ,s=>if s[l]?=some (.lst all)then .next σ s else .stuck
 | t::ts,σ,s=>if s[l]?=some (.lst all)then onS (aal σ g t) fun σ'=>(body σ' s).bind fun σ2 s2=>forC g body l all ts σ2 s2 else .stuck
def SR.nox(r:SR):SR:=match r with
 | .exc _ _ _=>.stuck
 | r=>r
def lock(σ:Fr)(i:Nat):Fr:=match σ[i]? with
 | some (some (.own ts))=>σ.set i (some (.lck ts))
 | _=>σ
def unlock(σ:Fr)(i:Nat):Fr:=match σ[i]? with
 | some (some (.lck ts))=>σ.set i (some (.own ts))
 | _=>σ
def SR.unlock(r:SR)(i:Nat):SR:=match r with
 | .next σ s=>.next (IP.unlock σ i) s
 | .exc c σ s=>.exc c (IP.unlock σ i) s
 | r=>r
def ake(σ:Fr)(i:Nat):Bool:=match σ[i]? with
 | some (some (.own _))=>true
 | _=>false
def aba(C:Cf):E→Bool
 | .lst _=>true | .comp _ _ _=>true | .compIf _ _ _ _=>true | .b1 .list _=>true | .rev _=>true | .bin .add _ _=>true | .call f _ _=>C.fr f | _=>false
mutual
def ex(C:Cf):S→Fr→Sto→SR
 | .asg i e,σ,s=>(ev C e .v σ s).st σ fun x s1=>onS x.val? fun t=>.next (put σ i t) s1
 | .asgT is e,σ,s=>(ev C e .v σ s).st σ fun x s1=>onS x.tup? fun ts=>onS (puts σ is ts) fun σ'=>.next σ' s1
 | .mk i e,σ,s=>if aba C e then(ev C e .v σ s).st σ fun x s1=>onS x.lst? fun ts=>.next (aas σ i ts) s1 else .stuck
 | .app i e,σ,s=>onS (abE σ i) fun ts=>(ev C e .v σ s).st σ fun x s1=>onS x.val? fun t=>if ts.length<lim then .next (aas σ i (ts++[t])) s1 else .stuck
 | .ext i e,σ,s=>onS (abE σ i) fun ts=>(ev C e .v σ s).st σ fun x s1=>onS x.lst? fun us=>if ts.length+us.length≤lim then .next (aas σ i (ts++us)) s1 else .stuck
 | .put i j e,σ,s=>onS (abE σ i) fun ts=>(ev C e .v σ s).st σ fun x s1=>onS x.val? fun t=>(ev C j .v σ s1).st σ fun y s2=>onS y.int? fun k=>onS (L2.ixN ts.length k) fun n=>.next (aas σ i (ts.set n t)) s2
 | .pop k i,σ,s=>onS (abE σ i) fun ts=>onS ts.getLast? fun t=>.next (put (aas σ i ts.dropLast) k t) s
 | .frz i,σ,s=>.next (frz σ i) s
 | .ifs c a b,σ,s=>(ev C c .t σ s).st σ fun x s1=>ara x (exs C a σ s1) (exs C b σ s1)
 | .whl c b,σ,s=>C.wl (fun σ s=>(ev C c .t σ s).bind fun x s1=>.of (match x with | .val (.bl k)=>some k | _=>none) s1) (fun σ s=>exs C b σ s) σ s
 | .for_ g it b,σ,s=>match it with
  | .var i=>(ev C (.var i) .i σ s).st σ fun x s1=>onS x.lst? fun ts=>if ake σ i then(abH g (fun σ s=>exs C b σ s) ts (lock σ i) s1).unlock i else abH g (fun σ s=>exs C b σ s) ts σ s1
  | it=>(ev C it .j σ s).st σ fun x s1=>onS x.lst? fun ts=>abH g (fun σ s=>exs C b σ s) ts σ s1
 | .ret e,σ,s=>(ev C e .v σ s).st σ fun x s1=>.ret x s1
 | .retO e,σ,s=>if aba C e then(ev C e .v σ s).st σ fun x s1=>onS x.lst? fun ts=>.retO ts s1 else .stuck
 | .retV i,σ,s=>onS (abE σ i) fun ts=>.retO ts s
 | .exp e,σ,s=>(ev C e .v σ s).st σ fun _ s1=>.next σ s1
 | .raise c,σ,s=>.exc c σ s
 | .try_ b c nm h,σ,s=>match exs C b σ s with
  | .exc d σ1 s1=>if C.sub d c then(match nm with
    | none=>(exs C h σ1 s1).nox
    | some i=>(exs C h (put σ1 i (.exc d)) s1).nox.bind fun σ2 s2=>.next (σ2.set i none) s2)else .exc d σ1 s1
  | r=>r
 | .putL a j e,σ,s=>(ev C e .v σ s).st σ fun x s1=>onS x.val? fun t=>(ev C a .v σ s1).st σ fun y s2=>(ev C j .v σ s2).st σ fun z s3=>onS (y.locL s3) fun p=>onS z.int? fun k=>onS (L2.ixN p.2.length k) fun n=>.next σ (s3.set p.1 (.lst (p.2.set n t)))
 | .appL a e,σ,s=>(ev C a .v σ s).st σ fun y s1=>onS (y.locL s1) fun _=>(ev C e .v σ s1).st σ fun x s2=>onS x.val? fun t=>onS (y.locL s2) fun p=>if p.2.length<lim then .next σ (s2.set p.1 (.lst (p.2++[t])))else .stuck
 | .setF a c f e,σ,s=>(ev C e .v σ s).st σ fun x s1=>onS x.val? fun t=>(ev C a .v σ s1).st σ fun y s2=>onS (y.locI s2 c) fun p=>if f<p.2.length then .next σ (s2.set p.1 (.ins c (p.2.set f (some t))))else .stuck
 | .popL a,σ,s=>(ev C a .v σ s).st σ fun y s1=>onS (y.locL s1) fun p=>if p.2.isEmpty then .stuck else .next σ (s1.set p.1 (.lst p.2.dropLast))
 | .clrL a,σ,s=>(ev C a .v σ s).st σ fun y s1=>onS (y.locL s1) fun p=>.next σ (s1.set p.1 (.lst []))
 | .forC g it b,σ,s=>(ev C it .v σ s).st σ fun x s1=>onS (x.locL s1) fun p=>forC g (fun σ s=>exs C b σ s) p.1 p.2 p.2 σ s1
 | .pass,σ,s=>.next σ s
def exs(C:Cf):List S→Fr→Sto→SR
 | [],σ,s=>.next σ s
 | a::r,σ,s=>(ex C a σ s).bind fun σ1 s1=>exs C r σ1 s1
end
structure Fn where
 pars:Nat
 size:Nat
 fr:Bool
 body:List S
def ofR:R→B
 | .val t=>.val t
 | .bor ts=>.bor ts
def aaC(F:Fn)(rs:List R):Fr:=rs.map (fun r=>some (ofR r))++List.replicate (F.size-rs.length) none
def aaL(x fr:Bool):SR→Res R
 | .ret r s=>if fr then .stuck else .ok r s
 | .retO ts s=>if fr then .ok (.val (.lst ts)) s else .stuck
 | .next _ s=>if fr then .stuck else .ok (.val .non) s
 | .exc c _ s=>if x then .exc c s else .stuck
 | .stuck=>.stuck
def aaj(c:Fr→Sto→Res Bool)(b:Fr→Sto→SR):Nat→Fr→Sto→SR
 | 0,_,_=>.stuck
 | n+1,σ,s=>match c σ s with
  | .stuck=>.stuck
  | .exc d s1=>.exc d σ s1
  | .ok false s1=>.next σ s1
  | .ok true s1=>(b σ s1).bind fun σ2 s2=>aaj c b n σ2 s2
open Classical in
def aac(c:Fr→Sto→Res Bool)(b:Fr→Sto→SR)(σ:Fr)(s:Sto):SR:=
 if h:∃n,aaj c b n σ s≠.stuck then aaj c b (choose h) σ s else .stuck
def adR(fs:List Fn)(f:Nat):Bool:=match fs[f]? with
 | some F=>F.fr
 | none=>false
def run(x:Bool)(fs:List Fn)(sub:Nat→Nat→Bool)(wl:(Fr→Sto→Res Bool)→(Fr→Sto→SR)→Fr→Sto→SR):Nat→Nat→List R→Sto→Res R
 | 0,_,_,_=>.stuck
 | k+1,f,rs,s=>match fs[f]? with
  | none=>.stuck
  | some F=>if rs.length=F.pars then aaL x F.fr (exs ⟨run x fs sub wl k,sub,adR fs,wl⟩ F.body (aaC F rs) s)else .stuck
end IP
end
noncomputable section
namespace IP
open PySem L2
structure Gx where
 K:PySem.W.Frag
 cA:Nat→Addr
 iA:Nat→Addr
 nm:Nat→List Str
structure Wo where
 n:Nat
 io:Nat→Addr
 Z:Addr→Prop
def agF(a:Addr)(C:Addr):Heap→Prop:=fun h=>∃o,h.get? a=some o∧o.cls=.ref C
def atZ(c:Addr)(q:Str):Heap→Prop:=fun h=>h.CodeRec (.ref c) q
section
variable(G:Gx)
mutual
def Rep(w:Wo)(H:Hp):T→V→Prop
 | .non,v=>v=.non
 | .bl b,v=>v=.bl b
 | .int i,v=>v=.int i
 | .str x,v=>v=.str x
 | .tup ts,v=>∃a vs,v=.ref a∧H a=some (.tup vs)∧aak w H ts vs
 | .lst ts,v=>∃a vs,v=.ref a∧w.Z a∧Rd H a (.lst vs)∧aak w H ts vs
 | .loc l,v=>l<w.n∧v=.ref (w.io l)
 | .exc c,v=>∃a,v=.ref a∧H a=some (.ext (agF a (G.cA c)))
def aak(w:Wo)(H:Hp):List T→List V→Prop
 | [],vs=>vs=[]
 | t::ts,vs=>∃v r,vs=v::r∧Rep w H t v∧aak w H ts r
end
end
def notLoc(w:Wo)(a:Addr):Prop:=∀l,l<w.n→a≠w.io l
structure Le(w w':Wo)(H H':Hp):Prop where
 n:w.n≤w'.n
 io:∀l,l<w.n→w'.io l=w.io l
 Z:∀a,w.Z a→w'.Z a
 keep:∀a o,H a=some o→notLoc w a→H' a=some o
 newL:∀l,w.n≤l→l<w'.n→H (w'.io l)=none
 newZ:∀a,w'.Z a→w.Z a∨H a=none
 some_:∀a,H a≠none→H' a≠none
theorem Le.refl(w:Wo)(H:Hp):Le w w H H:=⟨Nat.le_refl _,fun _ _=>rfl,fun _ z=>z,fun _ _ e _=>e,fun l a b=>absurd (Nat.lt_of_lt_of_le b a) (Nat.lt_irrefl _),fun _ z=>.inl z,fun _ z=>z⟩
theorem Le.trans{w w1 w2:Wo}{H H1 H2:Hp}(a:Le w w1 H H1)(b:Le w1 w2 H1 H2):Le w w2 H H2 where
 n:=Nat.le_trans a.n b.n
 io:=fun l h=>(b.io l (Nat.lt_of_lt_of_le h a.n)).trans (a.io l h)
 Z:=fun x z=>b.Z x (a.Z x z)
 keep:=fun x o e nl=>b.keep x o (a.keep x o e nl) fun l hl q=>by
  by_cases h:l<w.n
  ·exact nl l h (q.trans (a.io l h))
  ·have:=a.newL l (Nat.le_of_not_lt h) hl
   rw[←q,e]at this
   cases this
 newL:=fun l h1 h2=>by
  by_cases h:l<w1.n
  ·rw[b.io l h]
   exact a.newL l h1 h
  ·have q:=b.newL l (Nat.le_of_not_lt h) h2
   cases e:H (w2.io l)with
   | none=>rfl
   | some o=>exact absurd q (a.some_ _ (by rw[e];intro z;cases z))
 newZ:=fun x z=>by
  rcases b.newZ x z with z|z
  ·exact a.newZ x z
  ·refine .inr ?_
   cases e:H x with
   | none=>rfl
   | some o=>exact absurd z (a.some_ x (by rw[e];intro q;cases q))
 some_:=fun x z=>b.some_ x (a.some_ x z)
section
variable{G:Gx}
def arm(nm:List Str)(kvs:List (Str×V)):Prop:=(kvs.map (·.1)).Nodup∧∀x∈kvs.map (·.1),x∈nm
def abc(G:Gx)(w:Wo)(H:Hp)(a:Addr):Cell→Prop
 | .lst ts=>∃vs,H a=some (.lst vs)∧aak G w H ts vs
 | .ins c fs=>∃dx kvs,H a=some (.ins (G.iA c) dx kvs)∧arm (G.nm c) kvs∧∀(i:Nat) (x:Str) (t:T),(G.nm c)[i]?=some x→fs[i]?=some (some t)→∃v,kvs.lookup x=some v∧Rep G w H t v
 | .tbl k p q=>a=G.iA k∧∃ps:Array Value,H a=some (.tbl ps)∧TriplesOk ps.toList∧∀cv,codeAmong p ps.toList=some cv→∃c,cv=.ref c∧H c=some (.ext (atZ c q))
structure StoOk(G:Gx)(w:Wo)(H:Hp)(s:Sto):Prop where
 len:s.length=w.n
 inj:∀l m,l<w.n→m<w.n→w.io l=w.io m→l=m
 nz:∀l,l<w.n→¬w.Z (w.io l)
 cell:∀l c,s[l]?=some c→abc G w H (w.io l) c
 zt:∀a,w.Z a→∃vs,Rd H a (.lst vs)
theorem StoOk.loc{w:Wo}{H:Hp}{s:Sto}(S:StoOk G w H s){l:Nat}(h:l<w.n):(∃vs,H (w.io l)=some (.lst vs))∨(∃c dx kvs,H (w.io l)=some (.ins c dx kvs))∨∃ps,H (w.io l)=some (.tbl ps):=by
 have hl:l<s.length:=by rw[S.len];exact h
 have q:=S.cell l s[l] (List.getElem?_eq_getElem hl)
 cases e:s[l]with
 | lst ts=>rw[e]at q;obtain⟨vs,q,_⟩:=q;exact .inl ⟨vs,q⟩
 | ins c fs=>rw[e]at q;obtain⟨dx,kvs,q,_⟩:=q;exact .inr (.inl ⟨_,dx,kvs,q⟩)
 | tbl k p q'=>rw[e]at q;obtain⟨_,ps,q,_⟩:=q;exact .inr (.inr ⟨ps,q⟩)
theorem StoOk.notLoc{w:Wo}{H:Hp}{s:Sto}(S:StoOk G w H s){a:Addr}{o:HO}(e:H a=some o)(h1:∀vs,o≠.lst vs)(h2:∀c dx kvs,o≠.ins c dx kvs)(h3:∀ps,o≠.tbl ps:=by intro _ z;cases z):IP.notLoc w a:=fun l hl q=>by
 subst q
 rcases S.loc hl with⟨vs,z⟩|⟨c,dx,kvs,z⟩|⟨ps,z⟩
 ·rw[e]at z;exact h1 vs (Option.some.inj z)
 ·rw[e]at z;exact h2 c dx kvs (Option.some.inj z)
 ·rw[e]at z;exact h3 ps (Option.some.inj z)
theorem StoOk.zLoc{w:Wo}{H:Hp}{s:Sto}(S:StoOk G w H s){a:Addr}(z:w.Z a):IP.notLoc w a:=fun l hl q=>S.nz l hl (q▸z)
theorem StoOk.fresh{w:Wo}{H:Hp}{s:Sto}(S:StoOk G w H s){a:Addr}(h:H a=none):¬w.Z a∧IP.notLoc w a:=by
 refine⟨fun z=>?_,fun l hl q=>?_⟩
 ·obtain⟨vs,r|⟨o,r⟩⟩:=S.zt a z
  ·rw[h]at r;cases r
  ·rw[h]at r;cases r
 ·subst q
  rcases S.loc hl with⟨vs,z⟩|⟨c,dx,kvs,z⟩|⟨ps,z⟩<;>(rw[h]at z;cases z)
theorem Rd.keep{w w':Wo}{H H':Hp}{a:Addr}{u:HO}(L:Le w w' H H')(nl:IP.notLoc w a)(r:Rd H a u):Rd H' a u:=by
 rcases r with r|⟨o,r⟩
 ·exact .inl (L.keep _ _ r nl)
 ·exact .inr ⟨o,L.keep _ _ r nl⟩
mutual
theorem Rep.mono{w w':Wo}{H H':Hp}{s:Sto}(L:Le w w' H H')(S:StoOk G w H s):∀(t:T) (v:V),Rep G w H t v→Rep G w' H' t v
 | .non,v,h=>h
 | .bl b,v,h=>h
 | .int i,v,h=>h
 | .str x,v,h=>h
 | .tup ts,v,⟨a,vs,e,h,r⟩=>⟨a,vs,e,L.keep _ _ h (S.notLoc h (fun _ z=>by cases z) fun _ _ _ z=>by cases z),aak.mono L S ts vs r⟩
 | .lst ts,v,⟨a,vs,e,z,h,r⟩=>⟨a,vs,e,L.Z _ z,Rd.keep L (S.zLoc z) h,aak.mono L S ts vs r⟩
 | .loc l,v,⟨h,e⟩=>⟨Nat.lt_of_lt_of_le h L.n,by rw[L.io l h];exact e⟩
 | .exc c,v,⟨a,e,h⟩=>⟨a,e,L.keep _ _ h (S.notLoc h (fun _ z=>by cases z) fun _ _ _ z=>by cases z)⟩
theorem aak.mono{w w':Wo}{H H':Hp}{s:Sto}(L:Le w w' H H')(S:StoOk G w H s):∀(ts:List T) (vs:List V),aak G w H ts vs→aak G w' H' ts vs
 | [],vs,h=>h
 | t::ts,vs,⟨v,r,e,h,q⟩=>⟨v,r,e,Rep.mono L S t v h,aak.mono L S ts r q⟩
end
theorem aak.length{w:Wo}{H:Hp}:∀{ts:List T}{vs:List V},aak G w H ts vs→ts.length=vs.length
 | [],_,h=>by rw[h];rfl
 | t::ts,_,⟨v,r,e,_,q⟩=>by subst e;simp[aak.length q]
theorem aak.get{w:Wo}{H:Hp}:∀{ts:List T}{vs:List V}{i:Nat}{t:T},aak G w H ts vs→ts[i]?=some t→∃v,vs[i]?=some v∧Rep G w H t v
 | [],_,i,t,h,e=>by simp at e
 | t::ts,_,0,u,⟨v,r,e,h,q⟩,z=>by subst e;simp at z;subst z;exact⟨v,rfl,h⟩
 | t::ts,_,i+1,u,⟨v,r,e,h,q⟩,z=>by
  subst e
  obtain⟨x,h1,h2⟩:=aak.get q (i:=i) (t:=u) (by simpa using z)
  exact⟨x,by simpa using h1,h2⟩
theorem aak.get'{w:Wo}{H:Hp}{ts:List T}{vs:List V}{i:Nat}{v:V}(h:aak G w H ts vs)(e:vs[i]?=some v):∃t,ts[i]?=some t∧Rep G w H t v:=by
 have hi:i<ts.length:=by
  rw[h.length]
  exact(List.getElem?_eq_some_iff.mp e).1
 obtain⟨u,h1,h2⟩:=h.get (List.getElem?_eq_getElem hi)
 rw[e]at h1
 cases h1
 exact⟨_,List.getElem?_eq_getElem hi,h2⟩
theorem aak.append{w:Wo}{H:Hp}:∀{ts us:List T}{vs ws:List V},aak G w H ts vs→aak G w H us ws→aak G w H (ts++us) (vs++ws)
 | [],us,_,ws,h,q=>by rw[h];exact q
 | t::ts,us,_,ws,⟨v,r,e,h,k⟩,q=>by subst e;exact⟨v,r++ws,rfl,h,aak.append k q⟩
theorem aak.set{w:Wo}{H:Hp}{t:T}{v:V}(rv:Rep G w H t v):∀{ts:List T}{vs:List V} (i:Nat),aak G w H ts vs→aak G w H (ts.set i t) (vs.set i v)
 | [],_,i,h=>by rw[h];exact rfl
 | x::ts,_,0,⟨y,r,e,h,k⟩=>by subst e;exact⟨v,r,rfl,rv,k⟩
 | x::ts,_,i+1,⟨y,r,e,h,k⟩=>by subst e;exact⟨y,r.set i v,rfl,h,aak.set rv i k⟩
theorem aak.drop{w:Wo}{H:Hp}:∀{ts:List T}{vs:List V} (i:Nat),aak G w H ts vs→aak G w H (ts.drop i) (vs.drop i)
 | ts,vs,0,h=>h
 | [],_,i+1,h=>by rw[h];exact rfl
 | x::ts,_,i+1,⟨y,r,e,h,k⟩=>by subst e;exact aak.drop i k
theorem aak.take{w:Wo}{H:Hp}:∀{ts:List T}{vs:List V} (i:Nat),aak G w H ts vs→aak G w H (ts.take i) (vs.take i)
 | ts,vs,0,h=>by simp;exact rfl
 | [],_,i+1,h=>by rw[h];exact rfl
 | x::ts,_,i+1,⟨y,r,e,h,k⟩=>by subst e;exact⟨y,r.take i,rfl,h,aak.take i k⟩
theorem aak.reverse{w:Wo}{H:Hp}:∀{ts:List T}{vs:List V},aak G w H ts vs→aak G w H ts.reverse vs.reverse
 | [],_,h=>by rw[h];exact rfl
 | x::ts,_,⟨y,r,e,h,k⟩=>by
  subst e
  rw[List.reverse_cons,List.reverse_cons]
  exact aak.append (aak.reverse k) ⟨y,[],rfl,h,rfl⟩
theorem aak.cut{w:Wo}{H:Hp}{ts:List T}{vs:List V}(h:aak G w H ts vs)(lo hi:Option Int):aak G w H (am6 ts lo hi) (alw vs lo hi):=by
 unfold am6 alw
 rw[←h.length]
 exact(h.drop _).take _
def aaM(G:Gx)(w:Wo)(H:Hp):R→V→Prop
 | .val t,v=>Rep G w H t v
 | .bor ts,v=>∃a vs,v=.ref a∧H a=some (.lst vs)∧aak G w H ts vs∧notLoc w a
def adc(G:Gx)(w:Wo)(H:Hp):R→V→Prop
 | .val t,v=>Rep G w H t v
 | .bor ts,v=>∃a vs,v=.ref a∧H a=some (.lst vs)∧aak G w H ts vs
theorem aaM.d{w:Wo}{H:Hp}:∀{r:R}{v:V},aaM G w H r v→adc G w H r v
 | .val t,v,h=>h
 | .bor ts,v,⟨a,vs,e,h,r,_⟩=>⟨a,vs,e,h,r⟩
theorem aaM.dr{w:Wo}{H:Hp}{s:Sto}(S:StoOk G w H s){r:R}{v:V}(h:aaM G w H r v):adc G w H (r.dr s) v:=by
 unfold R.dr
 split
 ·rename_i l
  obtain⟨hl,e⟩:=h
  split
  ·rename_i ts q
   obtain⟨vs,h1,h2⟩:=S.cell l _ q
   exact⟨w.io l,vs,e,h1,h2⟩
  ·exact⟨hl,e⟩
 ·exact h.d
theorem aaM.mono{w w':Wo}{H H':Hp}{s:Sto}(L:Le w w' H H')(S:StoOk G w H s):∀{r:R}{v:V},aaM G w H r v→aaM G w' H' r v
 | .val t,v,h=>Rep.mono L S t v h
 | .bor ts,v,⟨a,vs,e,h,r,nl⟩=>⟨a,vs,e,L.keep _ _ h nl,aak.mono L S ts vs r,fun l hl q=>by
   by_cases k:l<w.n
   ·exact nl l k (q.trans (L.io l k))
   ·have:=L.newL l (Nat.le_of_not_lt k) hl
    rw[←q,h]at this
    cases this⟩
def aaP(G:Gx)(w:Wo)(H:Hp):List R→List V→Prop
 | [],vs=>vs=[]
 | t::ts,vs=>∃v r,vs=v::r∧aaM G w H t v∧aaP G w H ts r
theorem aaP.mono{w w':Wo}{H H':Hp}{s:Sto}(L:Le w w' H H')(S:StoOk G w H s):∀{ts:List R}{vs:List V},aaP G w H ts vs→aaP G w' H' ts vs
 | [],vs,h=>h
 | t::ts,vs,⟨v,r,e,h,q⟩=>⟨v,r,e,aaM.mono L S h,aaP.mono L S q⟩
theorem aaP.length{w:Wo}{H:Hp}:∀{ts:List R}{vs:List V},aaP G w H ts vs→ts.length=vs.length
 | [],_,h=>by rw[h];rfl
 | t::ts,_,⟨v,r,e,_,q⟩=>by subst e;simp[aaP.length q]
def ai8:B→Option (List T)
 | .own ts=>some ts
 | .lck ts=>some ts
 | _=>none
structure FrOk(G:Gx)(w:Wo)(H H₀:Hp)(σ:Fr)(σV:St):Prop where
 len:σ.length=σV.length
 val:∀(i:Nat) (t:T),σ[i]?=some (some (.val t))→∃v,σV[i]?=some (some v)∧Rep G w H t v
 own:∀(i:Nat) (b:B) (ts:List T),σ[i]?=some (some b)→ai8 b=some ts→∃a vs,σV[i]?=some (some (.ref a))∧H a=some (.lst vs)∧aak G w H ts vs∧H₀ a=none∧¬w.Z a∧notLoc w a
 apart:∀(i j:Nat) (b c:B) (ts us:List T) (a:Addr),i≠j→σ[i]?=some (some b)→ai8 b=some ts→σ[j]?=some (some c)→ai8 c=some us→σV[i]?=some (some (.ref a))→σV[j]?=some (some (.ref a))→False
 bor:∀(i:Nat) (ts:List T),σ[i]?=some (some (.bor ts))→∃a vs,σV[i]?=some (some (.ref a))∧H a=some (.lst vs)∧aak G w H ts vs∧H₀ a≠none∧notLoc w a
theorem notLoc.mono{w w':Wo}{H H':Hp}(L:Le w w' H H'){a:Addr}(h:H a≠none)(nl:notLoc w a):notLoc w' a:=fun l hl q=>by
 by_cases k:l<w.n
 ·exact nl l k (q.trans (L.io l k))
 ·have:=L.newL l (Nat.le_of_not_lt k) hl
  rw[←q]at this
  exact h this
theorem FrOk.mono{w w':Wo}{H H' H₀:Hp}{s:Sto}{σ:Fr}{σV:St}(L:Le w w' H H')(S:StoOk G w H s)(F:FrOk G w H H₀ σ σV):FrOk G w' H' H₀ σ σV where
 len:=F.len
 val:=fun i t e=>let ⟨v,h1,h2⟩:=F.val i t e;⟨v,h1,Rep.mono L S t v h2⟩
 own:=fun i b ts e eb=>by
  obtain⟨a,vs,h1,h2,h3,h4,h5,h6⟩:=F.own i b ts e eb
  have hn:H a≠none:=by rw[h2];intro z;cases z
  refine⟨a,vs,h1,L.keep _ _ h2 h6,aak.mono L S ts vs h3,h4,fun z=>?_,notLoc.mono L hn h6⟩
  rcases L.newZ a z with z|z
  ·exact h5 z
  ·exact hn z
 apart:=F.apart
 bor:=fun i ts e=>by
  obtain⟨a,vs,h1,h2,h3,h4,h6⟩:=F.bor i ts e
  have hn:H a≠none:=by rw[h2];intro z;cases z
  exact⟨a,vs,h1,L.keep _ _ h2 h6,aak.mono L S ts vs h3,h4,notLoc.mono L hn h6⟩
structure Good(G:Gx)(w₀:Wo)(H₀:Hp)(w:Wo)(H:Hp)(σ:Fr)(s:Sto)(σV:St):Prop where
 sto:StoOk G w H s
 fr:FrOk G w H H₀ σ σV
 ent:Le w₀ w H₀ H
theorem Good.step{w₀ w w':Wo}{H₀ H H':Hp}{σ:Fr}{s s':Sto}{σV:St}(g:Good G w₀ H₀ w H σ s σV)(L:Le w w' H H')(S:StoOk G w' H' s'):Good G w₀ H₀ w' H' σ s' σV:=⟨S,g.fr.mono L g.sto,g.ent.trans L⟩
end
end IP
end
noncomputable section
namespace IP
open PySem PySem.Spec L2
structure Flt(stack:List Env)(h B:Heap)(e:Addr)(sh:Heap):Prop where
 cov:∀b o,B.get? b=some o↔h.get? b=some o∧b∉frs stack
 keep:∀b o,h.get? b=some o→b∉frs stack→sh.get? b=some o
 slot:∀b o,h.get? b=some o→b∈frs stack→∃sl,sh.get? b=some { o with slots:=sl }
 new:h.get? e=none
def aqb(base:Heap)(l:List Env)(e:Addr)(cls a0 fl:Value)(h:Heap):Prop:=base.StaysIn h∧base.get? e=none∧h.FunFrames base l∧h.TracedAtW base e cls a0 fl
def aaO(G:Gx)(X:Cx)(pins:List (Addr×Obj))(σV:St)(H:Hp)(c:Nat)(u:Value)(sh:Shared):Prop:=
 ∃(e:Addr) (h B:Heap),u=.ref e∧Inv X pins σV H { sh with heap:=h }∧Flt X.stack h B e sh.heap∧X.base.StaysIn B∧
  ((∃args,Heap.MadeExcOf h sh.heap e (.ref (G.cA c)) args)∨(∃t,Heap.FlyingW B X.stack e (.ref (G.cA c)) t sh.heap)∨
   ∃t fl,aqb B X.stack e (.ref (G.cA c)) t fl sh.heap)
def aa0(G:Gx)(X:Cx)(σV:St)(w:Wo)(H:Hp)(res:Res R)(Q:VK):Prop:=match res with
 | .stuck=>False
 | .ok r s'=>∀w' H' v,Le w w' H H'→StoOk G w' H' s'→aaM G w' H' r v→Q v H'
 | .exc c s'=>∀w' H' pins u sh,Le w w' H H'→StoOk G w' H' s'→aaO G X pins σV H' c u sh→X.xe u sh
section
variable{G:Gx}{X:Cx}{σV:St}{w w₀:Wo}{H H₀:Hp}{Q Q':VK}
theorem aa0.imp{res:Res R}(h:aa0 G X σV w H res Q)(q:∀v H',Q v H'→Q' v H'):aa0 G X σV w H res Q':=by
 cases res with
 | stuck=>exact h
 | ok r s=>exact fun w' H' v a b c=>q _ _ (h w' H' v a b c)
 | exc c s=>exact h
theorem aa0.mono{res:Res R}{w1:Wo}{H1:Hp}(L:Le w w1 H H1)(h:aa0 G X σV w H res Q):aa0 G X σV w1 H1 res Q:=by
 cases res with
 | stuck=>exact h
 | ok r s=>exact fun w' H' v a b c=>h w' H' v (L.trans a) b c
 | exc c s=>exact fun w' H' pins u sh a b=>h w' H' pins u sh (L.trans a) b
theorem aa0.bind{m:Res R}{k:R→Sto→Res R}(h:aa0 G X σV w H (m.bind k) Q):
  aa0 G X σV w H m fun v H1=>∃w1 r s1,Le w w1 H H1∧StoOk G w1 H1 s1∧aaM G w1 H1 r v∧aa0 G X σV w1 H1 (k r s1) Q:=by
 cases m with
 | stuck=>exact h
 | ok r s=>exact fun w' H' v a b c=>⟨w',r,s,a,b,c,aa0.mono a h⟩
 | exc c s=>exact h
theorem aa0.of{o:Option R}{s:Sto}(h:aa0 G X σV w H (Res.of o s) Q):∃r,o=some r∧∀w' H' v,Le w w' H H'→StoOk G w' H' s→aaM G w' H' r v→Q v H':=by
 cases o with
 | none=>exact h.elim
 | some r=>exact⟨r,rfl,h⟩
theorem PE.imp{e:Expr}{t t':TE}(h:PE X e t)(q:∀σ H Q,t' σ H Q→t σ H Q):PE X e t':=fun pins s σ H Q I z=>h pins s σ H Q I (q _ _ _ z)
theorem PT.imp{e:Expr}{t t':TT}(h:PT X e t)(q:∀σ H Q,t' σ H Q→t σ H Q):PT X e t':=fun pins s σ H Q I z=>h pins s σ H Q I (q _ _ _ z)
theorem PA.imp{e:List Expr}{t t':TA}(h:PA X e t)(q:∀σ H Q,t' σ H Q→t σ H Q):PA X e t':=fun pos pins s σ H Q I z=>h pos pins s σ H Q I (q _ _ _ z)
def tV(G:Gx)(X:Cx)(C:Cf)(e:E):TE:=fun σV H Q=>∃w₀ H₀ w σ s,Good G w₀ H₀ w H σ s σV∧aa0 G X σV w H (ev C e .v σ s) Q
def tT(G:Gx)(X:Cx)(C:Cf)(e:E):TT:=fun σV H Q=>∃w₀ H₀ w σ s,Good G w₀ H₀ w H σ s σV∧aa0 G X σV w H (ev C e .t σ s) fun v H'=>∃k,v=.bl k∧Q k H'
theorem abV{a p:Addr}{o:HO}(e:H a=some o)(hp:H p=none):a≠p:=fun q=>by rw[q,hp]at e;cases e
theorem Le.new{p:Addr}(hp:H p=none)(o:HO):Le w w H (upd H p o)where
 n:=Nat.le_refl _
 io:=fun _ _=>rfl
 Z:=fun _ z=>z
 keep:=fun a u e _=>by rw[aah (abV e hp)];exact e
 newL:=fun l a b=>absurd (Nat.lt_of_lt_of_le b a) (Nat.lt_irrefl _)
 newZ:=fun _ z=>.inl z
 some_:=fun a z=>by
  cases e:H a with
  | none=>exact absurd e z
  | some u=>rw[aah (abV e hp),e];intro q;cases q
def Wo.addZ(w:Wo)(p:Addr):Wo:={ w with Z:=fun a=>w.Z a∨a=p }
theorem Le.newZ_{p:Addr}(hp:H p=none)(o:HO):Le w (w.addZ p) H (upd H p o)where
 n:=Nat.le_refl _
 io:=fun _ _=>rfl
 Z:=fun _ z=>.inl z
 keep:=(Le.new (w:=w) hp o).keep
 newL:=(Le.new (w:=w) hp o).newL
 newZ:=fun a z=>z.elim .inl fun q=>.inr (q▸hp)
 some_:=(Le.new (w:=w) hp o).some_
theorem abc.mono{w':Wo}{H':Hp}{s:Sto}(L:Le w w' H H')(S:StoOk G w H s){a:Addr}(e:H' a=H a):∀{c:Cell},abc G w H a c→abc G w' H' a c
 | .lst ts,⟨vs,h,r⟩=>⟨vs,e.trans h,aak.mono L S ts vs r⟩
 | .ins c fs,⟨dx,kvs,h,z,k⟩=>⟨dx,kvs,e.trans h,z,fun i x t h1 h2=>let ⟨v,q1,q2⟩:=k i x t h1 h2;⟨v,q1,Rep.mono L S t v q2⟩⟩
 | .tbl k p q,⟨ha,ps,h,z,f⟩=>⟨ha,ps,e.trans h,z,fun cv hcv=>let ⟨c,e1,e2⟩:=f cv hcv;⟨c,e1,L.keep _ _ e2 (S.notLoc e2 (fun _ z=>by cases z) fun _ _ _ z=>by cases z)⟩⟩
theorem StoOk.grow{w':Wo}{H':Hp}{s:Sto}(S:StoOk G w H s)(L:Le w w' H H')(hn:w'.n=w.n)(hl:∀l,l<w.n→H' (w.io l)=H (w.io l))(hz:∀a,w'.Z a→∃vs,Rd H' a (.lst vs)):StoOk G w' H' s where
 len:=S.len.trans hn.symm
 inj:=fun l m h1 h2 e=>by
  rw[hn]at h1 h2
  rw[L.io l h1,L.io m h2]at e
  exact S.inj l m h1 h2 e
 nz:=fun l h z=>by
  rw[hn]at h
  rw[L.io l h]at z
  rcases L.newZ _ z with q|q
  ·exact S.nz l h q
  ·rcases S.loc h with⟨vs,y⟩|⟨c,dx,kvs,y⟩|⟨ps,y⟩<;>(rw[q]at y;cases y)
 cell:=fun l c e=>by
  have h:l<w.n:=by rw[←S.len];exact(List.getElem?_eq_some_iff.mp e).1
  rw[L.io l h]
  exact abc.mono L S (hl l h) (S.cell l c e)
 zt:=hz
theorem Rd.upd{a p:Addr}{u o:HO}(hp:H p=none)(r:Rd H a u):Rd (upd H p o) a u:=by
 rcases r with r|⟨q,r⟩
 ·exact .inl (by rw[aah (abV r hp)];exact r)
 ·exact .inr ⟨q,by rw[aah (abV r hp)];exact r⟩
theorem StoOk.new{s:Sto}{p:Addr}(S:StoOk G w H s)(hp:H p=none)(o:HO):StoOk G w (L2.upd H p o) s:=
 S.grow (Le.new hp o) rfl (fun l h=>aah ((S.fresh hp).2 l h).symm) fun a z=>let ⟨vs,r⟩:=S.zt a z;⟨vs,Rd.upd hp r⟩
theorem StoOk.newZ{s:Sto}{p:Addr}(S:StoOk G w H s)(hp:H p=none)(vs:List V):StoOk G (w.addZ p) (L2.upd H p (.lst vs)) s:=
 S.grow (Le.newZ_ hp _) rfl (fun l h=>aah ((S.fresh hp).2 l h).symm) fun a z=>z.elim (fun z=>let ⟨vs,r⟩:=S.zt a z;⟨vs,Rd.upd hp r⟩) fun q=>⟨vs,.inl (by rw[q];exact aaq)⟩
theorem afO{s:Sto}{ts:List T}{vs:List V}(S:StoOk G w H s)(r:aak G w H ts vs)(h:∀w' H' v,Le w w' H H'→StoOk G w' H' s→aaM G w' H' (.val (.tup ts)) v→Q v H')(p:Addr)(hp:H p=none):Q (.ref p) (L2.upd H p (.tup vs)):=
 h w _ _ (Le.new hp _) (S.new hp _) ⟨p,vs,rfl,aaq,aak.mono (Le.new hp _) S ts vs r⟩
theorem ach{s:Sto}{ts:List T}{vs:List V}(S:StoOk G w H s)(r:aak G w H ts vs)(h:∀w' H' v,Le w w' H H'→StoOk G w' H' s→aaM G w' H' (.val (.lst ts)) v→Q v H')(p:Addr)(hp:H p=none):Q (.ref p) (L2.upd H p (.lst vs)):=
 h _ _ _ (Le.newZ_ hp _) (S.newZ hp vs) ⟨p,vs,rfl,.inr rfl,.inl aaq,aak.mono (Le.newZ_ hp _) S ts vs r⟩
def aa7(G:Gx)(X:Cx)(σV:St)(w:Wo)(H:Hp)(res:Res R)(Q:VK):Prop:=match res with
 | .ok (.val (.lst ts)) s'=>∀w' H' a vs,Le w w' H H'→StoOk G w' H' s'→H' a=some (.lst vs)→aak G w' H' ts vs→H a=none→¬w'.Z a→notLoc w' a→Q (.ref a) H'
 | .exc c s'=>∀w' H' pins u sh,Le w w' H H'→StoOk G w' H' s'→aaO G X pins σV H' c u sh→X.xe u sh
 | _=>False
def tO(G:Gx)(X:Cx)(C:Cf)(e:E):TE:=fun σV H Q=>∃w₀ H₀ w σ s,Good G w₀ H₀ w H σ s σV∧aa7 G X σV w H (ev C e .v σ s) Q
theorem aed{s:Sto}{ts:List T}{vs:List V}(S:StoOk G w H s)(r:aak G w H ts vs)(h:∀w' H' a vs,Le w w' H H'→StoOk G w' H' s→H' a=some (.lst vs)→aak G w' H' ts vs→H a=none→¬w'.Z a→notLoc w' a→Q (.ref a) H')(p:Addr)(hp:H p=none):Q (.ref p) (L2.upd H p (.lst vs)):=
 h w _ p vs (Le.new hp _) (S.new hp _) aaq (aak.mono (Le.new hp _) S ts vs r) hp (S.fresh hp).1 (S.fresh hp).2
theorem adc.seq{s:Sto}{x:R}{v:V}{ts:List T}(r:adc G w H x v)(e:x.seq=some ts):∃a vs,v=.ref a∧Rd H a (.lst vs)∧aak G w H ts vs:=by
 match x,e with
 | .val (.lst us),e=>obtain⟨a,vs,e1,_,h,q⟩:=r;cases e;exact⟨a,vs,e1,h,q⟩
 | .bor us,e=>obtain⟨a,vs,e1,h,q⟩:=r;cases e;exact⟨a,vs,e1,.inl h,q⟩
theorem aaM.seq{s:Sto}{x:R}{v:V}{ts:List T}(r:aaM G w H x v)(e:x.seq=some ts):∃a vs,v=.ref a∧Rd H a (.lst vs)∧aak G w H ts vs:=adc.seq (s:=s) r.d e
theorem adc.sq2{x:R}{v:V}{ts:List T}(r:adc G w H x v)(e:x.sq2=some ts):∃a vs,v=.ref a∧(Rd H a (.lst vs)∨H a=some (.tup vs))∧aak G w H ts vs:=by
 match x,e with
 | .val (.lst us),e=>obtain⟨a,vs,e1,_,h,q⟩:=r;cases e;exact⟨a,vs,e1,.inl h,q⟩
 | .val (.tup us),e=>obtain⟨a,vs,e1,h,q⟩:=r;cases e;exact⟨a,vs,e1,.inr h,q⟩
 | .bor us,e=>obtain⟨a,vs,e1,h,q⟩:=r;cases e;exact⟨a,vs,e1,.inl (.inl h),q⟩
theorem aaM.sq2{x:R}{v:V}{ts:List T}(r:aaM G w H x v)(e:x.sq2=some ts):∃a vs,v=.ref a∧(Rd H a (.lst vs)∨H a=some (.tup vs))∧aak G w H ts vs:=adc.sq2 r.d e
theorem aaM.int{x:R}{v:V}{i:Int}(r:aaM G w H x v)(e:x.int?=some i):v=.int i:=by
 match x,e with
 | .val (.int j),e=>cases e;exact r
theorem adc.int{x:R}{v:V}{i:Int}(r:adc G w H x v)(e:x.int?=some i):v=.int i:=by
 match x,e with
 | .val (.int j),e=>cases e;exact r
end
section
variable{G:Gx}{X:Cx}{C:Cf}{a b c:Expr}{a' b' c':E}{pos:Pos}
theorem Rd.lst{pins:List (Addr×Obj)}{σ:St}{H:Hp}{s:Shared}{p:Addr}{xs:List V}(I:Inv X pins σ H s)(h:Rd H p (.lst xs)):
  xs.length≤sizeLine∧∃(its:List Value) (n:Nat),Vals xs its∧xs.length=its.length∧s.heap.get? p=some { cls:=.type "list",data:=.seq its.toArray n }:=by
 obtain⟨z,its,n,r,e⟩:=Rd.ok h I.hok
 exact⟨z,its,n,r,r.length,e⟩
theorem api{i:Nat}{x:Str}(hN:X.N[i]?=some x)(hv:Vis X.env.scope x)(hd:(x==("__debug__":Str))=false)(hcd:(x==("__classdict__":Str))=false):PE X (.Name x pos) (tV G X C (.var i)):=by
 refine PE.imp (alf hN hv hd hcd) ?_
 rintro σV H Q ⟨w₀,H₀,w,σ,s,g,h⟩
 obtain⟨r,e,q⟩:=aa0.of h
 unfold look at e
 split at e
 ·rename_i t ht
  cases e
  obtain⟨v,h1,h2⟩:=g.fr.val i t ht
  exact⟨v,h1,q w H v (Le.refl _ _) g.sto h2⟩
 ·rename_i ts ht
  cases e
  obtain⟨p,vs,h1,h2,h3,_,_,h6⟩:=g.fr.own i _ ts ht rfl
  exact⟨_,h1,q w H _ (Le.refl _ _) g.sto ⟨p,vs,rfl,h2,h3,h6⟩⟩
 ·rename_i ts ht
  cases e
  obtain⟨p,vs,h1,h2,h3,_,h6⟩:=g.fr.bor i ts ht
  exact⟨_,h1,q w H _ (Le.refl _ _) g.sto ⟨p,vs,rfl,h2,h3,h6⟩⟩
 ·rename_i ts ht
  cases e
  obtain⟨p,vs,h1,h2,h3,_,_,h6⟩:=g.fr.own i _ ts ht rfl
  exact⟨_,h1,q w H _ (Le.refl _ _) g.sto ⟨p,vs,rfl,h2,h3,h6⟩⟩
 ·cases e
theorem ajM{t:T}{v:V}(r:∀w H,Rep G w H t v){σV:St}{H:Hp}{Q:VK}(h:tV G X C (.cst t) σV H Q):tC v σV H Q:=by
 obtain⟨w₀,H₀,w,σ,s,g,h⟩:=h
 exact h w H v (Le.refl _ _) g.sto (r w H)
theorem akS{i j}:PE X (.Constant (.int i) j pos) (tV G X C (.cst (.int i))):=PE.imp aoF fun _ _ _ h=>ajM (t:=.int i) (v:=.int i) (fun _ _=>rfl) h
theorem asP{b j}:PE X (.Constant (.bool b) j pos) (tV G X C (.cst (.bl b))):=PE.imp asQ fun _ _ _ h=>ajM (t:=.bl b) (v:=.bl b) (fun _ _=>rfl) h
theorem ap4{j}:PE X (.Constant .none j pos) (tV G X C (.cst .non)):=PE.imp aoT fun _ _ _ h=>ajM (t:=.non) (v:=.non) (fun _ _=>rfl) h
theorem anX{x j}:PE X (.Constant (.str x) j pos) (tV G X C (.cst (.str x))):=PE.imp alJ fun _ _ _ h=>ajM (t:=.str x) (v:=.str x) (fun _ _=>rfl) h
theorem aq0{x:Str}{i:Int}{t:Tok}(hg:Gl X x)(hm:X.mg x=some (.int i t))(hd:(x==("__debug__":Str))=false):PE X (.Name x pos) (tV G X C (.glb x i)):=by
 refine PE.imp (aiP (v:=.int i) hg hm ⟨t,rfl⟩ hd) ?_
 rintro σV H Q ⟨w₀,H₀,w,σ,s,g,h⟩
 exact h w H _ (Le.refl _ _) g.sto rfl
def r2(G:Gx)(f:R→R→Option R):R2:=fun x y H Q=>∃w s rx ry r,StoOk G w H s∧aaM G w H rx x∧aaM G w H ry y∧f rx ry=some r∧∀w' H' v,Le w w' H H'→StoOk G w' H' s→aaM G w' H' r v→Q v H'
theorem ajP{f:R→R→Option R}{σV:St}{H:Hp}{Q:VK}(h:∃w₀ H₀ w σ s,Good G w₀ H₀ w H σ s σV∧aa0 G X σV w H ((ev C a' .v σ s).bind fun x s1=>(ev C b' .v σ s1).bind fun y s2=>.of (f x y) s2) Q):
  tOp (r2 G f) (tV G X C a') (tV G X C b') σV H Q:=by
 obtain⟨w₀,H₀,w,σ,s,g,h⟩:=h
 refine⟨w₀,H₀,w,σ,s,g,(aa0.bind h).imp ?_⟩
 rintro x H1 ⟨w1,r1,s1,L1,S1,R1,h1⟩
 refine⟨w₀,H₀,w1,σ,s1,g.step L1 S1,(aa0.bind h1).imp ?_⟩
 rintro y H2 ⟨w2,r2,s2,L2,S2,R2,h2⟩
 obtain⟨r,e,q⟩:=aa0.of h2
 exact⟨w2,s2,r1,r2,r,S2,R1.mono L2 S1,R2,e,q⟩
theorem s2{f:R→R→Option R}{op:Operator}(ho:OpR X (binaryOp op) (r2 G f))(ha:PE X a (tV G X C a'))(hb:PE X b (tV G X C b')){e:E}(he:∀σ s,ev C e .v σ s=(ev C a' .v σ s).bind fun x s1=>(ev C b' .v σ s1).bind fun y s2=>.of (f x y) s2):
  PE X (.BinOp a op b pos) (tV G X C e):=by
 refine PE.imp (ap7 ho ha hb) fun σV H Q h=>?_
 obtain⟨w₀,H₀,w,σ,s,g,h⟩:=h
 rw[he]at h
 exact ajP ⟨w₀,H₀,w,σ,s,g,h⟩
theorem s2c{f:R→R→Option R}{op:CmpOp}(ho:OpR X (compareOp op) (r2 G f))(ha:PE X a (tV G X C a'))(hb:PE X b (tV G X C b'))(hm:behindInMarks op b=false){e:E}(he:∀σ s,ev C e .v σ s=(ev C a' .v σ s).bind fun x s1=>(ev C b' .v σ s1).bind fun y s2=>.of (f x y) s2):
  PE X (.Compare a [op] [b] pos) (tV G X C e):=by
 refine PE.imp (amy ho ha hb hm) fun σV H Q h=>?_
 obtain⟨w₀,H₀,w,σ,s,g,h⟩:=h
 rw[he]at h
 exact ajP ⟨w₀,H₀,w,σ,s,g,h⟩
theorem ad1{j:Int}(h:j.natAbs<big):j.natAbs.log2<1000:=by
 rcases Nat.eq_zero_or_pos j.natAbs with h0|hp
 ·rw[h0];decide
 ·refine(Nat.log2_lt (Nat.ne_of_gt hp)).mpr (Nat.lt_trans h ?_)
  unfold big
  decide +kernel
theorem afp{k:Int}(h:k.natAbs<big):Builtin.Int.intBits k≤1000:=by
 unfold Builtin.Int.intBits
 split
 ·exact Nat.zero_le _
 ·have:=ad1 h
  omega
theorem anm{i j:Int}(h:ahr i j=true):IntMulOk i j:=by
 unfold ahr at h
 rw[Bool.or_eq_true,Bool.or_eq_true,Bool.and_eq_true,decide_eq_true_iff,decide_eq_true_iff,decide_eq_true_iff,decide_eq_true_iff]at h
 rcases h with(h|h)|⟨h1,h2⟩
 ·exact IntMulOk.of_left (intBits_le_64 (by omega) (by omega))
 ·exact IntMulOk.of_right (intBits_le_64 (by omega) (by omega))
 ·exact PyProof.Rows.mulOk_of_bits (afp h1) (afp h2) (by decide)
def an7:Op→Operator
 | .add=>.Add | .sub=>.Sub | .mul=>.Mult | .fdiv=>.FloorDiv | .mod=>.Mod | .pow=>.Pow
theorem apD(o:Op)(i j k:Int)(h:opI o i j=some k):∀(t u:Tok) (s:Shared) (Q:Value→Shared→Prop) (E:Value→Shared→Prop),Q (.int k s.toks) { s with toks:=s.toks+1 }→wpAny (model X.prog X.w) X.A (binaryOp (an7 o) (.int i t) (.int j u)) Q E s:=by
 intro t u s Q E q
 cases o with
 | add=>cases h;exact PyProof.Rows.add_int q
 | sub=>cases h;exact PyProof.Rows.sub_int q
 | mul=>
  simp only[opI]at h
  split at h
  ·rename_i hm;cases h;exact PyProof.Rows.mul_int q (anm hm)
  ·cases h
 | fdiv=>
  simp only[opI]at h
  split at h
  ·rename_i hm;cases h;exact PyProof.Rows.floordiv_int hm.1 q (Or.inl (PyProof.noPylong_of_log2 (Nat.lt_trans (ad1 hm.2) (by decide))))
  ·cases h
 | mod=>
  simp only[opI]at h
  split at h
  ·rename_i hm;cases h;exact PyProof.Rows.mod_int hm q
  ·cases h
 | pow=>
  simp only[opI]at h
  split at h
  ·rename_i hm
   cases h
   refine PyProof.Rows.pow_int hm.1 ?_ q
   have h1:=afp hm.2.2
   have h2:((Builtin.Int.intBits i:Nat):Int)*j≤1000*100:=by
    refine Int.mul_le_mul (by omega) hm.2.1 hm.1 (by omega)
   omega
  ·cases h
theorem au2(o:Op):OpR X (binaryOp (an7 o)) (r2 G (opR o)):=by
 intro pins s σ H x y v u Q I rx ry h
 obtain⟨w,st,x',y',r,S,Rx,Ry,e,q⟩:=h
 have intc:∀i j k,x'=.val (.int i)→y'=.val (.int j)→opI o i j=some k→r=.val (.int k)→wpAny (model X.prog X.w) X.A (binaryOp (an7 o) v u) (EP X pins σ Q) X.xe s:=by
  rintro i j k rfl rfl ho rfl
  have hx:x=.int i:=Rx
  have hy:y=.int j:=Ry
  subst hx hy
  obtain⟨t,rfl⟩:=rx
  obtain⟨t2,rfl⟩:=ry
  exact apD o i j k ho t t2 s _ _ ⟨.int k,H,I.tok _,⟨_,rfl⟩,q w H _ (Le.refl _ _) S rfl⟩
 have lstc:∀xs ys,x'.seq=some xs→y'.seq=some ys→o=.add→xs.length+ys.length≤lim→r=.val (.lst (xs++ys))→wpAny (model X.prog X.w) X.A (binaryOp (an7 o) v u) (EP X pins σ Q) X.xe s:=by
  rintro xs ys e1 e2 rfl hl rfl
  obtain⟨p,vs,rfl,hp,r1⟩:=aaM.seq (s:=st) Rx e1
  obtain⟨p2,vs2,rfl,hp2,r2⟩:=aaM.seq (s:=st) Ry e2
  cases rx
  cases ry
  obtain⟨z,its,n,q1,l1,g1⟩:=Rd.lst I hp
  obtain⟨z2,its2,n2,q2,l2,g2⟩:=Rd.lst I hp2
  have hz:its.length+its2.length≤sizeLine:=by
   rw[←l1,←l2,←r1.length,←r2.length]
   have:lim≤sizeLine:=by decide
   omega
  refine PySem.P.add_list g1 g2 ?_ (by rw[List.size_toArray,List.size_toArray];exact hz)
  have ea:its.toArray++its2.toArray=(its++its2).toArray:=by simp
  rw[ea]
  exact⟨.ref _,_,I.lnew (t':=s.toks) (q1.append q2) (by rw[List.length_append,l1,l2];exact hz),rfl,ach S (r1.append r2) q _ I.fresh⟩
 unfold opR at e
 split at e
 ·rename_i i j
  cases ho:opI o i j with
  | none=>rw[ho]at e;cases e
  | some k=>rw[ho]at e;cases e;exact intc i j k rfl rfl ho rfl
 ·rename_i xs ys
  split at e
  ·rename_i hc
   cases e
   obtain⟨p,vs,rfl,hp,r1⟩:=Rx
   obtain⟨p2,vs2,rfl,hp2,r2⟩:=Ry
   have n1:vs≠[]:=by
    intro z;subst z
    exact hc.1 (List.length_eq_zero_iff.mp r1.length)
   have n2:vs2≠[]:=by
    intro z;subst z
    exact hc.2.1 (List.length_eq_zero_iff.mp r2.length)
   refine alT pins s σ H _ _ v u Q I rx ry ⟨p,p2,vs,vs2,rfl,rfl,SqT.of hp,SqT.of hp2,n1,?_,fun z=>absurd z n2,fun _=>afO S (r1.append r2) q⟩
   rw[←r1.length,←r2.length]
   have:lim≤sizeLine:=by decide
   omega
  ·cases e
 ·rename_i a b
  split at e
  ·rename_i hl
   cases e
   cases Rx;cases Ry
   obtain⟨t,rfl⟩:=rx
   obtain⟨t2,rfl⟩:=ry
   have hz:a.length+b.length≤sizeLine:=Nat.le_trans hl (by decide)
   exact PyProof.Rows.add_str (fun t' tk=>⟨.str (a++b),H,I.tok _,⟨_,rfl⟩,q w H _ (Le.refl _ _) S rfl⟩) hz
  ·cases e
 ·split at e
  ·rename_i xs ys e1 e2
   split at e
   ·rename_i hl
    cases e
    exact lstc xs ys e1 e2 rfl hl rfl
   ·cases e
  ·cases e
 ·cases e
theorem ao1(o:Op)(ha:PE X a (tV G X C a'))(hb:PE X b (tV G X C b')):PE X (.BinOp a (an7 o) b pos) (tV G X C (.bin o a' b')):=s2 (au2 o) ha hb fun _ _=>rfl
end
end IP
end
noncomputable section
namespace IP
open PySem PySem.Spec L2 PySem.SeqAt
section
variable{G:Gx}{X:Cx}{pins:List (Addr×Obj)}{σ:St}{H:Hp}{s:Shared}{w:Wo}{st:Sto}
theorem aaW{a:Addr}{vs:List V}(I:Inv X pins σ H s)(h:H a=some (.tup vs)):∃its:List Value,Vals vs its∧s.heap.IsTuple a its.toArray:=by
 obtain⟨its,r,q,_⟩:=I.tuple (SqT.of (K:=X.K) h)
 exact⟨its,r,q⟩
theorem aaF{a:Addr}{vs:List V}(I:Inv X pins σ H s)(h:Rd H a (.lst vs)):∃its:List Value,Vals vs its∧s.heap.IsList a its.toArray:=by
 obtain⟨_,its,n,r,_,e⟩:=Rd.lst I h
 exact⟨its,r,_,e,rfl,n,rfl⟩
theorem adC{f:T→T→Option Bool}:∀(ts us:List T) (vs:List V),(∀t u v k,Rep G w H t v→Rep G w H u v→f t u=some k→k=true)→aak G w H ts vs→aak G w H us vs→∀k,eqL f ts us=some k→k=true
 | [],[],_,_,_,_,k,h=>by cases h;rfl
 | [],_::_,_,_,h1,h2,k,h=>by
  obtain⟨v,r,e,_⟩:=h2
  rw[h1]at e
  cases e
 | _::_,[],_,_,h1,h2,k,h=>by
  obtain⟨v,r,e,_⟩:=h1
  rw[h2]at e
  cases e
 | t::ts,u::us,_,hf,⟨v,r,e,h1,h2⟩,⟨v',r',e',h1',h2'⟩,k,h=>by
  subst e
  cases e'
  unfold eqL at h
  split at h
  ·rename_i k1 k2 q1 q2
   cases h
   rw[hf t u v k1 h1 h1' q1,adC ts us r hf h2 h2' k2 q2]
   rfl
  ·cases h
theorem ac8:∀(n:Nat) (t u:T) (v:V) (k:Bool),Rep G w H t v→Rep G w H u v→eqD n t u=some k→k=true
 | n,.non,u,v,k,h1,h2,h=>by
  cases h1
  cases u<;>simp only[Rep]at h2<;>first|(cases h2;done)|(simp[eqD]at h;exact h)|(obtain⟨a,vs,e,_⟩:=h2;cases e)|(obtain⟨e,e2⟩:=h2;cases e2;done)|(obtain⟨e,e2,_⟩:=h2;cases e2)
 | n,.bl b,u,v,k,h1,h2,h=>by
  cases h1
  cases u<;>simp only[Rep]at h2<;>first|(cases h2;done)|(cases h2;simp[eqD]at h;exact h)|(obtain⟨a,vs,e,_⟩:=h2;cases e)|(obtain⟨e,e2⟩:=h2;cases e2;done)|(obtain⟨e,e2,_⟩:=h2;cases e2)
 | n,.int i,u,v,k,h1,h2,h=>by
  cases h1
  cases u<;>simp only[Rep]at h2<;>first|(cases h2;done)|(cases h2;simp[eqD]at h;exact h)|(obtain⟨a,vs,e,_⟩:=h2;cases e)|(obtain⟨e,e2⟩:=h2;cases e2;done)|(obtain⟨e,e2,_⟩:=h2;cases e2)
 | n,.str x,u,v,k,h1,h2,h=>by
  cases h1
  cases u<;>simp only[Rep]at h2<;>first|(cases h2;done)|(cases h2;simp[eqD]at h;exact h)|(obtain⟨a,vs,e,_⟩:=h2;cases e)|(obtain⟨e,e2⟩:=h2;cases e2;done)|(obtain⟨e,e2,_⟩:=h2;cases e2)
 | 0,.tup ts,u,v,k,h1,h2,h=>by cases u<;>simp[eqD]at h
 | n+1,.tup ts,u,v,k,h1,h2,h=>by
  obtain⟨a,vs,e,q,r⟩:=h1
  subst e
  cases u with
  | tup us=>
   obtain⟨a',vs',e',q',r'⟩:=h2
   cases e'
   rw[q]at q'
   cases q'
   simp only[eqD]at h
   exact adC ts us vs (fun t u v k=>ac8 n t u v k) r r' k h
  | non=>cases h2
  | _=>simp[eqD]at h
 | 0,.lst ts,u,v,k,h1,h2,h=>by cases u<;>simp[eqD]at h
 | n+1,.lst ts,u,v,k,h1,h2,h=>by
  obtain⟨a,vs,e,z,q,r⟩:=h1
  subst e
  cases u with
  | lst us=>
   obtain⟨a',vs',e',z',q',r'⟩:=h2
   cases e'
   have ev:vs=vs':=by
    rcases q with q|⟨o,q⟩<;>rcases q' with q'|⟨o',q'⟩<;>(rw[q]at q';cases q';try rfl)
   subst ev
   simp only[eqD]at h
   exact adC ts us vs (fun t u v k=>ac8 n t u v k) r r' k h
  | _=>simp[eqD]at h
 | n,.loc l,u,v,k,h1,h2,h=>by cases u<;>simp[eqD]at h
 | n,.exc c,u,v,k,h1,h2,h=>by cases u<;>simp[eqD]at h
theorem acI{f:T→T→Option Bool}:∀(ts us:List T) (k:Bool),eqL f ts us=some k→∃e:Nat→Bool,(∀(j:Nat) t u,ts[j]?=some t→us[j]?=some u→f t u=some (e j))∧k=((List.range (min ts.length us.length)).all e&&ts.length==us.length)
 | [],[],k,h=>by cases h;exact⟨fun _=>true,fun j t u z=>by simp at z,rfl⟩
 | [],u::us,k,h=>by cases h;exact⟨fun _=>true,fun j t u z=>by simp at z,by simp⟩
 | t::ts,[],k,h=>by cases h;exact⟨fun _=>true,fun j t u _ z=>by simp at z,by simp⟩
 | t::ts,u::us,k,h=>by
  unfold eqL at h
  split at h
  ·rename_i k1 k2 q1 q2
   cases h
   obtain⟨e,h1,h2⟩:=acI ts us k2 q2
   refine⟨fun j=>match j with | 0=>k1|j+1=>e j,fun j t' u' z1 z2=>?_,?_⟩
   ·cases j with
    | zero=>simp at z1 z2;subst z1 z2;exact q1
    | succ j=>simp at z1 z2;exact h1 j t' u' z1 z2
   ·rw[h2]
    have em:min (t::ts).length (u::us).length=min ts.length us.length+1:=by simp[Nat.succ_min_succ]
    rw[em,List.range_succ_eq_map,List.all_cons,List.all_map]
    have el:((t::ts).length==(u::us).length)=(ts.length==us.length):=by simp
    rw[el,Bool.and_assoc]
    rfl
  ·cases h
theorem adE{vs:List V}{its:List Value}(r:Vals vs its){j:Nat}{u:Value}(e:its[j]?=some u):∃v,vs[j]?=some v∧aa8 v u:=by
 have hj:j<vs.length:=by rw[r.length];exact(List.getElem?_eq_some_iff.mp e).1
 obtain⟨u',h1,h2⟩:=r.get (List.getElem?_eq_getElem hj)
 rw[e]at h1
 cases h1
 exact⟨_,List.getElem?_eq_getElem hj,h2⟩
variable{A:Around}
theorem ab3{n:Nat}{ts us:List T}{vs vs':List V}{its its':List Value}{e:Nat→Bool}(r:aak G w H ts vs)(r':aak G w H us vs')(q:Vals vs its)(q':Vals vs' its')
  (he:∀(j:Nat) t u,ts[j]?=some t→us[j]?=some u→eqD n t u=some (e j))
  (ih:∀(t u:T) (v v':V) (x y:Value) (k:Bool),Rep G w H t v→Rep G w H u v'→aa8 v x→aa8 v' y→eqD n t u=some k→EqAt A s x y k):
  ∀j (h1:j<its.toArray.size) (h2:j<its'.toArray.size),EqAt A s its.toArray[j] its'.toArray[j] (e j):=by
 intro j h1 h2
 have h1':j<its.length:=by simpa using h1
 have h2':j<its'.length:=by simpa using h2
 obtain⟨v,e1,rv⟩:=adE q (List.getElem?_eq_getElem h1')
 obtain⟨v',e2,rv'⟩:=adE q' (List.getElem?_eq_getElem h2')
 obtain⟨t,e3,rt⟩:=r.get' e1
 obtain⟨u,e4,ru⟩:=r'.get' e2
 have:=ih t u v v' its[j] its'[j] (e j) rt ru rv rv' (he j t u e3 e4)
 simpa using this
theorem ah6(I:Inv X pins σ H s):∀(n:Nat) (A:Around),A.units+n<cLine→∀(t u:T) (v v':V) (x y:Value) (k:Bool),Rep G w H t v→Rep G w H u v'→aa8 v x→aa8 v' y→eqD n t u=some k→EqAt A s x y k:=by
 intro n
 induction n with
 | zero=>
  intro A hu t u v v' x y k h1 h2 r1 r2 h
  cases t<;>cases u<;>simp only[eqD]at h<;>first|(cases h;done)|skip
  ·cases h;cases h1;cases h2;cases r1;cases r2;exact EqAt.same _
  ·cases h;cases h1;cases h2;cases r1;obtain⟨_,rfl⟩:=r2;exact EqAt.none_int _ _
  ·cases h;cases h1;cases h2;cases r1;cases r2;exact EqAt.bool_bool _ _
  ·cases h;cases h1;cases h2;obtain⟨_,rfl⟩:=r1;cases r2;exact EqAt.int_none _ _
  ·cases h;cases h1;cases h2;obtain⟨_,rfl⟩:=r1;obtain⟨_,rfl⟩:=r2;exact EqAt.int_int _ _ _ _
  ·cases h;cases h1;cases h2;obtain⟨_,rfl⟩:=r1;obtain⟨_,rfl⟩:=r2;exact EqAt.str_str _ _ _ _
 | succ n ih=>
  intro A hu t u v v' x y k h1 h2 r1 r2 h
  have hu0:A.units<cLine:=by omega
  have hin:A.in1.units+n<cLine:=by show A.units+1+n<cLine;omega
  cases t<;>cases u<;>simp only[eqD]at h<;>first|(cases h;done)|skip
  ·cases h;cases h1;cases h2;cases r1;cases r2;exact EqAt.same _
  ·cases h;cases h1;cases h2;cases r1;obtain⟨_,rfl⟩:=r2;exact EqAt.none_int _ _
  ·cases h
   obtain⟨a,vs,e,q,_⟩:=h2
   subst e
   cases h1;cases r1;cases r2
   obtain⟨its,_,hi⟩:=aaW I q
   exact EqAt.none_tuple hi hu0
  ·cases h;cases h1;cases h2;cases r1;cases r2;exact EqAt.bool_bool _ _
  ·cases h;cases h1;cases h2;obtain⟨_,rfl⟩:=r1;cases r2;exact EqAt.int_none _ _
  ·cases h;cases h1;cases h2;obtain⟨_,rfl⟩:=r1;obtain⟨_,rfl⟩:=r2;exact EqAt.int_int _ _ _ _
  ·cases h;cases h1;cases h2;obtain⟨_,rfl⟩:=r1;obtain⟨_,rfl⟩:=r2;exact EqAt.str_str _ _ _ _
  ·cases h
   obtain⟨a,vs,e,q,_⟩:=h1
   subst e
   cases h2;cases r1;cases r2
   obtain⟨its,_,hi⟩:=aaW I q
   exact EqAt.tuple_none hi hu0
  ·rename_i ts us
   have hs:=ac8 (G:=G) (w:=w) (H:=H) (n+1) (.tup ts) (.tup us)
   have h1':=h1
   have h2':=h2
   obtain⟨a,vs,e,q,r⟩:=h1
   obtain⟨a',vs',e',q',r'⟩:=h2
   subst e e'
   cases r1;cases r2
   by_cases ea:a=a'
   ·subst ea
    have hk:k=true:=hs (.ref a) k h1' h2' (by simp only[eqD];exact h)
    subst hk
    exact EqAt.same _
   ·obtain⟨its,q1,hi⟩:=aaW I q
    obtain⟨its',q1',hi'⟩:=aaW I q'
    obtain⟨e,he,hk⟩:=acI ts us k h
    have hz:=RcAt.tuples hi hi' hu0 (ab3 r r' q1 q1' he (ih A.in1 hin))
    rw[List.size_toArray,List.size_toArray,←q1.length,←q1'.length,←r.length,←r'.length,←hk]at hz
    exact EqAt.of_refs ea hz
  ·rename_i ts us
   have hs:=ac8 (G:=G) (w:=w) (H:=H) (n+1) (.lst ts) (.lst us)
   have h1':=h1
   have h2':=h2
   obtain⟨a,vs,e,_,q,r⟩:=h1
   obtain⟨a',vs',e',_,q',r'⟩:=h2
   subst e e'
   cases r1;cases r2
   by_cases ea:a=a'
   ·subst ea
    have hk:k=true:=hs (.ref a) k h1' h2' (by simp only[eqD];exact h)
    subst hk
    exact EqAt.same _
   ·obtain⟨its,q1,hi⟩:=aaF I q
    obtain⟨its',q1',hi'⟩:=aaF I q'
    obtain⟨e,he,hk⟩:=acI ts us k h
    have l1:its.toArray.size=ts.length:=by rw[List.size_toArray,←q1.length,←r.length]
    have l2:its'.toArray.size=us.length:=by rw[List.size_toArray,←q1'.length,←r'.length]
    by_cases el:ts.length=us.length
    ·have hz:=RcAt.lists hi hi' (by rw[l1,l2,el]) hu0 (ab3 r r' q1 q1' he (ih A.in1 hin))
     rw[l1]at hz
     rw[el,Nat.min_self]at hk
     have:k=(List.range us.length).all e:=by rw[hk];simp
     rw[el,←this]at hz
     exact EqAt.of_refs ea hz
    ·have hz:=RcAt.lists_lengths hi hi' (by rw[l1,l2];simpa using el) hu0
     have:k=false:=by rw[hk];simp[el]
     rw[this]
     exact EqAt.of_refs ea hz
end
section
variable{G:Gx}{X:Cx}{pins:List (Addr×Obj)}{σ:St}{H:Hp}{s:Shared}{w:Wo}{st:Sto}{A:Around}
theorem ac0(I:Inv X pins σ H s)(hu:A.units+8<cLine){a b:Addr}{vs vs':List V}{ts us:List T}{k:Bool}(q:Rd H a (.lst vs))(q':Rd H b (.lst vs'))(r:aak G w H ts vs)(r':aak G w H us vs')(h:eqL (eqD 7) ts us=some k):
  RcAt A s (.ref a) (.ref b) k∧RcNeAt A s (.ref a) (.ref b) (!k):=by
 have hu0:A.units<cLine:=by omega
 have hin:A.in1.units+7<cLine:=by show A.units+1+7<cLine;omega
 obtain⟨its,q1,hi⟩:=aaF I q
 obtain⟨its',q1',hi'⟩:=aaF I q'
 obtain⟨e,he,hk⟩:=acI ts us k h
 have l1:its.toArray.size=ts.length:=by rw[List.size_toArray,←q1.length,←r.length]
 have l2:its'.toArray.size=us.length:=by rw[List.size_toArray,←q1'.length,←r'.length]
 have hp:=ab3 (s:=s) (A:=A.in1) r r' q1 q1' he (ah6 I 7 A.in1 hin)
 by_cases el:ts.length=us.length
 ·have hz:=RcAt.lists hi hi' (by rw[l1,l2,el]) hu0 hp
  have hy:=RcNeAt.lists hi hi' (by rw[l1,l2,el]) hu0 hp
  rw[el,Nat.min_self]at hk
  have:k=(List.range us.length).all e:=by rw[hk];simp
  rw[l1,el,←this]at hz hy
  exact⟨hz,hy⟩
 ·have hz:=RcAt.lists_lengths hi hi' (by rw[l1,l2];simpa using el) hu0
  have hy:=RcNeAt.lists_lengths hi hi' (by rw[l1,l2];simpa using el) hu0
  have:k=false:=by rw[hk];simp[el]
  rw[this]
  exact⟨hz,hy⟩
theorem am9(I:Inv X pins σ H s)(hu:A.units+8<cLine){a b:Addr}{vs vs':List V}{ts us:List T}{k:Bool}(q:H a=some (.tup vs))(q':H b=some (.tup vs'))(r:aak G w H ts vs)(r':aak G w H us vs')(h:eqL (eqD 7) ts us=some k):
  RcAt A s (.ref a) (.ref b) k∧RcNeAt A s (.ref a) (.ref b) (!k):=by
 have hu0:A.units<cLine:=by omega
 have hin:A.in1.units+7<cLine:=by show A.units+1+7<cLine;omega
 obtain⟨its,q1,hi⟩:=aaW I q
 obtain⟨its',q1',hi'⟩:=aaW I q'
 obtain⟨e,he,hk⟩:=acI ts us k h
 have hp:=ab3 (s:=s) (A:=A.in1) r r' q1 q1' he (ah6 I 7 A.in1 hin)
 have hz:=RcAt.tuples hi hi' hu0 hp
 have hy:=RcNeAt.tuples hi hi' hu0 hp
 rw[List.size_toArray,List.size_toArray,←q1.length,←q1'.length,←r.length,←r'.length,←hk]at hz hy
 exact⟨hz,hy⟩
theorem ayy(I:Inv X pins σ H s)(hu:A.units+8<cLine){t u:T}{v v':V}{x y:Value}{k:Bool}(h1:Rep G w H t v)(h2:Rep G w H u v')(r1:aa8 v x)(r2:aa8 v' y)(h:eqD 8 t u=some k):
  RcAt A s x y k∧RcNeAt A s x y (!k):=by
 have hu0:A.units<cLine:=by omega
 cases t<;>cases u<;>simp only[eqD]at h<;>first|(cases h;done)|skip
 ·cases h;cases h1;cases h2;cases r1;cases r2;exact⟨RcAt.none_none,RcNeAt.none_none⟩
 ·cases h;cases h1;cases h2;cases r1;obtain⟨_,rfl⟩:=r2;exact⟨RcAt.none_int _ _,RcNeAt.none_int _ _⟩
 ·cases h
  obtain⟨a,vs,e,q,_⟩:=h2
  subst e
  cases h1;cases r1;cases r2
  obtain⟨its,_,hi⟩:=aaW I q
  exact⟨RcAt.none_tuple hi hu0,RcNeAt.none_tuple hi hu0⟩
 ·cases h;cases h1;cases h2;cases r1;cases r2;exact⟨RcAt.bool_bool _ _,RcNeAt.bool_bool _ _⟩
 ·cases h;cases h1;cases h2;obtain⟨_,rfl⟩:=r1;cases r2;exact⟨RcAt.int_none _ _,RcNeAt.int_none _ _⟩
 ·cases h;cases h1;cases h2;obtain⟨_,rfl⟩:=r1;obtain⟨_,rfl⟩:=r2;exact⟨RcAt.int_int _ _ _ _,RcNeAt.int_int _ _ _ _⟩
 ·cases h;cases h1;cases h2;obtain⟨_,rfl⟩:=r1;obtain⟨_,rfl⟩:=r2;exact⟨RcAt.str_str _ _ _ _,RcNeAt.str_str _ _ _ _⟩
 ·cases h
  obtain⟨a,vs,e,q,_⟩:=h1
  subst e
  cases h2;cases r1;cases r2
  obtain⟨its,_,hi⟩:=aaW I q
  exact⟨RcAt.tuple_none hi hu0,RcNeAt.tuple_none hi hu0⟩
 ·obtain⟨a,vs,e,q,r⟩:=h1
  obtain⟨a',vs',e',q',r'⟩:=h2
  subst e e'
  cases r1;cases r2
  exact am9 I hu q q' r r' h
 ·obtain⟨a,vs,e,_,q,r⟩:=h1
  obtain⟨a',vs',e',_,q',r'⟩:=h2
  subst e e'
  cases r1;cases r2
  exact ac0 I hu q q' r r' h
theorem av0(I:Inv X pins σ H s)(hu:A.units+8<cLine){t u:R}{v v':V}{x y:Value}{k:Bool}(h1:aaM G w H t v)(h2:aaM G w H u v')(r1:aa8 v x)(r2:aa8 v' y)(h:eqR t u=some k):
  RcAt A s x y k∧RcNeAt A s x y (!k):=by
 unfold eqR at h
 split at h
 ·exact ayy I hu h1 h2 r1 r2 h
 ·obtain⟨a,vs,e,_,q,r⟩:=h1
  obtain⟨a',vs',e',q',r',_⟩:=h2
  subst e e'
  cases r1;cases r2
  exact ac0 I hu q (.inl q') r r' h
 ·obtain⟨a,vs,e,q,r,_⟩:=h1
  obtain⟨a',vs',e',_,q',r'⟩:=h2
  subst e e'
  cases r1;cases r2
  exact ac0 I hu (.inl q) q' r r' h
 ·obtain⟨a,vs,e,q,r,_⟩:=h1
  obtain⟨a',vs',e',q',r',_⟩:=h2
  subst e e'
  cases r1;cases r2
  exact ac0 I hu (.inl q) (.inl q') r r' h
 ·cases h
end
section
variable{G:Gx}{X:Cx}{C:Cf}{a b c:Expr}{a' b' c':E}{pos:Pos}
def akL:Cm→CmpOp
 | .lt=>.Lt | .le=>.LtE | .gt=>.Gt | .ge=>.GtE | .eq=>.Eq | .ne=>.NotEq | .isN=>.Is | .notN=>.IsNot | .mem=>.In | .nmem=>.NotIn
def ajp(c:Cm)(x y:R):Option R:=(ade c x y).map fun k=>.val (.bl k)
theorem ab5{pins:List (Addr×Obj)}{σ:St}{H:Hp}{s:Shared}{w:Wo}{st:Sto}{Q:VK}{k:Bool}(I:Inv X pins σ H s)(S:StoOk G w H st)(q:∀w' H' v,Le w w' H H'→StoOk G w' H' st→aaM G w' H' (.val (.bl k)) v→Q v H'):EP X pins σ Q (.bool k) s:=
 ⟨.bl k,H,I,rfl,q w H _ (Le.refl _ _) S rfl⟩
theorem adU{op:CmpOp}{f:Int→Int→Bool}{c:Cm}(hc:∀x y r,ajp c x y=some r→∃i j,x=.val (.int i)∧y=.val (.int j)∧r=.val (.bl (f i j)))
  (ho:OpR X (compareOp op) (rI0 fun i j=>.bl (f i j))):OpR X (compareOp op) (r2 G (ajp c)):=by
 intro pins s σ H x y v u Q I rx ry h
 obtain⟨w,st,x',y',r,S,Rx,Ry,e,q⟩:=h
 obtain⟨i,j,rfl,rfl,rfl⟩:=hc x' y' r e
 have hx:x=.int i:=Rx
 have hy:y=.int j:=Ry
 exact ho pins s σ H x y v u Q I rx ry ⟨i,j,hx,hy,q w H _ (Le.refl _ _) S rfl⟩
theorem arw{x y:R}{g:Int→Int→Bool}{r:R}(h:(do let i ←x.int?;let j ←y.int?;some (g i j)).map (fun k=>R.val (.bl k))=some r):∃i j,x=.val (.int i)∧y=.val (.int j)∧r=.val (.bl (g i j)):=by
 match x,y with
 | .val (.int i),.val (.int j)=>cases h;exact⟨i,j,rfl,rfl,rfl⟩
 | .val (.int i),.val .non=>cases h
 | .val (.int i),.val (.bl _)=>cases h
 | .val (.int i),.val (.str _)=>cases h
 | .val (.int i),.val (.tup _)=>cases h
 | .val (.int i),.val (.lst _)=>cases h
 | .val (.int i),.val (.loc _)=>cases h
 | .val (.int i),.val (.exc _)=>cases h
 | .val (.int i),.bor _=>cases h
 | .val .non,_=>cases h
 | .val (.bl _),_=>cases h
 | .val (.str _),_=>cases h
 | .val (.tup _),_=>cases h
 | .val (.lst _),_=>cases h
 | .val (.loc _),_=>cases h
 | .val (.exc _),_=>cases h
 | .bor _,_=>cases h
theorem ad0{w:Wo}{H:Hp}{x:R}{v:V}(r:aaM G w H x v):decide (v=.non)=x.isNon:=by
 match x,r with
 | .val .non,r=>cases r;rfl
 | .val (.bl _),r=>cases r;rfl
 | .val (.int _),r=>cases r;rfl
 | .val (.str _),r=>cases r;rfl
 | .val (.tup _),r=>obtain⟨_,_,e,_⟩:=r;subst e;rfl
 | .val (.lst _),r=>obtain⟨_,_,e,_⟩:=r;subst e;rfl
 | .val (.loc _),r=>obtain⟨_,e⟩:=r;subst e;rfl
 | .val (.exc _),r=>obtain⟨_,e,_⟩:=r;subst e;rfl
 | .bor _,r=>obtain⟨_,_,e,_⟩:=r;subst e;rfl
theorem adb{w:Wo}{H:Hp}{f:T→T→Option Bool}(hf:∀t t' u v k k',Rep G w H t v→Rep G w H t' v→f t u=some k→f t' u=some k'→k=k'):
  ∀(ts ts' us:List T) (vs:List V) (k k':Bool),aak G w H ts vs→aak G w H ts' vs→eqL f ts us=some k→eqL f ts' us=some k'→k=k'
 | [],[],us,vs,k,k',_,_,h,h'=>by rw[h]at h';cases h';rfl
 | [],_::_,us,vs,k,k',r,r',h,h'=>by obtain⟨v,q,e,_⟩:=r';rw[r]at e;cases e
 | _::_,[],us,vs,k,k',r,r',h,h'=>by obtain⟨v,q,e,_⟩:=r;rw[r']at e;cases e
 | t::ts,t'::ts',[],vs,k,k',r,r',h,h'=>by cases h;cases h';rfl
 | t::ts,t'::ts',u::us,vs,k,k',⟨v,q,e,h1,h2⟩,⟨v',q',e',h1',h2'⟩,h,h'=>by
  subst e
  cases e'
  unfold eqL at h h'
  split at h
  ·rename_i k1 k2 z1 z2
   split at h'
   ·rename_i k3 k4 z3 z4
    cases h
    cases h'
    rw[hf t t' u v k1 k3 h1 h1' z1 z3,adb hf ts ts' us q k2 k4 h2 h2' z2 z4]
   ·cases h'
  ·cases h
theorem aea(n l:Nat)(u:T):eqD n (.loc l) u=none:=by cases n<;>cases u<;>rfl
theorem adA(n l:Nat)(u:T):eqD n (.exc l) u=none:=by cases n<;>cases u<;>rfl
theorem aks(ts:List T)(u:T):eqD 0 (.tup ts) u=none:=by cases u<;>rfl
theorem agp(ts:List T)(u:T):eqD 0 (.lst ts) u=none:=by cases u<;>rfl
theorem aer{w:Wo}{H:Hp}:∀(n:Nat) (t t' u:T) (v:V) (k k':Bool),Rep G w H t v→Rep G w H t' v→eqD n t u=some k→eqD n t' u=some k'→k=k':=by
 intro n
 induction n with
 | zero=>
  intro t t' u v k k' h1 h2 e1 e2
  cases t<;>cases t'<;>first
   | (cases h1;cases h2;rw[e1]at e2;cases e2;rfl)
   | (rw[aea]at e1;cases e1;done)
   | (rw[aea]at e2;cases e2;done)
   | (rw[adA]at e1;cases e1;done)
   | (rw[adA]at e2;cases e2;done)
   | (rw[aks]at e1;cases e1;done)
   | (rw[aks]at e2;cases e2;done)
   | (rw[agp]at e1;cases e1;done)
   | (rw[agp]at e2;cases e2;done)
   | (cases h1;cases h2;done)
 | succ n ih=>
  intro t t' u v k k' h1 h2 e1 e2
  cases t<;>cases t'<;>first
   | (cases h1;cases h2;rw[e1]at e2;cases e2;rfl)
   | (cases h1;cases h2;done)
   | (rw[aea]at e1;cases e1;done)
   | (rw[aea]at e2;cases e2;done)
   | (rw[adA]at e1;cases e1;done)
   | (rw[adA]at e2;cases e2;done)
   | (rw[aks]at e1;cases e1;done)
   | (rw[aks]at e2;cases e2;done)
   | (rw[agp]at e1;cases e1;done)
   | (rw[agp]at e2;cases e2;done)
   | (cases h1;obtain⟨_,_,z,_⟩:=h2;cases z;done)
   | (cases h2;obtain⟨_,_,z,_⟩:=h1;cases z;done)
   | skip
  ·rename_i ts ts'
   obtain⟨a,vs,e,q,r⟩:=h1
   obtain⟨a',vs',e',q',r'⟩:=h2
   subst e
   cases e'
   rw[q]at q'
   cases q'
   cases u<;>simp only[eqD]at e1 e2<;>first|(cases e1;done)|(cases e1;cases e2;rfl)|exact adb (ih ·  ·  ·  ·  ·  ·) ts ts' _ vs k k' r r' e1 e2
  ·obtain⟨a,vs,e,q,r⟩:=h1
   obtain⟨a',vs',e',_,q',r'⟩:=h2
   subst e
   cases e'
   rcases q' with q'|⟨_,q'⟩<;>(rw[q]at q';cases q')
  ·obtain⟨a,vs,e,_,q,r⟩:=h1
   obtain⟨a',vs',e',q',r'⟩:=h2
   subst e
   cases e'
   rcases q with q|⟨_,q⟩<;>(rw[q]at q';cases q')
  ·rename_i ts ts'
   obtain⟨a,vs,e,_,q,r⟩:=h1
   obtain⟨a',vs',e',_,q',r'⟩:=h2
   subst e
   cases e'
   have ev:vs=vs':=by
    rcases q with q|⟨o,q⟩<;>rcases q' with q'|⟨o',q'⟩<;>(rw[q]at q';cases q';try rfl)
   subst ev
   cases u<;>simp only[eqD]at e1 e2<;>first|(cases e1;done)|(cases e1;cases e2;rfl)|exact adb (ih ·  ·  ·  ·  ·  ·) ts ts' _ vs k k' r r' e1 e2
theorem afV{x:T}:∀(ts:List T) (k:Bool),alF x ts=some k→(∀t∈ts,∃j,eqD 8 t x=some j)∧(k=true↔∃t∈ts,eqD 8 t x=some true)
 | [],k,h=>by cases h;exact⟨fun t z=>by simp at z,by simp⟩
 | t::ts,k,h=>by
  unfold alF at h
  split at h
  ·rename_i k1 k2 z1 z2
   cases h
   obtain⟨h1,h2⟩:=afV ts k2 z2
   refine⟨fun u hu=>?_,?_⟩
   ·rcases List.mem_cons.mp hu with rfl|hu
    ·exact⟨k1,z1⟩
    ·exact h1 u hu
   ·constructor
    ·intro q
     rcases(Bool.or_eq_true _ _).mp q with q|q
     ·subst q;exact⟨t,List.mem_cons_self ..,z1⟩
     ·obtain⟨u,hu,e⟩:=h2.mp q
      exact⟨u,List.mem_cons_of_mem _ hu,e⟩
    ·rintro⟨u,hu,e⟩
     rcases List.mem_cons.mp hu with rfl|hu
     ·have:some k1=some true:=z1.symm.trans e
      cases this
      rfl
     ·rw[h2.mpr ⟨u,hu,e⟩,Bool.or_true]
  ·cases h
theorem agj{vs:List V}{its:List Value}(r:Vals vs its){u:Value}(h:u∈its):∃v∈vs,aa8 v u:=by
 obtain⟨j,hj,e⟩:=List.mem_iff_getElem.mp h
 obtain⟨v,h1,h2⟩:=adE r (List.getElem?_eq_some_iff.mpr ⟨hj,e⟩)
 exact⟨v,List.mem_of_getElem? h1,h2⟩
theorem ag0{w:Wo}{H:Hp}{ts:List T}{vs:List V}(r:aak G w H ts vs){v:V}(h:v∈vs):∃t∈ts,Rep G w H t v:=by
 obtain⟨j,hj,e⟩:=List.mem_iff_getElem.mp h
 obtain⟨t,h1,h2⟩:=r.get' (List.getElem?_eq_some_iff.mpr ⟨hj,e⟩)
 exact⟨t,List.mem_of_getElem? h1,h2⟩
theorem ajR{w:Wo}{H:Hp}{ts:List T}{vs:List V}(r:aak G w H ts vs){t:T}(h:t∈ts):∃v∈vs,Rep G w H t v:=by
 obtain⟨j,hj,e⟩:=List.mem_iff_getElem.mp h
 obtain⟨t,h1,h2⟩:=r.get (List.getElem?_eq_some_iff.mpr ⟨hj,e⟩)
 exact⟨t,List.mem_of_getElem? h1,h2⟩
theorem ajK{vs:List V}{its:List Value}(r:Vals vs its){v:V}(h:v∈vs):∃u∈its,aa8 v u:=by
 obtain⟨j,hj,e⟩:=List.mem_iff_getElem.mp h
 obtain⟨u,h1,h2⟩:=r.get (List.getElem?_eq_some_iff.mpr ⟨hj,e⟩)
 exact⟨u,List.mem_of_getElem? h1,h2⟩
open Classical in
theorem adD{pins:List (Addr×Obj)}{σ:St}{H:Hp}{s:Shared}{w:Wo}{A:Around}(I:Inv X pins σ H s)(hu:A.units+8<cLine){tx:T}{vx:V}{x:Value}{ts:List T}{vs:List V}{its:List Value}{k:Bool}
  (Rx:Rep G w H tx vx) (rx:aa8 vx x) (r:aak G w H ts vs) (q:Vals vs its) (h:alF tx ts=some k):∃e:Value→Bool,(∀y,y∈its.toArray→EqAt A s y x (e y))∧its.toArray.any e=k:=by
 obtain⟨h1,h2⟩:=afV ts k h
 refine⟨fun u=>decide (∃v t,aa8 v u∧Rep G w H t v∧eqD 8 t tx=some true),fun y hy=>?_,?_⟩
 ·have hy':y∈its:=by simpa using hy
  obtain⟨v,hv,rv⟩:=agj q hy'
  obtain⟨t,ht,rt⟩:=ag0 r hv
  obtain⟨j,hj⟩:=h1 t ht
  have z:=ah6 I 8 A hu t tx v vx y x j rt Rx rv rx hj
  have ej:decide (∃v t,aa8 v y∧Rep G w H t v∧eqD 8 t tx=some true)=j:=by
   cases j with
   | true=>exact decide_eq_true ⟨v,t,rv,rt,hj⟩
   | false=>
    refine decide_eq_false ?_
    rintro⟨v',t',rv',rt',e'⟩
    cases rv.inj rv'
    exact Bool.noConfusion (aer 8 t t' tx v false true rt rt' hj e')
  dsimp only
  rw[ej]
  exact z
 ·rw[Bool.eq_iff_iff,h2,List.any_toArray,List.any_eq_true]
  constructor
  ·rintro⟨u,hu',e⟩
   obtain⟨v,t,rv,rt,e⟩:=of_decide_eq_true e
   obtain⟨v',hv',rv'⟩:=agj q hu'
   cases rv.inj rv'
   obtain⟨t',ht',rt'⟩:=ag0 r hv'
   obtain⟨j,hj⟩:=h1 t' ht'
   have:=aer 8 t t' tx v true j rt rt' e hj
   subst this
   exact⟨t',ht',hj⟩
  ·rintro⟨t,ht,e⟩
   obtain⟨v,hv,rt⟩:=ajR r ht
   obtain⟨u,hu',rv⟩:=ajK q hv
   exact⟨u,hu',decide_eq_true ⟨v,t,rv,rt,e⟩⟩
theorem akZ(hu:X.A.units+9<cLine)(c:Cm):OpR X (compareOp (akL c)) (r2 G (ajp c)):=by
 cases c with
 | lt=>exact adU (fun x y r h=>arw h) ask
 | le=>exact adU (fun x y r h=>arw h) arF
 | gt=>exact adU (fun x y r h=>arw h) auz
 | ge=>exact adU (fun x y r h=>arw h) atE
 | eq=>
  intro pins s σ H x y v u Q I rx ry h
  obtain⟨w,st,x',y',r,S,Rx,Ry,e,q⟩:=h
  unfold ajp ade at e
  cases he:eqR x' y' with
  | none=>simp[he]at e
  | some k=>
   simp only[he,Option.map_some,Option.some.injEq]at e
   subst e
   exact(av0 I (by omega) Rx Ry rx ry he).1 _ _ _ _ (ab5 I S q)
 | ne=>
  intro pins s σ H x y v u Q I rx ry h
  obtain⟨w,st,x',y',r,S,Rx,Ry,e,q⟩:=h
  unfold ajp ade at e
  cases he:eqR x' y' with
  | none=>simp[he]at e
  | some k=>
   simp only[he,Option.map_some,Option.some.injEq]at e
   subst e
   exact(av0 I (by omega) Rx Ry rx ry he).2 _ _ _ _ (ab5 I S q)
 | isN=>
  intro pins s σ H x y v u Q I rx ry h
  obtain⟨w,st,x',y',r,S,Rx,Ry,e,q⟩:=h
  unfold ajp ade at e
  dsimp only at e
  split at e
  ·have hy:y=.non:=Ry
   refine aqH pins s σ H x y v u Q I rx ry ⟨hy,?_⟩
   rw[ad0 Rx]
   cases e
   exact q w H _ (Le.refl _ _) S rfl
  ·cases e
 | notN=>
  intro pins s σ H x y v u Q I rx ry h
  obtain⟨w,st,x',y',r,S,Rx,Ry,e,q⟩:=h
  unfold ajp ade at e
  dsimp only at e
  split at e
  ·have hy:y=.non:=Ry
   refine amD pins s σ H x y v u Q I rx ry ⟨hy,?_⟩
   rw[ad0 Rx]
   cases e
   exact q w H _ (Le.refl _ _) S rfl
  ·cases e
 | mem=>
  intro pins s σ H x y v u Q I rx ry h
  obtain⟨w,st,x',y',r,S,Rx,Ry,e,q⟩:=h
  unfold ajp ade at e
  dsimp only at e
  cases hx:x'.val? with
  | none=>simp[hx]at e
  | some tx=>
   cases hy:y'.sq2 with
   | none=>simp[hx,hy]at e
   | some ts=>
    cases hm:alF tx ts with
    | none=>simp[hx,hy,hm]at e
    | some k=>
     simp[hx,hy,hm]at e
     subst e
     have Rx':Rep G w H tx x:=by
      cases x' with
      | val t=>cases hx;exact Rx
      | bor t=>cases hx
     obtain⟨p,vs,rfl,hp,rp⟩:=aaM.sq2 Ry hy
     cases ry
     rcases hp with hp|hp
     ·obtain⟨its,r1,hi⟩:=aaF I hp
      obtain⟨e,h1,h2⟩:=adD (A:=X.A.in1) I (by show X.A.units+1+8<cLine;omega) Rx' rx rp r1 hm
      exact in_listAt e hi h1 (by rw[h2];exact ab5 I S q)
     ·obtain⟨its,r1,hi⟩:=aaW I hp
      obtain⟨e,h1,h2⟩:=adD (A:=X.A.in1) I (by show X.A.units+1+8<cLine;omega) Rx' rx rp r1 hm
      exact in_tupleAt e hi h1 (by rw[h2];exact ab5 I S q)
 | nmem=>
  intro pins s σ H x y v u Q I rx ry h
  obtain⟨w,st,x',y',r,S,Rx,Ry,e,q⟩:=h
  unfold ajp ade at e
  dsimp only at e
  cases hx:x'.val? with
  | none=>simp[hx]at e
  | some tx=>
   cases hy:y'.sq2 with
   | none=>simp[hx,hy]at e
   | some ts=>
    cases hm:alF tx ts with
    | none=>simp[hx,hy,hm]at e
    | some k=>
     simp[hx,hy,hm]at e
     subst e
     have Rx':Rep G w H tx x:=by
      cases x' with
      | val t=>cases hx;exact Rx
      | bor t=>cases hx
     obtain⟨p,vs,rfl,hp,rp⟩:=aaM.sq2 Ry hy
     cases ry
     rcases hp with hp|hp
     ·obtain⟨its,r1,hi⟩:=aaF I hp
      obtain⟨e,h1,h2⟩:=adD (A:=X.A.in1) I (by show X.A.units+1+8<cLine;omega) Rx' rx rp r1 hm
      exact notIn_listAt e hi h1 (by rw[h2];exact ab5 I S q)
     ·obtain⟨its,r1,hi⟩:=aaW I hp
      obtain⟨e,h1,h2⟩:=adD (A:=X.A.in1) I (by show X.A.units+1+8<cLine;omega) Rx' rx rp r1 hm
      exact notIn_tupleAt e hi h1 (by rw[h2];exact ab5 I S q)
theorem aq1(hu:X.A.units+9<cLine)(c:Cm)(ha:PE X a (tV G X C a'))(hb:PE X b (tV G X C b'))(hm:behindInMarks (akL c) b=false):PE X (.Compare a [akL c] [b] pos) (tV G X C (.cmp c a' b')):=
 s2c (akZ hu c) ha hb hm fun _ _=>rfl
end
section
variable{G:Gx}{X:Cx}{C:Cf}{a b c:Expr}{a' b' c' e':E}{pos:Pos}{rest:List Expr}
theorem apR{w:Wo}{H:Hp}{x:R}{v:V}{k:Bool}(r:adc G w H x v)(h:tru x=some k):as4 X.K v H k:=by
 match x,h with
 | .val .non,h=>cases r;cases h;exact rfl
 | .val (.bl b),h=>cases r;cases h;exact rfl
 | .val (.int i),h=>cases r;cases h;exact rfl
 | .val (.lst ts),h=>
  cases h
  obtain⟨a,vs,e,_,q,r⟩:=r
  subst e
  refine .inl ⟨vs,.inl q,?_⟩
  cases ts with
  | nil=>cases r;rfl
  | cons t ts=>obtain⟨_,_,e,_⟩:=r;subst e;rfl
 | .val (.tup ts),h=>
  cases h
  obtain⟨a,vs,e,q,r⟩:=r
  subst e
  refine .inr (.inl ⟨vs,.inl (.inl q),?_⟩)
  cases ts with
  | nil=>cases r;rfl
  | cons t ts=>obtain⟨_,_,e,_⟩:=r;subst e;rfl
 | .bor ts,h=>
  cases h
  obtain⟨a,vs,e,q,r⟩:=r
  subst e
  refine .inl ⟨vs,.inl (.inl q),?_⟩
  cases ts with
  | nil=>cases r;rfl
  | cons t ts=>obtain⟨_,_,e,_⟩:=r;subst e;rfl
def awk(x:R):Option R:=(tru x).map fun k=>.val (.bl k)
theorem ajW{e:Expr}(hE:PE X e (tV G X C e'))(he:∀whole,isTrue e X.env whole=(do let v ←whole;standAt e.pos;holding [v] (truthy v)))
  (hev:∀σ s,ev C e' .t σ s=(ev C e' .v σ s).bind fun x s=>.of (awk x) s):PT X e (tT G X C e'):=by
 refine PT.imp (ajD hE he) ?_
 rintro σV H Q ⟨w₀,H₀,w,σ,s,g,h⟩
 rw[hev]at h
 refine⟨w₀,H₀,w,σ,s,g,(aa0.bind h).imp ?_⟩
 rintro v H1 ⟨w1,r,s1,L1,S1,R1,h1⟩
 obtain⟨r',e,q⟩:=aa0.of h1
 unfold awk at e
 cases ht:tru r with
 | none=>rw[ht]at e;cases e
 | some k=>
  rw[ht]at e
  cases e
  obtain⟨k',e,q'⟩:=q w1 H1 (.bl k) (Le.refl _ _) S1 rfl
  cases e
  exact⟨k,apR R1.d ht,q'⟩
theorem au7(c:Cm)(σ:Fr)(s:Sto):ev C (.cmp c a' b') .t σ s=ev C (.cmp c a' b') .v σ s:=by
 show Res.bind (Res.bind (ev C a' .v σ s) _) _=Res.bind (ev C a' .v σ s) _
 cases ev C a' .v σ s with
 | stuck=>rfl
 | exc c s=>rfl
 | ok x s1=>
  show Res.bind (Res.bind (ev C b' .v σ s1) _) _=Res.bind (ev C b' .v σ s1) _
  cases ev C b' .v σ s1 with
  | stuck=>rfl
  | exc c s=>rfl
  | ok y s2=>
   show Res.bind (Res.of ((ade c x y).map _) s2) _=Res.of ((ade c x y).map _) s2
   cases ade c x y<;>rfl
theorem apt(hu:X.A.units+9<cLine)(c:Cm)(ha:PE X a (tV G X C a'))(hb:PE X b (tV G X C b'))(hm:behindInMarks (akL c) b=false):PT X (.Compare a [akL c] [b] pos) (tT G X C (.cmp c a' b')):=by
 refine PT.imp (amo (akZ (G:=G) hu c) ha hb hm) ?_
 rintro σV H Q ⟨w₀,H₀,w,σ,s,g,h⟩
 rw[au7]at h
 exact ajP (f:=ajp c) ⟨w₀,H₀,w,σ,s,g,h⟩
def r1(G:Gx)(f:R→Option R):V→Hp→VK→Prop:=fun x H Q=>∃w s rx r,StoOk G w H s∧adc G w H rx x∧f rx=some r∧∀w' H' v,Le w w' H H'→StoOk G w' H' s→aaM G w' H' r v→Q v H'
theorem aqL{f:R→Option R}{σV:St}{H:Hp}{Q:VK}(h:∃w₀ H₀ w σ s,Good G w₀ H₀ w H σ s σV∧aa0 G X σV w H ((ev C a' .v σ s).bind fun x s1=>.of (f x) s1) Q):
  tV G X C a' σV H fun x H1=>r1 G f x H1 Q:=by
 obtain⟨w₀,H₀,w,σ,s,g,h⟩:=h
 refine⟨w₀,H₀,w,σ,s,g,(aa0.bind h).imp ?_⟩
 rintro x H1 ⟨w1,r1,s1,L1,S1,R1,h1⟩
 obtain⟨r,e,q⟩:=aa0.of h1
 exact⟨w1,s1,r1,r,S1,R1.d,e,q⟩
theorem akF{f:R→Option R}{σV:St}{H:Hp}{Q:VK}(h:∃w₀ H₀ w σ s,Good G w₀ H₀ w H σ s σV∧aa0 G X σV w H ((ev C a' .v σ s).bind fun x s1=>.of (f (x.dr s1)) s1) Q):
  tV G X C a' σV H fun x H1=>r1 G f x H1 Q:=by
 obtain⟨w₀,H₀,w,σ,s,g,h⟩:=h
 refine⟨w₀,H₀,w,σ,s,g,(aa0.bind h).imp ?_⟩
 rintro x H1 ⟨w1,r1,s1,L1,S1,R1,h1⟩
 obtain⟨r,e,q⟩:=aa0.of h1
 exact⟨w1,s1,_,r,S1,R1.dr S1,e,q⟩
theorem al1(ha:PE X a (tV G X C a')):PE X (.UnaryOp .USub a pos) (tV G X C (.neg a')):=by
 refine PE.imp (au1 aqu ha) ?_
 rintro σV H Q h
 have h:=aqL (f:=fun x=>x.int?.map fun i=>R.val (.int (-i))) h
 refine(show tV G X C a' σV H _ from ?_)
 obtain⟨w₀,H₀,w,σ,s,g,h⟩:=h
 refine⟨w₀,H₀,w,σ,s,g,h.imp ?_⟩
 rintro x H1 ⟨w1,s1,rx,r,S1,R1,e,q⟩
 match rx,e with
 | .val (.int i),e=>cases e;cases R1;exact⟨i,rfl,q w1 H1 _ (Le.refl _ _) S1 rfl⟩
theorem apV(ha:PE X a (tV G X C a')):PE X (.UnaryOp .Not a pos) (tV G X C (.not a')):=by
 intro pins s σ H Q I h
 have h:=aqL (f:=fun x=>(tru x).map fun k=>R.val (.bl (!k))) h
 refine PyProof.Rows.UnaryOp_ (thn (ha pins s σ H _ I h) fun v s1 ⟨x,H1,I1,r1,q1⟩=>?_)
 obtain⟨w1,st,rx,r,S1,R1,e,q⟩:=q1
 dsimp only at e
 cases ht:tru rx with
 | none=>rw[ht]at e;cases e
 | some k=>
  rw[ht]at e
  cases e
  exact PyProof.Rows.not_of (thn (alC pins s1 σ H1 x v (fun c H2=>Q (.bl (!c)) H2) I1 r1 ⟨k,apR R1 ht,q w1 H1 _ (Le.refl _ _) S1 rfl⟩) fun c s2 ⟨H2,I2,z⟩=>⟨.bl (!c),H2,I2,rfl,z⟩)
theorem ahn{w:Wo}{H:Hp}{σV:St}{x:R}{v:V}{m n:Res R}{Q:VK}(r:aaM G w H x v)(h:aa0 G X σV w H (onB x m n) Q):∃k,v=.bl k∧x=.val (.bl k)∧aa0 G X σV w H (if k=true then m else n) Q:=by
 match x,h with
 | .val (.bl true),h=>exact⟨true,r,rfl,h⟩
 | .val (.bl false),h=>exact⟨false,r,rfl,h⟩
 | .val .non,h=>exact h.elim
 | .val (.int _),h=>exact h.elim
 | .val (.str _),h=>exact h.elim
 | .val (.tup _),h=>exact h.elim
 | .val (.lst _),h=>exact h.elim
 | .val (.loc _),h=>exact h.elim
 | .val (.exc _),h=>exact h.elim
 | .bor _,h=>exact h.elim
theorem apg(ha:PT X a (tT G X C a')):PT X (.UnaryOp .Not a pos) (tT G X C (.not a')):=by
 refine PT.imp (ap5 ha) ?_
 rintro σV H Q ⟨w₀,H₀,w,σ,s,g,h⟩
 refine⟨w₀,H₀,w,σ,s,g,(aa0.bind h).imp ?_⟩
 rintro v H1 ⟨w1,r,s1,L1,S1,R1,h1⟩
 obtain⟨k,rfl,rfl,h1⟩:=ahn R1 h1
 refine⟨k,rfl,?_⟩
 cases k with
 | true=>obtain⟨_,e,q⟩:=h1 w1 H1 (.bl false) (Le.refl _ _) S1 rfl;cases e;exact q
 | false=>obtain⟨_,e,q⟩:=h1 w1 H1 (.bl true) (Le.refl _ _) S1 rfl;cases e;exact q
theorem aoU{σV:St}{H:Hp}{Q:Bool→Hp→Prop}(h:tT G X C (.and a' b') σV H Q):avR (tT G X C a') (tT G X C b') σV H Q:=by
 obtain⟨w₀,H₀,w,σ,s,g,h⟩:=h
 refine⟨w₀,H₀,w,σ,s,g,(aa0.bind h).imp ?_⟩
 rintro v H1 ⟨w1,r,s1,L1,S1,R1,h1⟩
 obtain⟨k,rfl,rfl,h1⟩:=ahn R1 h1
 refine⟨k,rfl,?_⟩
 cases k with
 | true=>exact am1 ⟨w₀,H₀,w1,σ,s1,g.step L1 S1,h1⟩
 | false=>obtain⟨_,e,q⟩:=h1 w1 H1 (.bl false) (Le.refl _ _) S1 rfl;cases e;exact amj q
theorem asj{σV:St}{H:Hp}{Q:Bool→Hp→Prop}(h:tT G X C (.or a' b') σV H Q):tOr (tT G X C a') (tT G X C b') σV H Q:=by
 obtain⟨w₀,H₀,w,σ,s,g,h⟩:=h
 refine⟨w₀,H₀,w,σ,s,g,(aa0.bind h).imp ?_⟩
 rintro v H1 ⟨w1,r,s1,L1,S1,R1,h1⟩
 obtain⟨k,rfl,rfl,h1⟩:=ahn R1 h1
 refine⟨k,rfl,?_⟩
 cases k with
 | true=>obtain⟨_,e,q⟩:=h1 w1 H1 (.bl true) (Le.refl _ _) S1 rfl;cases e;exact am1 q
 | false=>exact amj ⟨w₀,H₀,w1,σ,s1,g.step L1 S1,h1⟩
theorem PW.imp{e:Expr}{t t':TT}(h:PW X e t)(q:∀σ H Q,t' σ H Q→t σ H Q):PW X e t':=fun wh pins s σ H Q I z=>h wh pins s σ H Q I (q _ _ _ z)
def PTb(X:Cx)(op:BoolOp)(es:List Expr)(pos:Pos)(t:TT):Prop:=PW X (.BoolOp op es pos) t
theorem afw(h:PT X a (tT G X C a')):PTb X .And [a] pos (tT G X C a'):=amA h
theorem ahk(h:PT X a (tT G X C a')):PTb X .Or [a] pos (tT G X C a'):=apy h
theorem am3(ha:PT X a (tT G X C a'))(hb:PTb X .And (b::rest) pos (tT G X C b')):PTb X .And (a::b::rest) pos (tT G X C (.and a' b')):=PW.imp (aou ha hb) fun _ _ _ h=>aoU h
theorem aoz(ha:PT X a (tT G X C a'))(hb:PTb X .Or (b::rest) pos (tT G X C b')):PTb X .Or (a::b::rest) pos (tT G X C (.or a' b')):=PW.imp (aux ha hb) fun _ _ _ h=>asj h
theorem aqn(ha:PE X a (tV G X C a'))(hb:PE X (.BoolOp .And (b::rest) pos) (tV G X C b')):PE X (.BoolOp .And (a::b::rest) pos) (tV G X C (.and a' b')):=by
 refine PE.imp (ao7 ha hb) ?_
 rintro σV H Q ⟨w₀,H₀,w,σ,s,g,h⟩
 refine⟨w₀,H₀,w,σ,s,g,(aa0.bind h).imp ?_⟩
 rintro v H1 ⟨w1,r,s1,L1,S1,R1,h1⟩
 obtain⟨k,rfl,rfl,h1⟩:=ahn R1 h1
 refine⟨k,rfl,?_⟩
 cases k with
 | true=>exact am1 ⟨w₀,H₀,w1,σ,s1,g.step L1 S1,h1⟩
 | false=>exact amj (h1 w1 H1 (.bl false) (Le.refl _ _) S1 rfl)
theorem asF(ha:PE X a (tV G X C a'))(hb:PE X (.BoolOp .Or (b::rest) pos) (tV G X C b')):PE X (.BoolOp .Or (a::b::rest) pos) (tV G X C (.or a' b')):=by
 refine PE.imp (ar9 ha hb) ?_
 rintro σV H Q ⟨w₀,H₀,w,σ,s,g,h⟩
 refine⟨w₀,H₀,w,σ,s,g,(aa0.bind h).imp ?_⟩
 rintro v H1 ⟨w1,r,s1,L1,S1,R1,h1⟩
 obtain⟨k,rfl,rfl,h1⟩:=ahn R1 h1
 refine⟨k,rfl,?_⟩
 cases k with
 | true=>exact am1 (h1 w1 H1 (.bl true) (Le.refl _ _) S1 rfl)
 | false=>exact amj ⟨w₀,H₀,w1,σ,s1,g.step L1 S1,h1⟩
theorem apr(hc:PT X c (tT G X C c'))(ha:PE X a (tV G X C a'))(hb:PE X b (tV G X C b')):PE X (.IfExp c a b pos) (tV G X C (.ife c' a' b')):=by
 refine PE.imp (akE hc ha hb) ?_
 rintro σV H Q ⟨w₀,H₀,w,σ,s,g,h⟩
 refine⟨w₀,H₀,w,σ,s,g,(aa0.bind h).imp ?_⟩
 rintro v H1 ⟨w1,r,s1,L1,S1,R1,h1⟩
 obtain⟨k,rfl,rfl,h1⟩:=ahn R1 h1
 refine⟨k,rfl,?_⟩
 cases k with
 | true=>exact am1 ⟨w₀,H₀,w1,σ,s1,g.step L1 S1,h1⟩
 | false=>exact amj ⟨w₀,H₀,w1,σ,s1,g.step L1 S1,h1⟩
def amH(G:Gx)(X:Cx)(σV:St)(w:Wo)(H:Hp)(res:Res (List T))(Q:List V→Hp→Prop):Prop:=match res with
 | .stuck=>False
 | .ok ts s'=>∀w' H' vs,Le w w' H H'→StoOk G w' H' s'→aak G w' H' ts vs→Q vs H'
 | .exc c s'=>∀w' H' pins u sh,Le w w' H H'→StoOk G w' H' s'→aaO G X pins σV H' c u sh→X.xe u sh
def aiv(G:Gx)(X:Cx)(σV:St)(w:Wo)(H:Hp)(res:Res (List R))(Q:List V→Hp→Prop):Prop:=match res with
 | .stuck=>False
 | .ok ts s'=>∀w' H' vs,Le w w' H H'→StoOk G w' H' s'→aaP G w' H' ts vs→Q vs H'
 | .exc c s'=>∀w' H' pins u sh,Le w w' H H'→StoOk G w' H' s'→aaO G X pins σV H' c u sh→X.xe u sh
def tA(G:Gx)(X:Cx)(C:Cf)(es:List E):TA:=fun σV H Q=>∃w₀ H₀ w σ s,Good G w₀ H₀ w H σ s σV∧amH G X σV w H (evs C es σ s) Q
def tR(G:Gx)(X:Cx)(C:Cf)(es:List E):TA:=fun σV H Q=>∃w₀ H₀ w σ s,Good G w₀ H₀ w H σ s σV∧aiv G X σV w H (evr C es σ s) Q
theorem aqf:PA X [] (tA G X C []):=PA.imp aaZ fun σV H Q ⟨w₀,H₀,w,σ,s,g,h⟩=>h w H [] (Le.refl _ _) g.sto rfl
theorem aop:PA X [] (tR G X C []):=PA.imp aaZ fun σV H Q ⟨w₀,H₀,w,σ,s,g,h⟩=>h w H [] (Le.refl _ _) g.sto rfl
variable{es:List Expr}{es':List E}
theorem anr(ha:PE X a (tV G X C a'))(hr:PA X es (tA G X C es'))(hs:starEach (a::es) X.env=(false,eval a X.env)::starEach es X.env):PA X (a::es) (tA G X C (a'::es')):=by
 refine PA.imp (aa2 ha hr hs) ?_
 rintro σV H Q ⟨w₀,H₀,w,σ,s,g,h⟩
 have h:amH G X σV w H ((ev C a' .v σ s).bind fun x s1=>onV x fun t=>(evs C es' σ s1).bind fun ts s2=>.ok (t::ts) s2) Q:=h
 refine⟨w₀,H₀,w,σ,s,g,?_⟩
 cases he:ev C a' .v σ s with
 | stuck=>rw[he]at h;exact h
 | exc c s1=>rw[he]at h;exact h
 | ok x s1=>
  rw[he]at h
  intro w1 H1 v L1 S1 R1
  match x,h with
  | .bor _,h=>exact h.elim
  | .val t,h=>
   have h:amH G X σV w H ((evs C es' σ s1).bind fun ts s2=>.ok (t::ts) s2) Q:=h
   refine⟨w₀,H₀,w1,σ,s1,g.step L1 S1,?_⟩
   cases hf:evs C es' σ s1 with
   | stuck=>rw[hf]at h;exact h
   | exc c s2=>rw[hf]at h;exact fun w2 H2 pins u sh L2=>h w2 H2 pins u sh (L1.trans L2)
   | ok ts s2=>
    rw[hf]at h
    intro w2 H2 vs L2 S2 R2
    exact h w2 H2 (v::vs) (L1.trans L2) S2 ⟨v,vs,rfl,Rep.mono L2 S1 t v R1,R2⟩
theorem alY(ha:PE X a (tV G X C a'))(hr:PA X es (tR G X C es'))(hs:starEach (a::es) X.env=(false,eval a X.env)::starEach es X.env):PA X (a::es) (tR G X C (a'::es')):=by
 refine PA.imp (aa2 ha hr hs) ?_
 rintro σV H Q ⟨w₀,H₀,w,σ,s,g,h⟩
 have h:aiv G X σV w H ((ev C a' .v σ s).bind fun x s1=>(evr C es' σ s1).bind fun ts s2=>.ok (x::ts) s2) Q:=h
 refine⟨w₀,H₀,w,σ,s,g,?_⟩
 cases he:ev C a' .v σ s with
 | stuck=>rw[he]at h;exact h
 | exc c s1=>rw[he]at h;exact h
 | ok x s1=>
  rw[he]at h
  intro w1 H1 v L1 S1 R1
  have h:aiv G X σV w H ((evr C es' σ s1).bind fun ts s2=>.ok (x::ts) s2) Q:=h
  refine⟨w₀,H₀,w1,σ,s1,g.step L1 S1,?_⟩
  cases hf:evr C es' σ s1 with
  | stuck=>rw[hf]at h;exact h
  | exc c s2=>rw[hf]at h;exact fun w2 H2 pins u sh L2=>h w2 H2 pins u sh (L1.trans L2)
  | ok ts s2=>
   rw[hf]at h
   intro w2 H2 vs L2 S2 R2
   exact h w2 H2 (v::vs) (L1.trans L2) S2 ⟨v,vs,rfl,aaM.mono L2 S1 R1,R2⟩
theorem aeg(C:Cf):∀(es:List E) (σ:Fr) (s:Sto) (ts:List T) (s':Sto),evs C es σ s=.ok ts s'→ts.length=es.length
 | [],σ,s,ts,s',h=>by cases h;rfl
 | e::es,σ,s,ts,s',h=>by
  unfold evs at h
  cases he:ev C e .v σ s with
  | stuck=>rw[he]at h;cases h
  | exc c s1=>rw[he]at h;cases h
  | ok x s1=>
   rw[he]at h
   match x,h with
   | .bor _,h=>cases h
   | .val t,h=>
    have h:((evs C es σ s1).bind fun ts s2=>Res.ok (t::ts) s2)=.ok ts s':=h
    cases hf:evs C es σ s1 with
    | stuck=>rw[hf]at h;cases h
    | exc c s2=>rw[hf]at h;cases h
    | ok us s2=>
     rw[hf]at h
     cases h
     simp[aeg C es σ s1 us _ hf]
theorem ap3{k:Nat}(h:PA X es (tA G X C es'))(hz:es'.length≤sizeLine):PE X (.Tuple es k pos) (tV G X C (.tup es')):=by
 refine PE.imp (apf h) ?_
 rintro σV H Q ⟨w₀,H₀,w,σ,s,g,h⟩
 have h:aa0 G X σV w H ((evs C es' σ s).bind fun ts s1=>.ok (.val (.tup ts)) s1) Q:=h
 refine⟨w₀,H₀,w,σ,s,g,?_⟩
 cases hf:evs C es' σ s with
 | stuck=>rw[hf]at h;exact h
 | exc c s2=>rw[hf]at h;exact h
 | ok ts s2=>
  rw[hf]at h
  intro w2 H2 vs L2 S2 R2
  refine⟨by rw[←R2.length,aeg C _ _ _ _ _ hf];exact hz,?_⟩
  exact afO S2 R2 fun w' H' v L S R=>h w' H' v (L2.trans L) S R
theorem ao2(h:PA X es (tA G X C es'))(hz:es'.length≤sizeLine):PE X (.List es pos) (tV G X C (.lst es')):=by
 refine PE.imp (alG h) ?_
 rintro σV H Q ⟨w₀,H₀,w,σ,s,g,h⟩
 have h:aa0 G X σV w H ((evs C es' σ s).bind fun ts s1=>.ok (.val (.lst ts)) s1) Q:=h
 refine⟨w₀,H₀,w,σ,s,g,?_⟩
 cases hf:evs C es' σ s with
 | stuck=>rw[hf]at h;exact h
 | exc c s2=>rw[hf]at h;exact h
 | ok ts s2=>
  rw[hf]at h
  intro w2 H2 vs L2 S2 R2
  refine⟨by rw[←R2.length,aeg C _ _ _ _ _ hf];exact hz,?_⟩
  exact ach S2 R2 fun w' H' v L S R=>h w' H' v (L2.trans L) S R
end
section
variable{G:Gx}{X:Cx}{C:Cf}{a b c:Expr}{a' b' c' e':E}{pos p:Pos}{rest:List Expr}
theorem aak.atI{w:Wo}{H:Hp}{ts:List T}{vs:List V}{i:Int}{t:T}(r:aak G w H ts vs)(h:L2.atI ts i=some t):∃v,L2.atI vs i=some v∧Rep G w H t v:=by
 unfold L2.atI at h ⊢
 rw[←r.length]
 cases e:ixN ts.length i with
 | none=>rw[e]at h;cases h
 | some j=>
  rw[e]at h
  exact r.get h
theorem aoh(ha:PE X a (tV G X C a'))(hb:PE X b (tV G X C b'))(hs:afP b):PE X (.Subscript a b pos) (tV G X C (.sub a' b')):=by
 refine PE.imp (arY aqF ha hb hs) ?_
 rintro σV H Q ⟨w₀,H₀,w,σ,s,g,h⟩
 refine⟨w₀,H₀,w,σ,s,g,(aa0.bind h).imp ?_⟩
 rintro x H1 ⟨w1,r1,s1,L1,S1,R1,h1⟩
 refine⟨w₀,H₀,w1,σ,s1,g.step L1 S1,(aa0.bind h1).imp ?_⟩
 rintro y H2 ⟨w2,r2,s2,M2,S2,R2,h2⟩
 have R1':=R1.mono M2 S1
 match r2,h2 with
 | .val (.int i),h2=>
  obtain⟨r,e,q⟩:=aa0.of h2
  cases R2
  unfold aaQ at e
  cases hx:(r1.dr s2).sq2 with
  | none=>rw[hx]at e;cases e
  | some ts=>
   rw[hx]at e
   dsimp only at e
   cases ht:L2.atI ts i with
   | none=>rw[ht]at e;cases e
   | some t=>
    rw[ht]at e
    cases e
    obtain⟨pa,vs,rfl,hp,rp⟩:=adc.sq2 (R1'.dr S2) hx
    obtain⟨v,hv,rv⟩:=rp.atI ht
    rcases hp with hp|hp
    ·exact .inl ⟨pa,vs,i,v,rfl,rfl,.inl hp,hv,q w2 H2 v (Le.refl _ _) S2 rv⟩
    ·exact .inr (.inl ⟨pa,vs,i,v,rfl,rfl,SqT.of hp,hv,q w2 H2 v (Le.refl _ _) S2 rv⟩)
 | .val .non,h2=>exact h2.elim
 | .val (.bl _),h2=>exact h2.elim
 | .val (.str _),h2=>exact h2.elim
 | .val (.tup _),h2=>exact h2.elim
 | .val (.lst _),h2=>exact h2.elim
 | .val (.loc _),h2=>exact h2.elim
 | .val (.exc _),h2=>exact h2.elim
 | .bor _,h2=>exact h2.elim
def rSl(G:Gx):V→Option Int→Option Int→Hp→VK→Prop:=fun x lo hi H Q=>∃w s rx r,StoOk G w H s∧adc G w H rx x∧aeL rx lo hi=some r∧∀w' H' v,Le w w' H H'→StoOk G w' H' s→aaM G w' H' r v→Q v H'
theorem SlR.imp{r r':V→Option Int→Option Int→Hp→VK→Prop}(h:SlR X r)(q:∀x lo hi H Q,r' x lo hi H Q→r x lo hi H Q):SlR X r':=fun pins s σ H x v vl vu lo hi sl Q I rx hs pl pu z=>h pins s σ H x v vl vu lo hi sl Q I rx hs pl pu (q _ _ _ _ _ z)
theorem alV:SlR X (rSl G):=by
 refine SlR.imp (SlR.or aqp amI) ?_
 rintro x lo hi H Q ⟨w,s,rx,r,S,R1,e,q⟩
 unfold aeL at e
 split at e
 ·rename_i ts
  split at e
  ·cases e
  ·rename_i hc
   cases e
   obtain⟨pa,vs,rfl,hp,rp⟩:=R1
   refine .inl ⟨pa,vs,rfl,SqT.of hp,by rw[←rp.length];exact hc,afO S (rp.cut lo hi) q⟩
 ·rename_i ts
  cases e
  obtain⟨pa,vs,rfl,_,hp,rp⟩:=R1
  exact .inr ⟨pa,vs,rfl,.inl hp,ach S (rp.cut lo hi) q⟩
 ·rename_i ts
  cases e
  obtain⟨pa,vs,rfl,hp,rp⟩:=R1
  exact .inr ⟨pa,vs,rfl,SqL.of hp,ach S (rp.cut lo hi) q⟩
 ·cases e
theorem aku{w:Wo}{H:Hp}{σV:St}{x:R}{v:V}{f:Int→Res R}{Q:VK}(r:aaM G w H x v)(h:aa0 G X σV w H (onI x f) Q):∃i,v=.int i∧x=.val (.int i)∧aa0 G X σV w H (f i) Q:=by
 match x,h with
 | .val (.int i),h=>exact⟨i,r,rfl,h⟩
 | .val .non,h=>exact h.elim
 | .val (.bl _),h=>exact h.elim
 | .val (.str _),h=>exact h.elim
 | .val (.tup _),h=>exact h.elim
 | .val (.lst _),h=>exact h.elim
 | .val (.loc _),h=>exact h.elim
 | .val (.exc _),h=>exact h.elim
 | .bor _,h=>exact h.elim
theorem am7{p2:Pos}(ha:PE X a (tV G X C a'))(hb:PE X b (tV G X C b')):PE X (.Subscript a (.Slice (some b) none none p2) pos) (tV G X C (.cutL a' b')):=by
 refine PE.imp (ad8 (alV (G:=G)) ha (acT hb) adB) ?_
 rintro σV H Q ⟨w₀,H₀,w,σ,s,g,h⟩
 refine⟨w₀,H₀,w,σ,s,g,(aa0.bind h).imp ?_⟩
 rintro x H1 ⟨w1,r1,s1,L1,S1,R1,h1⟩
 refine⟨w₀,H₀,w1,σ,s1,g.step L1 S1,(aa0.bind h1).imp ?_⟩
 rintro y H2 ⟨w2,r2,s2,L2,S2,R2,h2⟩
 obtain⟨i,rfl,rfl,h2⟩:=aku R2 h2
 obtain⟨r,e,q⟩:=aa0.of h2
 exact⟨i,rfl,w2,s2,_,r,S2,(R1.mono L2 S1).dr S2,e,q⟩
theorem ang{p2:Pos}(ha:PE X a (tV G X C a'))(hb:PE X b (tV G X C b')):PE X (.Subscript a (.Slice none (some b) none p2) pos) (tV G X C (.cutU a' b')):=by
 refine PE.imp (ad8 (alV (G:=G)) ha adB (acT hb)) ?_
 rintro σV H Q ⟨w₀,H₀,w,σ,s,g,h⟩
 refine⟨w₀,H₀,w,σ,s,g,(aa0.bind h).imp ?_⟩
 rintro x H1 ⟨w1,r1,s1,L1,S1,R1,h1⟩
 refine⟨w₀,H₀,w1,σ,s1,g.step L1 S1,(aa0.bind h1).imp ?_⟩
 rintro y H2 ⟨w2,r2,s2,L2,S2,R2,h2⟩
 obtain⟨i,rfl,rfl,h2⟩:=aku R2 h2
 obtain⟨r,e,q⟩:=aa0.of h2
 exact⟨i,rfl,w2,s2,_,r,S2,(R1.mono L2 S1).dr S2,e,q⟩
theorem ajY{p2:Pos}(ha:PE X a (tV G X C a'))(hb:PE X b (tV G X C b'))(hc:PE X c (tV G X C c')):PE X (.Subscript a (.Slice (some b) (some c) none p2) pos) (tV G X C (.cutLU a' b' c')):=by
 refine PE.imp (ad8 (alV (G:=G)) ha (acT hb) (acT hc)) ?_
 rintro σV H Q ⟨w₀,H₀,w,σ,s,g,h⟩
 refine⟨w₀,H₀,w,σ,s,g,(aa0.bind h).imp ?_⟩
 rintro x H1 ⟨w1,r1,s1,L1,S1,R1,h1⟩
 refine⟨w₀,H₀,w1,σ,s1,g.step L1 S1,(aa0.bind h1).imp ?_⟩
 rintro y H2 ⟨w2,r2,s2,L2,S2,R2,h2⟩
 obtain⟨i,rfl,rfl,h2⟩:=aku R2 h2
 refine⟨i,rfl,w₀,H₀,w2,σ,s2,(g.step L1 S1).step L2 S2,(aa0.bind h2).imp ?_⟩
 rintro z H3 ⟨w3,r3,s3,L3,S3,R3,h3⟩
 obtain⟨j,rfl,rfl,h3⟩:=aku R3 h3
 obtain⟨r,e,q⟩:=aa0.of h3
 exact⟨j,rfl,w3,s3,_,r,S3,((R1.mono L2 S1).mono L3 S2).dr S3,e,q⟩
def rB1(G:Gx)(f:R→Option R):List V→Hp→VK→Prop:=fun xs H Q=>∃v,xs=[v]∧r1 G f v H Q
theorem aa4.imp{f:Value}{r r':List V→Hp→VK→Prop}(h:aa4 X f r)(q:∀xs H Q,r' xs H Q→r xs H Q):aa4 X f r':=fun pins s σ H xs us Q I rx z=>h pins s σ H xs us Q I rx (q _ _ _ z)
theorem sB1{f:R→Option R}{id:String}{x:Str}(hc:aa4 X (.builtin id) (rB1 G f))(hg:Gl X x)(hm:X.mg x=none)(hv:bootBuiltins x=some (.builtin id))(hn:x≠"__name__")(hdb:(x==("__debug__":Str))=false)
  (ha:PE X a (tV G X C a')) (hs:starEach [a] X.env=[(false,eval a X.env)]) (hev:∀σ s,ev C e' .v σ s=(ev C a' .v σ s).bind fun x s1=>.of (f (x.dr s1)) s1):PE X (.Call (.Name x p) [a] [] pos) (tV G X C e'):=by
 refine PE.imp (ac6 hc hg hm hv (aa2 ha aaZ hs) hn hdb hs rfl) ?_
 rintro σV H Q ⟨w₀,H₀,w,σ,s,g,h⟩
 rw[hev]at h
 obtain⟨w₀,H₀,w,σ,s,g,h⟩:=akF ⟨w₀,H₀,w,σ,s,g,h⟩
 exact⟨w₀,H₀,w,σ,s,g,h.imp fun v H1 q=>⟨v,rfl,q⟩⟩
theorem aws{f:R→Option R}{T:String}{x:Str}(hc:aa4 X (.type T) (rB1 G f))(hg:Gl X x)(hm:X.mg x=none)(hv:bootBuiltins x=some (.type T))(hn:x≠"__name__")(hdb:(x==("__debug__":Str))=false)
  (ha:PE X a (tV G X C a')) (hs:starEach [a] X.env=[(false,eval a X.env)]) (hev:∀σ s,ev C e' .v σ s=(ev C a' .v σ s).bind fun x s1=>.of (f (x.dr s1)) s1):PE X (.Call (.Name x p) [a] [] pos) (tV G X C e'):=by
 refine PE.imp (aeD hc hg hm hv (aa2 ha aaZ hs) hn hdb hs rfl) ?_
 rintro σV H Q ⟨w₀,H₀,w,σ,s,g,h⟩
 rw[hev]at h
 obtain⟨w₀,H₀,w,σ,s,g,h⟩:=akF ⟨w₀,H₀,w,σ,s,g,h⟩
 exact⟨w₀,H₀,w,σ,s,g,h.imp fun v H1 q=>⟨v,rfl,q⟩⟩
theorem map_some{α β:Type}{o:Option α}{f:α→β}{r:β}(h:o.map f=some r):∃a,o=some a∧r=f a:=by
 cases o with
 | none=>cases h
 | some a=>cases h;exact⟨a,rfl,rfl⟩
theorem at2:aa4 X (.builtin "len") (rB1 G (b1R .len)):=by
 refine aa4.imp aey ?_
 rintro xs H Q ⟨v,rfl,w,s,rx,r,S,R1,e,q⟩
 obtain⟨ts,ht,rfl⟩:=map_some e
 obtain⟨pa,vs,rfl,hp,rp⟩:=adc.sq2 R1 ht
 refine⟨pa,vs,rfl,hp.imp (fun h=>.inl h) (fun h=>SqT.of h),?_⟩
 rw[←rp.length]
 exact q w H _ (Le.refl _ _) S rfl
theorem arA:aa4 X (.builtin "abs") (rB1 G (b1R .abs)):=by
 refine aa4.imp ajE ?_
 rintro xs H Q ⟨v,rfl,w,s,rx,r,S,R1,e,q⟩
 obtain⟨i,hi,rfl⟩:=map_some e
 cases R1.int hi
 exact⟨i,rfl,q w H _ (Le.refl _ _) S rfl⟩
theorem arU:aa4 X (.type "int") (rB1 G (b1R .int)):=by
 refine aa4.imp ah9 ?_
 rintro xs H Q ⟨v,rfl,w,s,rx,r,S,R1,e,q⟩
 unfold b1R at e
 dsimp only at e
 split at e
 ·cases e;cases R1;exact .inl ⟨_,rfl,q w H _ (Le.refl _ _) S rfl⟩
 ·cases e;cases R1;exact .inr ⟨_,rfl,q w H _ (Le.refl _ _) S rfl⟩
 ·cases e
theorem apB:aa4 X (.type "list") (rB1 G (b1R .list)):=by
 refine aa4.imp acs ?_
 rintro xs H Q ⟨v,rfl,w,s,rx,r,S,R1,e,q⟩
 obtain⟨ts,ht,rfl⟩:=map_some e
 obtain⟨pa,vs,rfl,hp,rp⟩:=adc.sq2 R1 ht
 exact⟨pa,vs,rfl,hp.imp (fun h=>.inl h) (fun h=>SqT.of h),ach S rp q⟩
def rB2(G:Gx)(f:R→R→Option R):List V→Hp→VK→Prop:=fun xs H Q=>∃v u,xs=[v,u]∧r2 G f v u H Q
theorem sB2{f:R→R→Option R}{id:String}{x:Str}(hc:aa4 X (.builtin id) (rB2 G f))(hg:Gl X x)(hm:X.mg x=none)(hv:bootBuiltins x=some (.builtin id))(hn:x≠"__name__")(hdb:(x==("__debug__":Str))=false)
  (ha:PE X a (tV G X C a')) (hb:PE X b (tV G X C b')) (hs:starEach [a,b] X.env=[(false,eval a X.env),(false,eval b X.env)]) (hs2:starEach [b] X.env=[(false,eval b X.env)])
  (hev:∀σ s,ev C e' .v σ s=(ev C a' .v σ s).bind fun x s1=>(ev C b' .v σ s1).bind fun y s2=>.of (f x y) s2):PE X (.Call (.Name x p) [a,b] [] pos) (tV G X C e'):=by
 refine PE.imp (ac6 hc hg hm hv (aa2 ha (aa2 hb aaZ hs2) (by rw[hs,hs2])) hn hdb (by rw[hs,hs2]) (by rw[hs2];rfl)) ?_
 rintro σV H Q ⟨w₀,H₀,w,σ,s,g,h⟩
 rw[hev]at h
 obtain⟨w₀,H₀,w,σ,s,g,h⟩:=ajP (f:=f) ⟨w₀,H₀,w,σ,s,g,h⟩
 refine⟨w₀,H₀,w,σ,s,g,h.imp ?_⟩
 rintro v H1 ⟨w₀,H₀,w,σ,s,g,h⟩
 exact⟨w₀,H₀,w,σ,s,g,h.imp fun u H2 q=>⟨v,u,rfl,q⟩⟩
def ay0(x y:R):Option R:=do let i ←x.int?;let j ←y.int?;some (.val (.int (if j>i then j else i)))
theorem ii2{x y r:R}{g:Int→Int→R}(h:(do let i ←x.int?;let j ←y.int?;some (g i j))=some r):∃i j,x.int?=some i∧y.int?=some j∧r=g i j:=by
 cases hx:x.int? with
 | none=>rw[hx]at h;cases h
 | some i=>
  cases hy:y.int? with
  | none=>rw[hx,hy]at h;cases h
  | some j=>rw[hx,hy]at h;cases h;exact⟨i,j,rfl,rfl,rfl⟩
theorem aq5(hc:X.calm=true):aa4 X (.builtin "max") (rB2 G ay0):=by
 refine aa4.imp (aiy hc) ?_
 rintro xs H Q ⟨v,u,rfl,w,s,rx,ry,r,S,R1,R2,e,q⟩
 obtain⟨i,j,hi,hj,rfl⟩:=ii2 e
 cases R1.int hi
 cases R2.int hj
 exact⟨i,j,rfl,q w H _ (Le.refl _ _) S rfl⟩
def atQ:Ty→Option String
 | .int=>some "int" | .bool=>some "bool" | .tuple=>some "tuple" | .list=>some "list" | .str=>some "str" | .cls _=>none
theorem aqP{w:Wo}{H:Hp}{st:Sto}{x:R}{v:V}{c:Ty}{k:Bool}{n:String}(S:StoOk G w H st)(r:adc G w H x v)(hn:atQ c=some n)(h:asc x c=some k):∃t,TyOf X.K H v t∧PySem.W.kitOne X.K t (.type n)=some k:=by
 have lst:∀{a:Addr}{vs:List V},Rd H a (.lst vs)→TyOf X.K H (.ref a) (.type "list"):=fun {a vs} q=>by
  rcases q with q|⟨o,q⟩
  ·exact .lst q
  ·exact .frz q
 cases x with
 | bor ts=>
  cases c<;>first
   | (cases h;done)
   | (cases hn;done)
   | (cases h;cases hn;obtain⟨a,vs,rfl,q,_⟩:=r;exact⟨_,.lst q,by with_unfolding_all rfl⟩)
 | val t=>
  cases t<;>cases c<;>first
   | (cases h;done)
   | (cases hn;done)
   | (cases h;cases hn;cases r;exact⟨_,.int _,by with_unfolding_all rfl⟩)
   | (cases h;cases hn;cases r;exact⟨_,.bl _,by with_unfolding_all rfl⟩)
   | (cases h;cases hn;cases r;exact⟨_,.str _,by with_unfolding_all rfl⟩)
   | (cases h;cases hn;cases r;exact⟨_,.non,by with_unfolding_all rfl⟩)
   | (cases h;cases hn;obtain⟨a,vs,rfl,q,_⟩:=r;exact⟨_,.tup q,by with_unfolding_all rfl⟩)
   | (cases h;cases hn;obtain⟨a,vs,rfl,_,q,_⟩:=r;exact⟨_,lst q,by with_unfolding_all rfl⟩)
theorem amf{sub:Nat→Nat→Bool}{x:R}{c:Ty}{n:String}(hn:atQ c=some n):ael sub x c=asc x c:=by
 cases c<;>first|(cases hn;done)|(unfold ael;split<;>first|rfl|(rename_i z;cases z))
theorem aeF{c:Ty}{n:String}{y:Str}{py:Pos}(hn:atQ c=some n)(hg:Gl X "isinstance")(hm:X.mg "isinstance"=none)(hgy:Gl X y)(hmy:X.mg y=none)(hv:bootBuiltins y=some (.type n))(hy:y≠"__name__")(hdy:(y==("__debug__":Str))=false)
  (ha:PE X a (tV G X C a')) (hs:starEach [a,.Name y py] X.env=[(false,eval a X.env),(false,eval (.Name y py) X.env)]):PE X (.Call (.Name "isinstance" p) [a,.Name y py] [] pos) (tV G X C (.isi a' c)):=by
 have hc:aa4 X (.builtin "isinstance") (fun xs H Q=>∃v,xs=[v,.ty n]∧r1 G (fun x=>(ael C.sub x c).map fun k=>.val (.bl k)) v H Q):=by
  rintro pins s σ H xs us Q I rv ⟨v,rfl,w,st,rx,r,S,R1,e,q⟩
  obtain⟨u,u',rfl,r1,r2⟩:=rv.two
  cases r2
  obtain⟨k,hk,rfl⟩:=map_some e
  rw[amf hn]at hk
  obtain⟨t,ht,hk'⟩:=aqP (X:=X) S R1 hn hk
  exact ahP I r1 ht hk' fun tk=>⟨.bl k,H,I.tok tk,rfl,q w H _ (Le.refl _ _) S rfl⟩
 refine PE.imp (ac6 hc hg hm (show bootBuiltins "isinstance"=some (.builtin "isinstance")by decide +kernel) (aa2 ha (aa2 (amR (v:=.ty n) hgy hmy hv rfl hy hdy) aaZ rfl) (by rw[hs];rfl)) (by decide) (by decide) (by rw[hs];rfl) rfl) ?_
 rintro σV H Q ⟨w₀,H₀,w,σ,s,g,h⟩
 obtain⟨w₀,H₀,w,σ,s,g,h⟩:=akF (f:=fun x=>(ael C.sub x c).map fun k=>.val (.bl k)) ⟨w₀,H₀,w,σ,s,g,h⟩
 exact⟨w₀,H₀,w,σ,s,g,h.imp fun v H1 q=>⟨v,rfl,q⟩⟩
end
end IP
end
noncomputable section
namespace IP
open PySem PySem.Spec L2 PySem.SeqAt PyProof.Rows.LSm
section
variable{G:Gx}{X:Cx}
theorem adk{w:Wo}{H:Hp}:∀{ts:List T}{is:List Int}{vs:List V}{its:List Value},aaN ts=some is→aak G w H ts vs→Vals vs its→PyProof.Rows.IntsAre its is
 | [],is,vs,its,h,r,q=>by
  cases h
  cases r
  rw[Vals.zero q]
  exact .nil
 | .int i::ts,is,vs,its,h,⟨v,r,e,h1,h2⟩,q=>by
  unfold aaN at h
  obtain⟨js,hj,rfl⟩:=map_some h
  subst e
  cases h1
  cases q with
  | cons q1 q2=>
   obtain⟨t,rfl⟩:=q1
   exact .cons i t (adk hj h2 q2)
 | .non::ts,is,vs,its,h,r,q=>by simp[aaN]at h
 | .bl _::ts,is,vs,its,h,r,q=>by simp[aaN]at h
 | .str _::ts,is,vs,its,h,r,q=>by simp[aaN]at h
 | .tup _::ts,is,vs,its,h,r,q=>by simp[aaN]at h
 | .lst _::ts,is,vs,its,h,r,q=>by simp[aaN]at h
 | .loc _::ts,is,vs,its,h,r,q=>by simp[aaN]at h
 | .exc _::ts,is,vs,its,h,r,q=>by simp[aaN]at h
theorem abD{w:Wo}{H:Hp}:∀{ts:List T}{is:List Bool}{vs:List V}{its:List Value},aaG ts=some is→aak G w H ts vs→Vals vs its→BoolsAre its is
 | [],is,vs,its,h,r,q=>by
  cases h
  cases r
  rw[Vals.zero q]
  exact .nil
 | .bl i::ts,is,vs,its,h,⟨v,r,e,h1,h2⟩,q=>by
  unfold aaG at h
  obtain⟨js,hj,rfl⟩:=map_some h
  subst e
  cases h1
  cases q with
  | cons q1 q2=>
   cases q1
   exact .cons i (abD hj h2 q2)
 | .non::ts,is,vs,its,h,r,q=>by simp[aaG]at h
 | .int _::ts,is,vs,its,h,r,q=>by simp[aaG]at h
 | .str _::ts,is,vs,its,h,r,q=>by simp[aaG]at h
 | .tup _::ts,is,vs,its,h,r,q=>by simp[aaG]at h
 | .lst _::ts,is,vs,its,h,r,q=>by simp[aaG]at h
 | .loc _::ts,is,vs,its,h,r,q=>by simp[aaG]at h
 | .exc _::ts,is,vs,its,h,r,q=>by simp[aaG]at h
theorem an5{α β γ:Type}{o:Option α}{p:α→Option β}{f:α→β→Option γ}{r:γ}(h:(do let a ←o;let b ←p a;f a b)=some r):∃a b,o=some a∧p a=some b∧f a b=some r:=by
 cases ho:o with
 | none=>rw[ho]at h;cases h
 | some a=>
  rw[ho]at h
  cases hp:p a with
  | none=>simp[hp]at h
  | some b=>simp[hp]at h;exact⟨a,b,rfl,hp,h⟩
theorem au0(hc:X.calm=true):aa4 X (.builtin "any") (rB1 G (b1R .any)):=by
 rintro pins s σ H xs us Q I rv ⟨v,rfl,w,st,rx,r,S,R1,e,q⟩
 obtain⟨ts,bs,ht,hb,he⟩:=an5 (f:=fun(_:List T) (bs:List Bool)=>some (R.val (.bl (bs.any id)))) e
 cases he
 obtain⟨pa,vs,rfl,hp,rp⟩:=adc.seq (s:=st) R1 ht
 obtain⟨u,rfl,ru⟩:=rv.one
 cases ru
 obtain⟨its,q1,hl⟩:=aaF I hp
 have hB:=abD hb rp q1
 have hlt:pa<s.heap.objs.size:=by obtain⟨_,e,_⟩:=hl;exact Heap.lt_size e
 refine call_any_walk (wpAny_pyIter_list hl ?_)
 refine⟨s.heap.objs.size,[s.heap.objs.size,pa],[s.heap.objs.size],its.toArray.size,_,_,fun i=>(bs[i]?).getD false,rfl,Walks.list (A:=X.A.in1) (I.ok.hd hc) _ pa (Nat.ne_of_lt hlt) its.toArray,
  ⟨⟨_,Heap.get?_push_size _ rfl,rfl,rfl⟩,hl.push _⟩,fun i v s' Q' E' hP hQ=>?_,fun h' tk hk=>?_⟩
 ·obtain⟨b,e,rfl⟩:=hB.get i v (by simpa using hP)
  simp only[e,Option.getD_some]at hQ
  exact wpAny_truthy_bool hQ
 ·have e:((List.range its.toArray.size).any fun i=>(bs[i]?).getD false)=bs.any id:=by
   rw[List.size_toArray,hB.length];exact range_any bs
  rw[e]
  exact⟨.bl _,H,I.kept (kept_iter hk),rfl,q w H _ (Le.refl _ _) S rfl⟩
theorem aup(hc:X.calm=true):aa4 X (.builtin "all") (rB1 G (b1R .all)):=by
 rintro pins s σ H xs us Q I rv ⟨v,rfl,w,st,rx,r,S,R1,e,q⟩
 obtain⟨ts,bs,ht,hb,he⟩:=an5 (f:=fun(_:List T) (bs:List Bool)=>some (R.val (.bl (bs.all id)))) e
 cases he
 obtain⟨pa,vs,rfl,hp,rp⟩:=adc.seq (s:=st) R1 ht
 obtain⟨u,rfl,ru⟩:=rv.one
 cases ru
 obtain⟨its,q1,hl⟩:=aaF I hp
 have hB:=abD hb rp q1
 have hlt:pa<s.heap.objs.size:=by obtain⟨_,e,_⟩:=hl;exact Heap.lt_size e
 refine call_all_walk (wpAny_pyIter_list hl ?_)
 refine⟨s.heap.objs.size,[s.heap.objs.size,pa],[s.heap.objs.size],its.toArray.size,_,_,fun i=>(bs[i]?).getD true,rfl,Walks.list (A:=X.A.in1) (I.ok.hd hc) _ pa (Nat.ne_of_lt hlt) its.toArray,
  ⟨⟨_,Heap.get?_push_size _ rfl,rfl,rfl⟩,hl.push _⟩,fun i v s' Q' E' hP hQ=>?_,fun h' tk hk=>?_⟩
 ·obtain⟨b,e,rfl⟩:=hB.get i v (by simpa using hP)
  simp only[e,Option.getD_some]at hQ
  exact wpAny_truthy_bool hQ
 ·have e:((List.range its.toArray.size).all fun i=>(bs[i]?).getD true)=bs.all id:=by
   rw[List.size_toArray,hB.length];exact range_all bs
  rw[e]
  exact⟨.bl _,H,I.kept (kept_iter hk),rfl,q w H _ (Le.refl _ _) S rfl⟩
theorem acJ(x:Int):∀l:List Int,(ahq x l).Perm (x::l)
 | []=>.refl _
 | y::r=>by
  unfold ahq
  split
  ·exact .refl _
  ·exact((acJ x r).cons y).trans (.swap x y r)
theorem aje(x:Int):∀l:List Int,l.Pairwise (·≤·)→(ahq x l).Pairwise (·≤·)
 | [],_=>by simp[ahq]
 | y::r,h=>by
  unfold ahq
  obtain⟨h1,h2⟩:=List.pairwise_cons.mp h
  split
  ·rename_i hlt
   refine List.pairwise_cons.mpr ⟨fun z hz=>?_,h⟩
   rcases List.mem_cons.mp hz with e|e
   ·omega
   ·have:=h1 z e;omega
  ·rename_i hlt
   refine List.pairwise_cons.mpr ⟨fun z hz=>?_,aje x r h2⟩
   rcases List.mem_cons.mp ((acJ x r).mem_iff.mp hz)with e|e
   ·omega
   ·exact h1 z e
theorem ahf(is:List Int):(aeh is).Perm is∧(aeh is).Pairwise (·≤·):=by
 have go:∀(l acc:List Int),acc.Pairwise (·≤·)→(l.foldl (fun acc x=>ahq x acc) acc).Perm (l++acc)∧(l.foldl (fun acc x=>ahq x acc) acc).Pairwise (·≤·):=by
  intro l
  induction l with
  | nil=>intro acc h;exact⟨.refl _,h⟩
  | cons x l ih=>
   intro acc h
   obtain⟨h1,h2⟩:=ih (ahq x acc) (aje x acc h)
   refine⟨h1.trans ?_,h2⟩
   exact((acJ x acc).append_left l).trans List.perm_middle
 have:=go is [] List.Pairwise.nil
 rw[List.append_nil]at this
 exact this
theorem aco:∀{its:List Value}{ns:List Int},PyProof.Rows.IntsAre its ns→Vals (ns.map V.int) its
 | _,_,.nil=>.nil
 | _,_,.cons n t r=>.cons ⟨t,rfl⟩ (aco r)
theorem aeN(w:Wo)(H:Hp):∀ns:List Int,aak G w H (ns.map T.int) (ns.map V.int)
 | []=>rfl
 | n::r=>⟨_,_,rfl,rfl,aeN w H r⟩
theorem ajx:aa4 X (.builtin "sorted") (rB1 G (b1R .sorted)):=by
 rintro pins s σ H xs us Q I rv ⟨v,rfl,w,st,rx,r,S,R1,e,q⟩
 obtain⟨ts,is,ht,hb,he⟩:=an5 (f:=fun(_:List T) (is:List Int)=>if is.length<64 then some (R.val (.lst ((aeh is).map .int)))else none) e
 split at he
 ·rename_i h64
  cases he
  obtain⟨pa,vs,rfl,hp,rp⟩:=adc.seq (s:=st) R1 ht
  obtain⟨u,rfl,ru⟩:=rv.one
  cases ru
  obtain⟨its,q1,hl⟩:=aaF I hp
  have hI:=adk hb rp q1
  have hlen:=hI.length
  refine PyProof.Rows.sorted_ints hl hI (by omega) fun out ns' a1 a2 a3=>?_
  obtain⟨s1,s2⟩:=ahf is
  have en:ns'=aeh is:=PySem.W.ksm_same (a2.trans s1.symm) a3 s2
  subst en
  obtain⟨ee,he⟩:=PyProof.Rows.sortedAll_at s.heap its out
  have hf:H (s.heap.objs.size+1)=none:=I.hok.fresh (Nat.le_succ _)
  have hlen2:(aeh is).length≤sizeLine:=by
   rw[s1.length_eq]
   have:(64:Nat)≤sizeLine:=by decide
   omega
  refine⟨.ref (s.heap.objs.size+1),upd H (s.heap.objs.size+1) (.lst ((aeh is).map V.int)),I.laid (t':=s.toks) (fun b u e=>PyProof.Rows.sortedAll_old e) (Nat.le_succ _) ?_,rfl,ach S (aeN w H _) q _ hf⟩
  refine⟨by rw[List.length_map];exact hlen2,out.toList,ee,aco a1,?_⟩
  rw[he]
 ·cases he
end
end IP
end
noncomputable section
namespace IP
open PySem PySem.Spec L2
def CXE(G:Gx)(P:Program)(w:World)(base:Heap):CXT:=fun outer H s E e s'=>
 ∃(a:Addr) (cls t:Value) (H':Hp) (h B:Heap),e=.ref a∧s'.os=s.os∧PyProof.Rows.AllBare s'.gens∧Un (frs outer) [] H H' s.heap h∧HOk P w H' h∧Flt outer h B a s'.heap∧base.StaysIn B∧Heap.FlyingW B outer a cls t s'.heap∧E cls none H'
section
variable{G:Gx}{X:Cx}{C:Cf}{k:Nat}{f fa:Addr}{fd:FuncData}{ps:List Str}{sp:Sp}{dvs:List V}{ds:List Value}{E:XK}
theorem Inv.after'{pins:List (Addr×Obj)}{σ:St}{H H':Hp}{s s':Shared}(I:Inv X pins σ H s)(os:s'.os=s.os)(bare:PyProof.Rows.AllBare s'.gens)(un:Un (frs X.stack) [] H H' s.heap s'.heap)(hok:HOk X.prog X.w H' s'.heap):Inv X pins σ H' s':=by
 obtain⟨hh,g,d,t,os'⟩:=s'
 obtain rfl:os'=s.os:=os
 exact I.call (h':=hh) (g':=g) (d':=d) (t':=t) (ch:=[]) un hok bare (fun b z=>absurd z (by simp))
theorem acB{CX:CXT}{pins:List (Addr×Obj)}{σ:St}{H:Hp}{s:Shared}{Q:VK}{us:List Value}{vs:List V}(F:FnOk X.prog X.w X.K X.mg X.base CX k f fd ps sp)(hr:Room k X.A)(hb:Binds X.K fd ps ds)(hd:Vals dvs ds)
  (I:Inv X pins σ H s) (r:Vals vs us) (h:sp (vs++dvs) H Q E) (hx:∀e s',CX X.stack H s E e s'→X.xe e s'):wpAny (model X.prog X.w) X.A (call (.ref f) us) (EP X pins σ Q) X.xe s:=by
 have r2:Vals (vs++dvs) (us++ds):=r.append hd
 have hl:(us++ds).length=ps.length:=by rw[←r2.length];exact F.len _ _ _ _ h
 refine wpAny_call (codeAny_mono (F.run X.A X.stack s H ⟨us,[]⟩ (us++ds) (vs++dvs) Q E hr I.env0 (hb s us I.kIn hl) r2 h) fun r s' hq=>?_)
 cases r with
 | error e=>exact hx e s' hq
 | ok fl=>
  cases fl with
  | ret u=>exact I.after hq
  | next=>exact False.elim hq
  | brk=>exact False.elim hq
  | cont=>exact False.elim hq
def EX(G:Gx)(X:Cx)(σV:St):XK:=fun cls _ H'=>∀pins u sh h B a t,u=.ref a→Inv X pins σV H' { sh with heap:=h }→Flt X.stack h B a sh.heap→X.base.StaysIn B→Heap.FlyingW B X.stack a cls t sh.heap→X.xe u sh
theorem abh{pins:List (Addr×Obj)}{σ:St}{H:Hp}{s:Shared}(I:Inv X pins σ H s)(e:Value)(s':Shared)(h:CXE G X.prog X.w X.base X.stack H s (EX G X σ) e s'):X.xe e s':=by
 obtain⟨a,cls,t,H',hh,B,rfl,os,bare,un,hok,fl,sb,fly,q⟩:=h
 exact q pins (.ref a) s' hh B a t rfl (Inv.after' (s':={ s' with heap:=hh }) I os bare un hok) fl sb fly
theorem aa9{w:Wo}{H:Hp}:∀{rs qs:List R}{vs us:List V},aaP G w H rs vs→aaP G w H qs us→aaP G w H (rs++qs) (vs++us)
 | [],qs,_,us,h,q=>by rw[h];exact q
 | t::ts,qs,_,us,⟨v,r,e,h,k⟩,q=>by subst e;exact⟨v,r++us,rfl,h,aa9 k q⟩
def cstV:T→Option V
 | .non=>some .non | .bl b=>some (.bl b) | .int i=>some (.int i) | .str x=>some (.str x) | _=>none
theorem abj{w:Wo}{H:Hp}:∀{ts:List T}{vs:List V},ts.mapM cstV=some vs→aaP G w H (ts.map R.val) vs
 | [],vs,h=>by cases h;exact rfl
 | t::ts,vs,h=>by
  rw[List.mapM_cons]at h
  cases e:cstV t with
  | none=>simp[e]at h
  | some v=>
   cases e2:ts.mapM cstV with
   | none=>simp[e,e2]at h
   | some us=>
    simp[e,e2]at h
    subst h
    refine⟨v,us,rfl,?_,abj e2⟩
    cases t<;>cases e<;>exact rfl
variable{es:List Expr}{es':List IP.E}{e₀:Expr}{fi:Nat}{x:Str}{p pos:Pos}{dts:List T}
theorem ack{w:Wo}{H:Hp}{σV:St}{m:Res (List R)}{k:List R→Sto→Res R}{Q:VK}(h:aa0 G X σV w H (m.bind k) Q):aiv G X σV w H m fun vs H1=>∃w1 rs s1,Le w w1 H H1∧StoOk G w1 H1 s1∧aaP G w1 H1 rs vs∧aa0 G X σV w H (k rs s1) Q:=by
 cases m with
 | stuck=>exact h
 | ok rs s=>exact fun w' H' vs a b c=>⟨w',rs,s,a,b,c,h⟩
 | exc c s=>exact h
end
def clo(cells:List (Str×Addr)):List (Str×NameKind)→List (Str×Addr)→List (Str×Addr)
 | [],acc=>acc
 | (n,k)::r,acc=>clo cells r (if k==.free then(match cells.lookup n with|some c=>(n,c)::acc|none=>acc)else acc)
theorem aho(scope:Scope)(env:Env)(h:∀x∈scope.names,x.2=.free→∃c,env.cells.lookup x.1=some c):closureFor scope env=pure (clo env.cells scope.names []):=by
 unfold closureFor
 generalize ([]:List (Str×Addr))=acc
 obtain⟨k,names,a,b,c⟩:=scope
 simp only at h ⊢
 induction names generalizing acc with
 | nil=>rfl
 | cons x r ih=>
  obtain⟨n,k⟩:=x
  have ih:=fun acc=>ih acc (fun y hy=>h y (List.mem_cons_of_mem _ hy))
  simp only[List.forIn_cons,clo]
  by_cases hk:(k==NameKind.free)=true
  ·have hk':k=.free:=by simpa using hk
   obtain⟨c,hc⟩:=h (n,k) (List.mem_cons_self ..) hk'
   have hc:List.lookup n env.cells=some c:=hc
   simp only[hk,if_true,cellOf,hc,pure_bind]
   exact ih _
  ·simp only[Bool.not_eq_true]at hk
   simp only[hk,Bool.false_eq_true,if_false,pure_bind]
   exact ih _
theorem afE(cells:List (Str×Addr)):∀(names:List (Str×NameKind)) (acc:List (Str×Addr)),(∀x c,acc.lookup x=some c→cells.lookup x=some c)→∀x c,(clo cells names acc).lookup x=some c→cells.lookup x=some c
 | [],acc,h,x,c,e=>h x c e
 | (n,k)::r,acc,h,x,c,e=>by
  refine afE cells r _ (fun y d q=>?_) x c e
  split at q
  ·split at q
   ·rename_i d' hd
    rw[List.lookup_cons]at q
    split at q
    ·rename_i hyn
     have:y=n:=by simpa using hyn
     subst this
     cases q
     exact hd
    ·exact h y d q
   ·exact h y d q
  ·exact h y d q
theorem agq(cells:List (Str×Addr)):∀(names:List (Str×NameKind)) (acc:List (Str×Addr)) (x:Str),(∃c,acc.lookup x=some c)→∃c,(clo cells names acc).lookup x=some c
 | [],acc,x,h=>h
 | (n,k)::r,acc,x,h=>by
  refine agq cells r _ x ?_
  split
  ·split
   ·rename_i d' hd
    rw[List.lookup_cons]
    split
    ·exact⟨_,rfl⟩
    ·exact h
   ·exact h
  ·exact h
theorem af3(cells:List (Str×Addr)):∀(names:List (Str×NameKind)) (acc:List (Str×Addr)) (x:Str),(x,NameKind.free)∈names→(∃c,cells.lookup x=some c)→∃c,(clo cells names acc).lookup x=some c
 | [],acc,x,h,_=>by simp at h
 | (n,k)::r,acc,x,h,hc=>by
  rcases List.mem_cons.mp h with e|e
  ·cases e
   obtain⟨c,hc⟩:=hc
   refine agq cells r _ _ ?_
   simp[hc]
  ·exact af3 cells r _ x e hc
theorem acm{α:Type}:∀{l:List (Str×α)}{x:Str}{a:α},l.lookup x=some a→(x,a)∈l
 | [],x,a,h=>by simp at h
 | (y,b)::r,x,a,h=>by
  rw[List.lookup_cons]at h
  split at h
  ·rename_i e
   have:x=y:=by simpa using e
   subst this
   cases h
   exact List.mem_cons_self ..
  ·exact List.mem_cons_of_mem _ (acm h)
theorem acq(scope:Scope)(env:Env)(x:Str)(k:NameKind)(h:(relabel scope env).names.lookup x=some k):∃k',(x,k')∈scope.names∧((k=.cell∨k=.free)→k'=.cell∨k'=.free)∧(k=.local→k'=.local):=by
 have h:=acm h
 unfold relabel at h
 obtain⟨⟨n,k'⟩,hm,e⟩:=List.mem_map.mp h
 dsimp only at e
 split at e
 ·rename_i hc
  cases e
  have:k'=.free:=by
   have:=(Bool.and_eq_true _ _).mp hc
   have:=(Bool.and_eq_true _ _).mp this.1
   simpa using this.1
  exact⟨k',hm,fun _=>.inr this,fun z=>by cases z⟩
 ·cases e
  exact⟨_,hm,fun z=>z,fun z=>z⟩
section
variable{X:Cx}
def cxC(X:Cx)(N':List Str)(scope:Scope)(C:Addr)(fp:List Addr)(s2:Shared)(H2:Hp)(xe:Value→Shared→Prop):Cx:=
 { X with N:=N',s₀:=s2,H₀:=H2,env:=compEnvC scope (clo X.env.cells scope.names []) C X.env,outer:=X.stack,ex:=fp,fn:=fun _=>false,pn:=[],xe:=xe }
structure CompN(X:Cx)(scope:Scope)(N':List Str)(js:List Nat):Prop where
 kind:scope.kind=.function
 nocell:∀x∈scope.names,x.2≠.cell
 free:∀x∈scope.names,x.2=.free→X.env.kindOf x.1=some .cell∨X.env.kindOf x.1=some .free
 len:N'.length=X.N.length
 nd:N'.Nodup
 same:∀(i:Nat) (x:Str),N'[i]?=some x→i∉js→Vis (relabel scope X.env) x→X.N[i]?=some x∧(x,NameKind.free)∈scope.names∧((relabel scope X.env).names.lookup x=some .cell∨(relabel scope X.env).names.lookup x=some .free)
 locs:∀x∈scope.names,x.2=.local→scope.names.lookup x.1=some .local
def clr(σ:St)(js:List Nat):St:=js.foldl (fun σ j=>σ.set j none) σ
theorem aiI(js:List Nat):∀σ:St,(clr σ js).length=σ.length:=by
 induction js with
 | nil=>intro σ;rfl
 | cons j js ih=>intro σ;show(clr (σ.set j none) js).length=_;rw[ih];simp
theorem ahQ(js:List Nat):∀(σ:St) (i:Nat) (v:V),(clr σ js)[i]?=some (some v)→σ[i]?=some (some v)∧i∉js:=by
 induction js with
 | nil=>intro σ i v h;exact⟨h,by simp⟩
 | cons j js ih=>
  intro σ i v h
  obtain⟨h1,h2⟩:=ih (σ.set j none) i v h
  by_cases e:j=i
  ·subst e
   rw[List.getElem?_set_self']at h1
   cases hq:σ[j]? with
   | none=>rw[hq]at h1;cases h1
   | some q=>rw[hq]at h1;cases h1
  ·rw[List.getElem?_set_ne e]at h1
   exact⟨h1,by simp[h2];exact fun z=>e z.symm⟩
theorem anh{pins:List (Addr×Obj)}{σ:St}{H:Hp}{s:Shared}{scope:Scope}{N':List Str}{js:List Nat}{fp:List Addr}{h4:Heap}{tk:Nat}{xe:Value→Shared→Prop}(hN:CompN X scope N' js)(I:Inv X pins σ H s)(hfp:∀b∈fp,aeb X pins H b)(hfo:∀b∈fp,∃o,s.heap.get? b=some o)
  (hns:h4.Ns s.heap.objs.size (fun _=>none)) (hk:∀b o,s.heap.get? b=some o→h4.get? b=some o):
  Inv (cxC X N' scope s.heap.objs.size fp s H xe) [] (clr σ js) H { s with heap:=h4,toks:=tk }:=by
 have hlt:∀{b:Addr}{o:Obj},s.heap.get? b=some o→b≠s.heap.objs.size:=fun e=>Nat.ne_of_lt (Heap.lt_size e)
 have hsubc:=afE X.env.cells scope.names [] (fun x c z=>by simp at z)
 have clt:∀x c,(clo X.env.cells scope.names []).lookup x=some c→c≠s.heap.objs.size:=fun x c e=>by
  obtain⟨v,hv⟩:=I.cell x c (hsubc x c e)
  obtain⟨o,ho,_⟩:=hv
  exact hlt ho
 have hkin:∀x:Str,(relabel scope X.env).names.lookup x=some .cell∨(relabel scope X.env).names.lookup x=some .free→(x,NameKind.free)∈scope.names:=fun x hx=>by
  have:∃k',(x,k')∈scope.names∧(k'=.cell∨k'=.free):=by
   rcases hx with hx|hx
   ·obtain⟨k',h1,h2,_⟩:=acq _ _ _ _ hx;exact⟨k',h1,h2 (.inl rfl)⟩
   ·obtain⟨k',h1,h2,_⟩:=acq _ _ _ _ hx;exact⟨k',h1,h2 (.inr rfl)⟩
  obtain⟨k',h1,h2⟩:=this
  rcases h2 with rfl|rfl
  ·exact absurd rfl (hN.nocell _ h1)
  ·exact h1
 have afB:∀x:Str,(x,NameKind.free)∈scope.names→∃c,X.env.cells.lookup x=some c:=fun x hx=>I.ok.has x (hN.free (x,.free) hx rfl)
 have hstk:∀b∈frs X.stack,b∈X.env.locals::X.fs:=I.stkSub
 refine⟨⟨I.ok.mod,hN.kind,I.ok.glob,I.ok.blt,Nat.le_refl _,fun x y c h1 h2=>I.ok.inj x y c (hsubc _ _ h1) (hsubc _ _ h2),fun x hx=>?_,fun x c h _=>(Bool.noConfusion (show false=true from h)),I.ok.hd,I.ok.frames,.inl rfl,fun b hb=>?_,I.bs,Nat.le_trans I.ok.bsz I.sz,fun b o e hb=>?_,fun b hb hf=>?_,I.stack,I.stkFree⟩,
  rfl,I.bare,Un.kept hk,⟨_,hns,fun i x v h1 h2 h3=>?_⟩,fun x c h=>?_,I.hok.fresh (Nat.le_refl _),fun x c h=>I.freeC x c (hsubc _ _ h),fun p hp=>absurd (show p∈([]:List (Addr×Obj))from hp) (by simp),I.hok.kept hk,?_⟩
 ·exact af3 X.env.cells scope.names [] x (hkin x hx) (afB x (hkin x hx))
 ·obtain⟨f0,f1,f2,f3,f4,f5⟩:=hfp b hb
  refine⟨fun z=>?_,fun x c e z=>f4 x c (hsubc _ _ e) z⟩
  obtain⟨o,ho⟩:=hfo b hb
  exact hlt ho z
 ·have:=I.bs b o e
  obtain⟨f0,f1,f2,f3,f4,f5⟩:=hfp b hb
  rcases f3 with f3|f3
  ·exact I.ok.noex b o e f3
  ·exact absurd (Nat.lt_of_lt_of_le (Heap.lt_size (I.ok.bs b o e).1) f3) (Nat.lt_irrefl _)
 ·obtain⟨f0,f1,f2,f3,f4,f5⟩:=hfp b hb
  rcases List.mem_cons.mp (hstk b hf)with z|z
  ·exact f1 z
  ·exact f2 z
 ·obtain⟨h2',hj⟩:=ahQ js σ i v h2
  obtain⟨q1,q2,q3⟩:=hN.same i x h1 hj h3
  obtain⟨m,hm,hl⟩:=I.loc
  have hkx:=hN.free (x,.free) q2 rfl
  obtain⟨u,ru,lk⟩:=hl i x v q1 h2' (.inr hkx)
  refine⟨u,ru,.inr ⟨q3,?_⟩⟩
  ·rcases lk with⟨k1,_⟩|⟨_,c,hc,ic⟩
   ·rcases hkx with z|z<;>(rw[z]at k1;cases k1)
   ·obtain⟨c',hc'⟩:=af3 X.env.cells scope.names [] x q2 ⟨c,hc⟩
    have:=hsubc _ _ hc'
    rw[hc]at this
    cases this
    exact⟨c,hc',ic.keeps hk⟩
 ·obtain⟨v,hv⟩:=I.cell x c (hsubc x c h)
  exact⟨v,hv.keeps hk⟩
 ·rw[aiI,I.len]
  exact hN.len.symm
end
section
variable{G:Gx}{w:Wo}{H H₀:Hp}
mutual
theorem Rep.upd{a:Addr}{xs ys:List V}(ha:H a=some (.lst xs))(hz:¬w.Z a):∀(t:T) (v:V),Rep G w H t v→Rep G w (L2.upd H a (.lst ys)) t v
 | .non,v,h=>h
 | .bl b,v,h=>h
 | .int i,v,h=>h
 | .str x,v,h=>h
 | .tup ts,v,⟨p,vs,e,h,r⟩=>⟨p,vs,e,by rw[aah (akn h ha (by intro z;cases z))];exact h,aak.upd ha hz ts vs r⟩
 | .lst ts,v,⟨p,vs,e,z,h,r⟩=>by
  have ne:p≠a:=fun q=>hz (q▸z)
  refine⟨p,vs,e,z,?_,aak.upd ha hz ts vs r⟩
  rcases h with h|⟨o,h⟩
  ·exact .inl (by rw[aah ne];exact h)
  ·exact .inr ⟨o,by rw[aah ne];exact h⟩
 | .loc l,v,h=>h
 | .exc c,v,⟨p,e,h⟩=>⟨p,e,by rw[aah (akn h ha (by intro z;cases z))];exact h⟩
theorem aak.upd{a:Addr}{xs ys:List V}(ha:H a=some (.lst xs))(hz:¬w.Z a):∀(ts:List T) (vs:List V),aak G w H ts vs→aak G w (L2.upd H a (.lst ys)) ts vs
 | [],vs,h=>h
 | t::ts,vs,⟨v,r,e,h,q⟩=>⟨v,r,e,Rep.upd ha hz t v h,aak.upd ha hz ts r q⟩
end
mutual
theorem Rep.zmono{w':Wo}(hn:w'.n=w.n)(hio:w'.io=w.io)(hz:∀a,w.Z a→w'.Z a):∀(t:T) (v:V),Rep G w H t v→Rep G w' H t v
 | .non,v,h=>h
 | .bl b,v,h=>h
 | .int i,v,h=>h
 | .str x,v,h=>h
 | .tup ts,v,⟨p,vs,e,h,r⟩=>⟨p,vs,e,h,aak.zmono hn hio hz ts vs r⟩
 | .lst ts,v,⟨p,vs,e,z,h,r⟩=>⟨p,vs,e,hz _ z,h,aak.zmono hn hio hz ts vs r⟩
 | .loc l,v,⟨h,e⟩=>⟨by rw[hn];exact h,by rw[hio];exact e⟩
 | .exc c,v,h=>h
theorem aak.zmono{w':Wo}(hn:w'.n=w.n)(hio:w'.io=w.io)(hz:∀a,w.Z a→w'.Z a):∀(ts:List T) (vs:List V),aak G w H ts vs→aak G w' H ts vs
 | [],vs,h=>h
 | t::ts,vs,⟨v,r,e,h,q⟩=>⟨v,r,e,Rep.zmono hn hio hz t v h,aak.zmono hn hio hz ts r q⟩
end
theorem StoOk.upd{s:Sto}{a:Addr}{xs ys:List V}(S:StoOk G w H s)(ha:H a=some (.lst xs))(hz:¬w.Z a)(hl:IP.notLoc w a):StoOk G w (L2.upd H a (.lst ys)) s where
 len:=S.len
 inj:=S.inj
 nz:=S.nz
 cell:=fun l c e=>by
  have h:l<w.n:=by rw[←S.len];exact(List.getElem?_eq_some_iff.mp e).1
  have q:=S.cell l c e
  have ne:w.io l≠a:=fun z=>hl l h z.symm
  cases c with
  | lst ts=>obtain⟨vs,q1,q2⟩:=q;exact⟨vs,by rw[aah ne];exact q1,aak.upd ha hz ts vs q2⟩
  | ins c fs=>obtain⟨dx,kvs,q1,q2,q3⟩:=q;exact⟨dx,kvs,by rw[aah ne];exact q1,q2,fun i x t h1 h2=>let ⟨v,z1,z2⟩:=q3 i x t h1 h2;⟨v,z1,Rep.upd ha hz t v z2⟩⟩
  | tbl k p q'=>obtain⟨q0,ps,q1,q2,q3⟩:=q;exact⟨q0,ps,by rw[aah ne];exact q1,q2,fun cv hcv=>let ⟨c,e1,e2⟩:=q3 cv hcv;⟨c,e1,by rw[aah (akn e2 ha (by intro z;cases z))];exact e2⟩⟩
 zt:=fun p z=>by
  obtain⟨vs,r⟩:=S.zt p z
  have ne:p≠a:=fun q=>hz (q▸z)
  rcases r with r|⟨o,r⟩
  ·exact⟨vs,.inl (by rw[aah ne];exact r)⟩
  ·exact⟨vs,.inr ⟨o,by rw[aah ne];exact r⟩⟩
theorem StoOk.addZ{s:Sto}{a:Addr}{xs:List V}(S:StoOk G w H s)(ha:H a=some (.lst xs))(hl:IP.notLoc w a):StoOk G (w.addZ a) H s where
 len:=S.len
 inj:=S.inj
 nz:=fun l h z=>z.elim (S.nz l h) fun q=>hl l h q.symm
 cell:=fun l c e=>by
  have q:=S.cell l c e
  cases c with
  | lst ts=>obtain⟨vs,q1,q2⟩:=q;exact⟨vs,q1,aak.zmono (w:=w) (w':=w.addZ a) rfl rfl (fun _ z=>.inl z) ts vs q2⟩
  | ins c fs=>obtain⟨dx,kvs,q1,q2,q3⟩:=q;exact⟨dx,kvs,q1,q2,fun i x t h1 h2=>let ⟨v,z1,z2⟩:=q3 i x t h1 h2;⟨v,z1,Rep.zmono (w:=w) (w':=w.addZ a) rfl rfl (fun _ z=>.inl z) t v z2⟩⟩
  | tbl k p q'=>exact q
 zt:=fun p z=>z.elim (S.zt p) fun q=>⟨xs,.inl (by rw[q];exact ha)⟩
theorem Le.updNew{w':Wo}{H':Hp}{a:Addr}{o:HO}(L:Le w w' H H')(ha:H a=none)(hs:H' a≠none):Le w w' H (L2.upd H' a o)where
 n:=L.n
 io:=L.io
 Z:=L.Z
 keep:=fun p q e nl=>by rw[aah (abV e ha)];exact L.keep p q e nl
 newL:=L.newL
 newZ:=L.newZ
 some_:=fun p z=>by
  by_cases e:p=a
  ·subst e;exact absurd ha z
  ·rw[aah e];exact L.some_ p z
theorem Le.addZ{w':Wo}{H':Hp}{a:Addr}(L:Le w w' H H')(ha:H a=none):Le w (w'.addZ a) H H' where
 n:=L.n
 io:=L.io
 Z:=fun p z=>.inl (L.Z p z)
 keep:=L.keep
 newL:=L.newL
 newZ:=fun p z=>z.elim (L.newZ p) fun q=>.inr (q▸ha)
 some_:=L.some_
theorem aly{X:Cx}{σV:St}{res:Res R}{Q:VK}(hv:∀r s,res=.ok r s→∃ts,r=.val (.lst ts))(h:aa0 G X σV w H res Q):aa7 G X σV w H res Q:=by
 cases res with
 | stuck=>exact h
 | exc c s=>exact h
 | ok r s=>
  obtain⟨ts,rfl⟩:=hv r s rfl
  intro w' H' a vs L S ha r hn nz nl
  exact h (w'.addZ a) H' (.ref a) (L.addZ hn) (S.addZ ha nl) ⟨a,vs,rfl,.inr rfl,.inl ha,aak.zmono (w:=w') (w':=w'.addZ a) rfl rfl (fun _ z=>.inl z) ts vs r⟩
theorem FrOk.put{σ:Fr}{σV:St}{i:Nat}{t:T}{v:V}(F:FrOk G w H H₀ σ σV)(r:Rep G w H t v):FrOk G w H H₀ (put σ i t) (σV.set i (some v))where
 len:=by unfold IP.put;simp[F.len]
 val:=fun j u e=>by
  unfold IP.put at e
  by_cases hj:i=j
  ·subst hj
   have hlt:i<σ.length:=by
    have:=(List.getElem?_eq_some_iff.mp e).1
    simpa using this
   rw[List.getElem?_set_self hlt]at e
   cases e
   exact⟨v,by rw[List.getElem?_set_self (by rw[←F.len];exact hlt)],r⟩
  ·rw[List.getElem?_set_ne hj]at e
   obtain⟨x,h1,h2⟩:=F.val j u e
   exact⟨x,by rw[List.getElem?_set_ne hj];exact h1,h2⟩
 own:=fun j b ts e eb=>by
  unfold IP.put at e
  by_cases hj:i=j
  ·subst hj
   have hlt:i<σ.length:=by
    have:=(List.getElem?_eq_some_iff.mp e).1
    simpa using this
   rw[List.getElem?_set_self hlt]at e
   cases e
   cases eb
  ·rw[List.getElem?_set_ne hj]at e
   obtain⟨a,vs,h1,h2⟩:=F.own j b ts e eb
   exact⟨a,vs,by rw[List.getElem?_set_ne hj];exact h1,h2⟩
 apart:=fun j k b c ts us a hjk e1 eb e2 ec e3 e4=>by
  unfold IP.put at e1 e2
  have nj:i≠j:=fun q=>by
   subst q
   have hlt:i<σ.length:=by
    have:=(List.getElem?_eq_some_iff.mp e1).1
    simpa using this
   rw[List.getElem?_set_self hlt]at e1
   cases e1
   cases eb
  have nk:i≠k:=fun q=>by
   subst q
   have hlt:i<σ.length:=by
    have:=(List.getElem?_eq_some_iff.mp e2).1
    simpa using this
   rw[List.getElem?_set_self hlt]at e2
   cases e2
   cases ec
  rw[List.getElem?_set_ne nj]at e1 e3
  rw[List.getElem?_set_ne nk]at e2 e4
  exact F.apart j k b c ts us a hjk e1 eb e2 ec e3 e4
 bor:=fun j ts e=>by
  unfold IP.put at e
  by_cases hj:i=j
  ·subst hj
   have hlt:i<σ.length:=by
    have:=(List.getElem?_eq_some_iff.mp e).1
    simpa using this
   rw[List.getElem?_set_self hlt]at e
   cases e
  ·rw[List.getElem?_set_ne hj]at e
   obtain⟨a,vs,h1,h2⟩:=F.bor j ts e
   exact⟨a,vs,by rw[List.getElem?_set_ne hj];exact h1,h2⟩
def aaX(σV:St):List Nat→List V→St
 | [],_=>σV
 | _,[]=>σV
 | i::is,v::vs=>aaX (σV.set i (some v)) is vs
theorem aeO:∀(is:List Nat) (vs:List V) (σV:St),(aaX σV is vs).length=σV.length
 | [],_,σV=>rfl
 | i::is,[],σV=>rfl
 | i::is,v::vs,σV=>by show(aaX (σV.set i (some v)) is vs).length=_;rw[aeO is vs];simp
theorem FrOk.puts:∀{is:List Nat}{ts:List T}{vs:List V}{σ σ':Fr}{σV:St},FrOk G w H H₀ σ σV→aak G w H ts vs→IP.puts σ is ts=some σ'→FrOk G w H H₀ σ' (aaX σV is vs)
 | [],[],vs,σ,σ',σV,F,r,h=>by cases h;exact F
 | [],_::_,vs,σ,σ',σV,F,r,h=>by cases h
 | _::_,[],vs,σ,σ',σV,F,r,h=>by cases h
 | i::is,t::ts,_,σ,σ',σV,F,⟨v,r,e,h1,h2⟩,h=>by
  subst e
  have z:=FrOk.puts (is:=is) (ts:=ts) (vs:=r) (σ':=σ') (F.put (i:=i) h1) h2 h
  exact z
theorem ajo{σV:St}{i j:Nat}{x y:Option V}(h:i≠j):(σV.set i x).set j y=(σV.set j y).set i x:=List.set_comm x y h
theorem afy{σV:St}{j:Nat}{x:Option V}:∀{js:List Nat},j∉js→clr (σV.set j x) js=(clr σV js).set j x
 | [],_=>rfl
 | k::js,h=>by
  show clr ((σV.set j x).set k none) js=(clr (σV.set k none) js).set j x
  rw[ajo (fun q=>h (by simp[q]))]
  exact afy (σV:=σV.set k none) fun q=>h (List.mem_cons_of_mem _ q)
theorem aeP:∀{js:List Nat}{vs:List V}{σV:St},js.Nodup→js.length=vs.length→aaX (clr σV js) js vs=aaX σV js vs
 | [],[],σV,_,_=>rfl
 | j::js,v::vs,σV,hn,hl=>by
  obtain⟨h1,h2⟩:=List.nodup_cons.mp hn
  show aaX ((clr (σV.set j none) js).set j (some v)) js vs=aaX (σV.set j (some v)) js vs
  rw[afy h1,List.set_set,←afy h1]
  exact aeP h2 (by simpa using hl)
 | j::js,[],σV,hn,hl=>by simp at hl
 | [],_::_,σV,hn,hl=>by simp at hl
end
section
variable{prog:Program}{w:World}{A:Around}{E:Value→Shared→Prop}{s:Shared}
theorem ag5{it l:Addr}{items:Array Value}(hne:l≠it):∀(n i:Nat) (s:Shared) (Q:List Value→Shared→Prop),s.heap.IsListIter it l i→s.heap.IsList l items→i+n≤items.size→
  (∀h',h'.IsListIter it l (i+n)→Heap.SameBut it s.heap h'→Q ((items.toList.drop i).take n) { s with heap:=h' })→wpAny (model prog w) A (draw (.ref it) n) Q E s
 | 0,i,s,Q,hit,_,_,hQ=>by
  show wpAny _ _ (pure []) Q E s
  exact wpAny_pure (by simpa using hQ s.heap hit (Heap.SameBut.refl ..))
 | n+1,i,s,Q,hit,ht,hle,hQ=>by
  have hlt:i<items.size:=by omega
  show wpAny _ _ (pyNext (.ref it) >>= _) Q E s
  refine wpAny_bind (wpAny_pyNext_list_item hit ht (x:=items[i]) (by simp[hlt]) fun h₁ hit₁ hs₁=>?_)
  refine wpAny_bind (wpAny_holding (ag5 hne n (i+1) _ _ hit₁ (ht.extBut hs₁.extBut hne) (by omega) fun h₂ hit₂ hs₂=>wpAny_pure ?_))
  have hd:items.toList.drop i=items[i]::items.toList.drop (i+1):=by simp[List.drop_eq_getElem_cons,hlt]
  have:=hQ h₂ (by rw[show i+(n+1)=i+1+n by omega];exact hit₂) (hs₁.trans hs₂)
  rw[hd,List.take_succ_cons]at this
  exact this
theorem acK{l:Addr}{items:Array Value}{Q:List Value→Shared→Prop}(hh:A.handled=none)(ht:s.heap.IsList l items)
  (hQ:∀h',Heap.ExtBut s.heap.objs.size s.heap h'→Q items.toList { s with heap:=h' }):wpAny (model prog w) A (unpackItems (.ref l) items.size none) Q E s:=by
 have hlt:l≠s.heap.objs.size:=by obtain⟨o,ho,_⟩:=ht;exact Nat.ne_of_lt (Heap.lt_size ho)
 unfold unpackItems
 refine wpAny_bind ?_
 ·unfold notIterableAtAll
  refine wpAny_bind (wpAny_specialOf ht.typeIs slot_list_iter.lookup ?_)
  refine wpAny_pure ?_
  simp only[Bool.false_eq_true,if_false]
  refine wpAny_bind (wpAny_holding (wpAny_pyIter_list ht ?_))
  have ht0:(s.heap.push { cls:=.type "list_iterator",data:=.fields #[.ref l,.int 0 0] }).IsList l items:=ht.extBut (b:=s.heap.objs.size) (fun b o _ e=>Heap.get?_push_of_some _ e) hlt
  refine wpAny_bind (wpAny_holding (ag5 hlt items.size 0 _ _ ⟨_,Heap.get?_push_size _ rfl,rfl,rfl⟩ ht0 (by omega) fun h₁ hit₁ hs₁=>?_))
  have hall:List.take items.size (List.drop 0 items.toList)=items.toList:=by
   rw[List.drop_zero];exact List.take_of_length_le (by simp)
  rw[hall]
  rw[if_neg (by simp)]
  have ht₁:h₁.IsList l items:=ht0.extBut hs₁.extBut hlt
  refine wpAny_bind (wpAny_holding (wpAny_pyNext_list_end hh hit₁ ht₁ (by simp) fun h₂ he₂=>?_))
  simp only[Option.isSome_none,Bool.false_eq_true,if_false]
  refine wpAny_pure (hQ h₂ fun b o hb e=>he₂ b o hb (hs₁.extBut b o hb (Heap.get?_push_of_some _ e)))
theorem acx{env:Env}{elts:List Expr}{x1}{pos:Pos}{l:Addr}{items:Array Value}{Q:Unit→Shared→Prop}(hh:A.handled=none)(ht:s.heap.IsList l items)
  (hn:(assignEach elts env).length=items.size) (hstar:(assignEach elts env).findIdx? (·.1)=none)
  (h:∀h',Heap.ExtBut s.heap.objs.size s.heap h'→wpAny (model prog w) A (assignInOrder ((assignEach elts env).map (·.2)) items.toList) Q E { s with heap:=h' }):
  wpAny (model prog w) A (assign (.Tuple elts x1 pos) env (.ref l)) Q E s:=by
 rw[PyProof.Rows.assign_Tuple]
 refine wpAny_bind (wpAny_standAt ?_)
 unfold unpack
 rw[hn,hstar]
 exact wpAny_bind (wpAny_holding (acK hh ht h))
end
section
variable{X:Cx}
theorem aor{es:List Expr}{k:Nat}{t:TGs}{n:Nat}{pos:Pos}(hc:X.calm=true)(h:PGs X es t)(hn:(assignEach es X.env).length=n)(hst:(assignEach es X.env).findIdx? (·.1)=none):
  PG X (.Tuple es k pos) (fun v σ H Q=>∃a xs,v=.ref a∧Rd H a (.lst xs)∧xs.length=n∧t xs σ H Q):=by
 intro pins s σ H v u Q I r hw
 obtain⟨a,xs,e1,hq,hl,hw⟩:=hw
 subst e1
 cases r
 obtain⟨its,rv,p⟩:=aaF I hq
 refine acx (I.ok.hd hc) p (by simp[hn,←hl,rv.length]) hst fun h' hx=>?_
 have I1:Inv X pins σ H { s with heap:=h' }:=I.kept (t':=s.toks) fun b o e=>hx b o (Nat.ne_of_lt (Heap.lt_size e)) e
 exact h pins _ σ H xs _ Q I1 (by simpa using rv) hw
end
inductive Src where
 | l (a:Addr) (vs:List V)|t (a:Addr) (vs:List V)|r (lo:Int) (n:Nat)
def aie(K:PySem.W.Frag):Src→It
 | .l a _=>Itl K a
 | .t a _=>Itt K a
 | .r lo n=>Itr lo n
def aaT(G:Gx)(w:Wo)(H:Hp)(z:Bool):Src→List T→Prop
 | .l a vs,ts=>Rd H a (.lst vs)∧aak G w H ts vs∧notLoc w a∧(z=true→w.Z a)
 | .t a vs,ts=>H a=some (.tup vs)∧aak G w H ts vs
 | .r lo n,ts=>ts=(List.range n).map (fun(k:Nat)=>T.int (lo+k))∧n≤sizeLine
section
variable{G:Gx}{X:Cx}{C:Cf}{w w':Wo}{H H':Hp}
theorem Rd.some{a:Addr}{u:HO}(r:Rd H a u):H a≠none:=by
 rcases r with r|⟨o,r⟩<;>(rw[r];intro z;cases z)
theorem aaT.mono{z:Bool}{s:Sto}(L:Le w w' H H')(S:StoOk G w H s):∀{src:Src}{ts:List T},aaT G w H z src ts→aaT G w' H' z src ts
 | .l a vs,ts,⟨h1,h2,h3,h4⟩=>⟨Rd.keep L h3 h1,aak.mono L S ts vs h2,notLoc.mono L (Rd.some h1) h3,fun q=>L.Z a (h4 q)⟩
 | .t a vs,ts,⟨h1,h2⟩=>⟨L.keep _ _ h1 (S.notLoc h1 (fun _ z=>by cases z) fun _ _ _ z=>by cases z),aak.mono L S ts vs h2⟩
 | .r lo n,ts,h=>h
def abO(G:Gx)(w:Wo)(H:Hp):Src→List T→Prop
 | .l a _,ts=>∃vs,Rd H a (.lst vs)∧aak G w H ts vs
 | .t a vs,ts=>H a=some (.tup vs)∧aak G w H ts vs
 | .r lo n,ts=>ts=(List.range n).map (fun(k:Nat)=>T.int (lo+k))∧n≤sizeLine
theorem aaT.now{z:Bool}:∀{src:Src}{ts:List T},aaT G w H z src ts→abO G w H src ts
 | .l _ vs,_,h=>⟨vs,h.1,h.2.1⟩
 | .t _ _,_,h=>h
 | .r _ _,_,h=>h
theorem abO.go:∀{src:Src}{ts:List T}{K:PySem.W.Frag}{i:Nat}{t:T},abO G w H src ts→ts[i]?=some t→(aie K src).go i H∧∀x H',(aie K src).yld i H x H'→H'=H∧Rep G w H t x
 | .l a _,ts,K,i,t,⟨vs,h1,h2⟩,e=>by
  obtain⟨v,e1,r⟩:=h2.get e
  refine⟨⟨vs,v,.inl h1,e1⟩,fun x H' ⟨q1,q2⟩=>⟨q1,?_⟩⟩
  have:=q2 vs (.inl h1)
  rw[e1]at this
  cases this
  exact r
 | .t a vs,ts,K,i,t,⟨h1,h2⟩,e=>by
  obtain⟨v,e1,r⟩:=h2.get e
  refine⟨⟨vs,v,SqT.of h1,e1⟩,fun x H' ⟨q1,q2⟩=>⟨q1,?_⟩⟩
  have:=q2 vs (SqT.of h1)
  rw[e1]at this
  cases this
  exact r
 | .r lo n,ts,K,i,t,⟨h1,_⟩,e=>by
  subst h1
  rw[List.getElem?_map]at e
  obtain⟨k,hk,rfl⟩:=map_some e
  obtain⟨hi,hk⟩:=List.getElem?_eq_some_iff.mp hk
  simp at hi hk
  subst hk
  refine⟨hi,fun x H' ⟨q1,q2⟩=>⟨q1,?_⟩⟩
  rw[q2]
  exact rfl
theorem abO.stop:∀{src:Src}{ts:List T}{K:PySem.W.Frag},abO G w H src ts→(aie K src).stop ts.length H
 | .l a _,ts,K,⟨vs,h1,h2⟩=>⟨vs,.inl h1,by rw[h2.length];exact Nat.le_refl _⟩
 | .t a vs,ts,K,⟨h1,h2⟩=>⟨vs,SqT.of h1,by rw[h2.length];exact Nat.le_refl _⟩
 | .r lo n,ts,K,⟨h1,_⟩=>by subst h1;show n≤_;simp
theorem abO.small{pins:List (Addr×Obj)}{σ:St}{s:Shared}(I:Inv X pins σ H s):∀{src:Src}{ts:List T},abO G w H src ts→ts.length≤sizeLine
 | .l a _,ts,⟨vs,h1,h2⟩=>by rw[h2.length];exact(Rd.lst I h1).1
 | .t a vs,ts,⟨h1,h2⟩=>by
  rw[h2.length]
  exact(I.hok a _ h1).1
 | .r lo n,ts,⟨h1,h2⟩=>by subst h1;simpa using h2
theorem aaT.go{z:Bool}{src:Src}{ts:List T}{K:PySem.W.Frag}{i:Nat}{t:T}(h:aaT G w H z src ts)(e:ts[i]?=some t):(aie K src).go i H∧∀x H',(aie K src).yld i H x H'→H'=H∧Rep G w H t x:=h.now.go e
theorem aaT.stop{z:Bool}{src:Src}{ts:List T}{K:PySem.W.Frag}(h:aaT G w H z src ts):(aie K src).stop ts.length H:=h.now.stop
theorem aaT.small{z:Bool}{pins:List (Addr×Obj)}{σ:St}{s:Shared}(I:Inv X pins σ H s){src:Src}{ts:List T}(h:aaT G w H z src ts):ts.length≤sizeLine:=h.now.small I
def agV(G:Gx)(X:Cx)(σV:St)(w:Wo)(H:Hp)(z:Bool)(res:Res R)(Q:It→Hp→Prop):Prop:=match res with
 | .ok (.val (.lst ts)) s'=>∀w' H' src,Le w w' H H'→StoOk G w' H' s'→aaT G w' H' z src ts→Q (aie X.K src) H'
 | .exc c s'=>∀w' H' pins u sh,Le w w' H H'→StoOk G w' H' s'→aaO G X pins σV H' c u sh→X.xe u sh
 | _=>False
def tI(G:Gx)(X:Cx)(C:Cf)(e:E)(m:Md)(z:Bool):TI:=fun σV H R=>∃w₀ H₀ w σ s,Good G w₀ H₀ w H σ s σV∧agV G X σV w H z (ev C e m σ s) R
theorem PI.imp{tg e:Expr}{t t':TI}(h:PI X tg e t)(q:∀σ H R,t' σ H R→t σ H R):PI X tg e t':=fun pins s σ H R I z=>h pins s σ H R I (q _ _ _ z)
theorem aoH{tg l:Expr}{tl:TE}(hl:PE X l tl):PI X tg l (fun σ H R=>tl σ H fun x H1=>∃a,x=.ref a∧((∃xs,Rd H1 a (.lst xs)∧R (Itl X.K a) H1)∨∃xs,H1 a=some (.tup xs)∧R (Itt X.K a) H1)):=by
 intro pins s σ H R I h
 refine thn (hl pins s σ H _ I h) fun v s1 ⟨x,H1,I1,r1,q1⟩=>?_
 obtain⟨a,e,q⟩:=q1
 subst e
 cases r1
 have hf:∀b∈[s1.heap.objs.size],aeb X pins H1 b:=fun b hb=>by
  have e:b=s1.heap.objs.size:=by simpa using hb
  subst e
  exact I1.fpOk (Nat.le_refl _) (I1.hok.fresh (Nat.le_refl _))
 rcases q with⟨xs,hq,q⟩|⟨xs,hq,q⟩
 ·obtain⟨its,rv,p⟩:=aaF I1 hq
  refine wpAny_pyIter_list p ?_
  exact⟨s1.heap.objs.size,[s1.heap.objs.size],_,_,H1,rfl,I1.kept (t':=s1.toks) fun b o e=>Heap.get?_push_of_some _ e,aiX a _,⟨_,Heap.get?_push_size _ rfl,rfl,rfl⟩,hf,q⟩
 ·obtain⟨its,rv,p⟩:=aaW I1 hq
  refine wpAny_pyIter_tuple p ?_
  exact⟨s1.heap.objs.size,[s1.heap.objs.size],_,_,H1,rfl,I1.kept (t':=s1.toks) fun b o e=>Heap.get?_push_of_some _ e,agZ a _,⟨_,Heap.get?_push_size _ rfl,rfl,rfl⟩,hf,q⟩
theorem akK{tg e:Expr}{e':E}{m:Md}{z:Bool}(hE:PE X e (tV G X C e'))(hm:m=.i∧z=false∨m=.j∧z=true)
  (hev:∀σ s,ev C e' m σ s=fin m (ev C e' .v σ s)):PI X tg e (tI G X C e' m z):=by
 refine PI.imp (aoH hE) ?_
 rintro σV H R ⟨w₀,H₀,w,σ,s,g,h⟩
 rw[hev]at h
 refine⟨w₀,H₀,w,σ,s,g,?_⟩
 cases he:ev C e' .v σ s with
 | stuck=>rw[he]at h;rcases hm with⟨rfl,rfl⟩|⟨rfl,rfl⟩<;>exact h
 | exc c s1=>rw[he]at h;rcases hm with⟨rfl,rfl⟩|⟨rfl,rfl⟩<;>exact h
 | ok x s1=>
  rw[he]at h
  intro w1 H1 v L1 S1 R1
  match x,R1 with
  | .val (.lst ts),⟨a,vs,e,hz,hr,rp⟩=>
   subst e
   refine⟨a,rfl,.inl ⟨vs,hr,?_⟩⟩
   rcases hm with⟨rfl,rfl⟩|⟨rfl,rfl⟩<;>exact h w1 H1 (.l a vs) L1 S1 ⟨hr,rp,S1.zLoc hz,fun _=>hz⟩
  | .val (.tup ts),⟨a,vs,e,hr,rp⟩=>
   subst e
   refine⟨a,rfl,.inr ⟨vs,hr,?_⟩⟩
   rcases hm with⟨rfl,rfl⟩|⟨rfl,rfl⟩<;>exact h w1 H1 (.t a vs) L1 S1 ⟨hr,rp⟩
  | .bor ts,⟨a,vs,e,hr,rp,nl⟩=>
   subst e
   rcases hm with⟨rfl,rfl⟩|⟨rfl,rfl⟩
   ·exact⟨a,rfl,.inl ⟨vs,.inl hr,h w1 H1 (.l a vs) L1 S1 ⟨.inl hr,rp,nl,fun z=>by cases z⟩⟩⟩
   ·exact h.elim
  | .val .non,_=>rcases hm with⟨rfl,rfl⟩|⟨rfl,rfl⟩<;>exact h.elim
  | .val (.bl _),_=>rcases hm with⟨rfl,rfl⟩|⟨rfl,rfl⟩<;>exact h.elim
  | .val (.int _),_=>rcases hm with⟨rfl,rfl⟩|⟨rfl,rfl⟩<;>exact h.elim
  | .val (.str _),_=>rcases hm with⟨rfl,rfl⟩|⟨rfl,rfl⟩<;>exact h.elim
  | .val (.loc _),_=>rcases hm with⟨rfl,rfl⟩|⟨rfl,rfl⟩<;>exact h.elim
  | .val (.exc _),_=>rcases hm with⟨rfl,rfl⟩|⟨rfl,rfl⟩<;>exact h.elim
theorem adw{i:Int}(h:bnd i=true):-(2^62)≤i∧i<2^62:=by
 unfold bnd at h
 rw[Bool.and_eq_true,decide_eq_true_iff,decide_eq_true_iff]at h
 exact h
theorem agd:lim≤sizeLine:=by decide
theorem am5{tg a:Expr}{a':E}{p pos:Pos}{m:Md}{z:Bool}(hm:m=.i∨m=.j)(hg:Gl X "range")(hmg:X.mg "range"=none)(ha:PE X a (tV G X C a'))(hs:starEach [a] X.env=[(false,eval a X.env)]):PI X tg (.Call (.Name "range" p) [a] [] pos) (tI G X C (.rng1 a') m z):=by
 refine PI.imp (ahR hg hmg (aa2 ha aaZ hs) hs) ?_
 rintro σV H R ⟨w₀,H₀,w,σ,s,g,h⟩
 have h:agV G X σV w H z ((ev C a' .v σ s).bind fun x s1=>onI x fun j=>if bnd j&&decide (j≤lim)then .ok (.val (.lst (aai 0 j))) s1 else .stuck) R:=by rcases hm with rfl|rfl<;>exact h
 refine⟨w₀,H₀,w,σ,s,g,?_⟩
 cases he:ev C a' .v σ s with
 | stuck=>rw[he]at h;exact h
 | exc c s1=>rw[he]at h;exact h
 | ok x s1=>
  rw[he]at h
  intro w1 H1 v L1 S1 R1
  match x,R1,h with
  | .val (.int j),R1,h=>
   cases R1
   have h:agV G X σV w H z (if bnd j&&decide (j≤lim)then .ok (.val (.lst (aai 0 j))) s1 else .stuck) R:=h
   split at h
   ·rename_i hb
    rw[Bool.and_eq_true,decide_eq_true_iff]at hb
    refine⟨j,rfl,(adw hb.1).1,(adw hb.1).2,?_⟩
    refine h w1 H1 (.r 0 j.toNat) L1 S1 ⟨?_,?_⟩
    ·unfold aai;simp
    ·have:=agd;omega
   ·exact h.elim
  | .val .non,_,h=>exact h.elim
  | .val (.bl _),_,h=>exact h.elim
  | .val (.str _),_,h=>exact h.elim
  | .val (.tup _),_,h=>exact h.elim
  | .val (.lst _),_,h=>exact h.elim
  | .val (.loc _),_,h=>exact h.elim
  | .val (.exc _),_,h=>exact h.elim
  | .bor _,_,h=>exact h.elim
theorem ant{tg a b:Expr}{a' b':E}{p pos:Pos}{m:Md}{z:Bool}(hm:m=.i∨m=.j)(hg:Gl X "range")(hmg:X.mg "range"=none)(ha:PE X a (tV G X C a'))(hb:PE X b (tV G X C b'))(hs:starEach [a,b] X.env=[(false,eval a X.env),(false,eval b X.env)])(hs2:starEach [b] X.env=[(false,eval b X.env)]):PI X tg (.Call (.Name "range" p) [a,b] [] pos) (tI G X C (.rng2 a' b') m z):=by
 refine PI.imp (aiN hg hmg (aa2 ha (aa2 hb aaZ hs2) (by rw[hs,hs2])) hs hs2) ?_
 rintro σV H R ⟨w₀,H₀,w,σ,s,g,h⟩
 have h:agV G X σV w H z ((ev C a' .v σ s).bind fun x s1=>onI x fun i=>(ev C b' .v σ s1).bind fun y s2=>onI y fun j=>if bnd i&&bnd j&&decide (j-i≤lim)then .ok (.val (.lst (aai i j))) s2 else .stuck) R:=by rcases hm with rfl|rfl<;>exact h
 refine⟨w₀,H₀,w,σ,s,g,?_⟩
 cases he:ev C a' .v σ s with
 | stuck=>rw[he]at h;exact h
 | exc c s1=>rw[he]at h;exact h
 | ok x s1=>
  rw[he]at h
  intro w1 H1 v L1 S1 R1
  match x,R1,h with
  | .val (.int i),R1,h=>
   cases R1
   refine⟨w₀,H₀,w1,σ,s1,g.step L1 S1,?_⟩
   have h:agV G X σV w H z ((ev C b' .v σ s1).bind fun y s2=>onI y fun j=>if bnd i&&bnd j&&decide (j-i≤lim)then .ok (.val (.lst (aai i j))) s2 else .stuck) R:=h
   cases hf:ev C b' .v σ s1 with
   | stuck=>rw[hf]at h;exact h
   | exc c s2=>rw[hf]at h;exact fun w2 H2 pins u sh L2=>h w2 H2 pins u sh (L1.trans L2)
   | ok y s2=>
    rw[hf]at h
    intro w2 H2 v2 M2 S2 R2
    match y,R2,h with
    | .val (.int j),R2,h=>
     cases R2
     have h:agV G X σV w H z (if bnd i&&bnd j&&decide (j-i≤lim)then .ok (.val (.lst (aai i j))) s2 else .stuck) R:=h
     split at h
     ·rename_i hb
      rw[Bool.and_eq_true,Bool.and_eq_true,decide_eq_true_iff]at hb
      refine⟨i,j,rfl,⟨(adw hb.1.1).1,(adw hb.1.1).2,(adw hb.1.2).1,(adw hb.1.2).2⟩,?_⟩
      refine h w2 H2 (.r i (j-i).toNat) (L1.trans M2) S2 ⟨rfl,?_⟩
      have:=agd
      omega
     ·exact h.elim
    | .val .non,_,h=>exact h.elim
    | .val (.bl _),_,h=>exact h.elim
    | .val (.str _),_,h=>exact h.elim
    | .val (.tup _),_,h=>exact h.elim
    | .val (.lst _),_,h=>exact h.elim
    | .val (.loc _),_,h=>exact h.elim
    | .val (.exc _),_,h=>exact h.elim
    | .bor _,_,h=>exact h.elim
  | .val .non,_,h=>exact h.elim
  | .val (.bl _),_,h=>exact h.elim
  | .val (.str _),_,h=>exact h.elim
  | .val (.tup _),_,h=>exact h.elim
  | .val (.lst _),_,h=>exact h.elim
  | .val (.loc _),_,h=>exact h.elim
  | .val (.exc _),_,h=>exact h.elim
  | .bor _,_,h=>exact h.elim
def slots:Tg→List Nat
 | .one i=>[i]
 | .many is=>is
def gTg(G:Gx)(g:Tg):TG:=fun v σV H Q=>∃w s t σ σ',StoOk G w H s∧Rep G w H t v∧aal σ g t=some σ'∧∀vs,(∀H₀ σV',FrOk G w H H₀ σ σV'→FrOk G w H H₀ σ' (aaX σV' (slots g) vs))→vs.length=(slots g).length→Q (aaX σV (slots g) vs) H
theorem PG.imp{tg:Expr}{t t':TG}(h:PG X tg t)(q:∀v σ H Q,t' v σ H Q→t v σ H Q):PG X tg t':=fun pins s σ H v u Q I r z=>h pins s σ H v u Q I r (q _ _ _ _ z)
theorem aoL{i:Nat}{x:Str}{pos:Pos}(hN:X.N.Nodup)(hi:X.N[i]?=some x)(hx:Loc X.env.scope x)(hf:X.fn x=true∨X.env.scope.names.lookup x=some .local):PG X (.Name x pos) (gTg G (.one i)):=by
 refine PG.imp (ais hN hi hx hf) ?_
 rintro v σV H Q ⟨w,s,t,σ,σ',S,r,e,q⟩
 cases e
 exact q [v] (fun H₀ σV' F=>F.put r) rfl
def ag7(js:List Nat):TGs:=fun vs σ H Q=>vs.length=js.length∧Q (aaX σ js vs) H
theorem PGs.imp{ts:List Expr}{t t':TGs}(h:PGs X ts t)(q:∀v σ H Q,t' v σ H Q→t v σ H Q):PGs X ts t':=fun pins s σ H v u Q I r z=>h pins s σ H v u Q I r (q _ _ _ _ z)
theorem anW:PGs X [] (ag7 []):=PGs.imp an1 fun vs σ H Q ⟨h,q⟩=>by
 have:vs=[]:=List.length_eq_zero_iff.mp h
 subst this
 exact⟨rfl,q⟩
theorem amW{i:Nat}{js:List Nat}{x:Str}{pos:Pos}{es:List Expr}(hN:X.N.Nodup)(hi:X.N[i]?=some x)(hx:Loc X.env.scope x)(hf:X.fn x=true∨X.env.scope.names.lookup x=some .local)(h2:PGs X es (ag7 js)):PGs X (.Name x pos::es) (ag7 (i::js)):=by
 refine PGs.imp (akI (ais hN hi hx hf) h2 rfl) ?_
 rintro vs σ H Q ⟨h,q⟩
 match vs,h,q with
 | v::r,h,q=>exact⟨v,r,rfl,by simpa using h,q⟩
theorem adY:∀{is:List Nat}{ts:List T}{σ σ':Fr},puts σ is ts=some σ'→is.length=ts.length
 | [],[],_,_,_=>rfl
 | [],_::_,_,_,h=>by cases h
 | _::_,[],_,_,h=>by cases h
 | i::is,t::ts,σ,σ',h=>by simp[adY (is:=is) (ts:=ts) (σ:=put σ i t) h]
theorem ah7{js:List Nat}{es:List Expr}{k:Nat}{pos:Pos}(hc:X.calm=true)(h:PGs X es (ag7 js))(hn:(assignEach es X.env).length=js.length)(hst:(assignEach es X.env).findIdx? (·.1)=none):PG X (.Tuple es k pos) (gTg G (.many js)):=by
 rintro pins s0 σV H v u Q I ru ⟨w,s,t,σ,σ',S,r,e,q⟩
 match t,r,e with
 | .tup ts,⟨a,vs,e1,hp,rp⟩,e=>
  have e:puts σ js ts=some σ':=e
  have hl:=adY e
  refine apO hc h hn hst pins s0 σV H v u Q I ru ⟨a,vs,e1,SqT.of hp,by rw[←rp.length,hl],by rw[←rp.length,hl],?_⟩
  exact q vs (fun H₀ σV' F=>FrOk.puts F rp e) (by rw[←rp.length];exact hl.symm)
 | .lst ts,⟨a,vs,e1,_,hp,rp⟩,e=>
  have e:puts σ js ts=some σ':=e
  have hl:=adY e
  refine aor hc h hn hst pins s0 σV H v u Q I ru ⟨a,vs,e1,hp,by rw[←rp.length,hl],by rw[←rp.length,hl],?_⟩
  exact q vs (fun H₀ σV' F=>FrOk.puts F rp e) (by rw[←rp.length];exact hl.symm)
 | .non,_,e=>cases e
 | .bl _,_,e=>cases e
 | .int _,_,e=>cases e
 | .str _,_,e=>cases e
 | .loc _,_,e=>cases e
 | .exc _,_,e=>cases e
end
theorem aao{h:Heap}{as:List Addr}{b:Addr}{o:Obj}:(PySem.W.hideAll h as).get? b=some o↔h.get? b=some o∧b∉as:=by
 refine⟨fun e=>⟨PySem.W.of_hideAll as e,fun z=>?_⟩,fun⟨e,n⟩=>PySem.W.hideAll_get as e n⟩
 rw[PySem.W.hideAll_none as z]at e
 cases e
section
variable{G:Gx}{X:Cx}{pins:List (Addr×Obj)}{σV:St}{H:Hp}{c:Nat}{u:Value}{sh:Shared}
theorem ahA{base h B:Heap}{as:List Addr}(hc:∀b o,B.get? b=some o→b∉as):∀{l:List Env},h.FunFrames base l→(∀b∈frs l,b∈as)→h.FunFrames B l
 | [],_,_=>trivial
 | env::l,⟨hk,⟨L,o,hf,_,ho,hd⟩,hr⟩,hin=>by
  have hL:L∈as:=hin L (by unfold frs;rw[List.filterMap_cons,hf];exact List.mem_cons_self)
  refine⟨hk,⟨L,o,hf,?_,ho,hd⟩,ahA hc hr fun b hb=>hin b ?_⟩
  ·cases q:B.get? L with
   | none=>rfl
   | some z=>exact absurd hL (hc L z q)
  ·unfold frs
   rw[List.filterMap_cons,hf]
   exact List.mem_cons_of_mem _ hb
theorem Flt.next{stack:List Env}{base h B h1 h2:Heap}{e:Addr}(F:Flt stack h B e h1)(hf:h.FunFrames base stack)(st:B.StaysIn h2)(sm:h1.UpToSlots h2):Flt stack h B e h2 where
 cov:=F.cov
 keep:=fun b o q n=>st b o ((F.cov b o).mpr ⟨q,n⟩)
 slot:=fun b o q n=>by
  obtain⟨sl,e1⟩:=F.slot b o q n
  obtain⟨_,o',ho',hd⟩:=hf.mem n
  rw[q]at ho'
  cases ho'
  obtain⟨sl',e2⟩:=sm b _ e1 hd
  exact⟨sl',e2⟩
 new:=F.new
theorem ah8{M:Model}{A:Around}{E:Value→Shared→Prop}{s:Shared}{B h:Heap}{env:Env}{outer:List Env}{L e:Addr}{cls:Value}{args:List Value}{Q:Unit→Shared→Prop}
  (hfr:A.frames=some (env::outer)) (hf:env.frame=some L) (hkb:B.StaysIn h) (hl:h.FunFrames B (env::outer)) (hx:Heap.MadeExcOf h s.heap e cls args)
  (hQ:∀h' t,Heap.HeldW B (env::outer) e cls t L h'→s.heap.UpToSlots h'→Q () { s with heap:=h' }):wpAny M A (noteFrame (.ref e) env) Q E s:=by
 obtain⟨t,he,htn,ht⟩:=hx.there
 have hen:B.get? e=none:=by
  cases hq:B.get? e with
  | none=>rfl
  | some o'=>have:=hkb e o' hq;rw[hx.new]at this;cases this
 unfold noteFrame
 simp only[hf]
 refine wpAny_bind (wpAny_field (x:=.none) he rfl rfl ?_)
 rw[if_neg (by decide)]
 refine wpAny_entryW (a0:=.ref t) hfr (hl.of_keeps fun b o hb _=>⟨o,hx.keeps b o hb,rfl⟩) hf he (fun b o hb=>hx.keeps b o (hkb b o hb)) hen rfl (by simp) rfl fun h' hN=>?_
 obtain⟨k1,k2,k3,k4⟩:=hN
 exact hQ h' (.ref t) ⟨k1,hen,k2,k3⟩ k4
def af9(X:Cx):Prop:=∃env0 outer0 L,X.stack=env0::outer0∧env0.frame=some L∧X.env.frame=some L
theorem aeJ{e:Value}{env env':Env}(h:env.frame=env'.frame):noteFrame e env=noteFrame e env':=by
 unfold noteFrame frameOf
 rw[h]
theorem akB{M:Model}{A:Around}{E:Value→Shared→Prop}{s:Shared}{base:Heap}{env:Env}{outer:List Env}{L e:Addr}{cls a0 fl:Value}{Q:Unit→Shared→Prop}
  (hfr:A.frames=some (env::outer)) (hf:env.frame=some L) (hh:aqb base (env::outer) e cls a0 fl s.heap)
  (hQ:∀h',Heap.HeldW base (env::outer) e cls a0 L h'→s.heap.UpToSlots h'→Q () { s with heap:=h' }):wpAny M A (noteFrame (.ref e) env) Q E s:=by
 obtain⟨hkb,hen,hl,oe,vs,T,oT,ts,he,⟨hcls,h0⟩,hd,h1,hnT,hTe,hT,hdT,h3⟩:=hh
 by_cases hq:fl=rawInt L
 ·subst hq
  exact wpAny_noteFrame_againW hf ⟨oe,vs,T,oT,ts,he,⟨hcls,h0⟩,hd,h1,hnT,hTe,hT,hdT,h3⟩ (hQ s.heap ⟨hkb,hen,hl,oe,vs,T,oT,ts,he,⟨hcls,h0⟩,hd,h1,hnT,hTe,hT,hdT,h3⟩ (.refl _))
 ·have other:∀b,b≠T→(s.heap.update T (Obj.mapFields (·.setIfInBounds 3 Value.none))).get? b=s.heap.get? b:=fun b hb=>Heap.get?_update_other _ _ (Ne.symm hb)
  have nor:∀b o,s.heap.get? b=some o→(∀vs,o.data≠.fields vs)→b≠T:=fun b o hb hnf q=>by
   rw[q,hT]at hb;cases hb;exact hnf ts hdT
  subst hcls
  unfold noteFrame
  simp only[hf]
  refine wpAny_bind (wpAny_field he hd h1 ?_)
  rw[if_pos (show(Value.ref T != Value.none)=true from by simp)]
  refine wpAny_bind (wpAny_field hT hdT h3 ?_)
  rw[if_neg (show ¬((fl==rawInt L)=true)from fun z=>hq (by simpa using z))]
  refine wpAny_bind (wpAny_setField hT hdT (Array.getElem?_eq_some_iff.mp h3).1 ?_)
  refine wpAny_entryW hfr (hl.of_keeps fun b o hb hnf=>⟨o,(other b (nor b o hb hnf)).trans hb,rfl⟩) hf ((other e (Ne.symm hTe)).trans he)
   (fun b o hbo=>(other b fun q=>by rw[q,hnT]at hbo;cases hbo).trans (hkb b o hbo)) hen hd (Array.getElem?_eq_some_iff.mp h1).1 h0
   fun h' ⟨x1,x2,x3,x4⟩=>hQ h' ⟨x1,hen,x2,x3⟩ fun b o hb hnf=>x4 b o ((other b (nor b o hb hnf)).trans hb) hnf
theorem acr{E:Value→Shared→Prop}{Q:Unit→Shared→Prop}(hst:af9 X)(T:aaO G X pins σV H c u sh)
  (hQ:∀e h B h' t L,u=.ref e→Inv X pins σV H { sh with heap:=h }→Flt X.stack h B e h'→X.base.StaysIn B→Heap.HeldW B X.stack e (.ref (G.cA c)) t L h'→Q () { sh with heap:=h' }):
  wpAny (model X.prog X.w) X.A (noteFrame u X.env) Q E sh:=by
 obtain⟨env0,outer0,L,e1,e2,e3⟩:=hst
 rw[aeJ (e3.trans e2.symm)]
 obtain⟨e,h,B,rfl,I,F,sb,T⟩:=T
 have hff:h.FunFrames X.base X.stack:=I.stack
 have hfr:X.A.frames=some (env0::outer0):=by rw[I.ok.frames,e1]
 have fB:h.FunFrames B X.stack:=ahA (fun b o q=>((F.cov b o).mp q).2) hff fun _ z=>z
 have land:∀(h1:Heap) (t:Value),Heap.HeldW B (env0::outer0) e (.ref (G.cA c)) t L h1→sh.heap.UpToSlots h1→Q () { sh with heap:=h1 }:=fun h1 t hh sm=>by
  rw[←e1]at hh
  exact hQ e h B h1 t L rfl I (F.next hff hh.1 sm) sb hh
 rw[e1]at T fB
 rcases T with⟨args,hm⟩|⟨t,hf⟩|⟨t,fl,hh⟩
 ·exact ah8 hfr e2 (fun b o q=>((F.cov b o).mp q).1) fB hm fun h1 t hh sm=>land h1 t hh sm
 ·exact wpAny_looks_onW hfr e2 hf fun h1 hh sm=>land h1 t hh sm
 ·exact akB hfr e2 hh fun h1 hh sm=>land h1 t hh sm
theorem agw{base h B h2:Heap}{as:List Addr}(hc:∀b o,B.get? b=some o→b∉as)(hm:∀b∈as,∀o,h.get? b=some o→(∀vs,o.data≠.fields vs)→h2.get? b=some o):
  ∀{l:List Env},h.FunFrames base l→(∀b∈frs l,b∈as)→h2.FunFrames B l
 | [],_,_=>trivial
 | env::l,⟨hk,⟨L,o,hf,_,ho,hd⟩,hr⟩,hin=>by
  have hL:L∈as:=hin L (by unfold frs;rw[List.filterMap_cons,hf];exact List.mem_cons_self)
  refine⟨hk,⟨L,o,hf,?_,hm L hL o ho hd,hd⟩,agw hc hm hr fun b hb=>hin b ?_⟩
  ·cases q:B.get? L with
   | none=>rfl
   | some z=>exact absurd hL (hc L z q)
  ·unfold frs
   rw[List.filterMap_cons,hf]
   exact List.mem_cons_of_mem _ hb
theorem afd{E:Value→Shared→Prop}{X:Cx}{pins:List (Addr×Obj)}{σV:St}{e A L:Addr}{h B h1 h':Heap}{t:Value}{what:String}{cenv:Env}(I:Inv X pins σV H { sh with heap:=h })(fA:aeb X pins H A)(hA:∀o,X.base.get? A≠some o)(F:Flt X.stack h B e h1)(sb:X.base.StaysIn B)
  (hh:Heap.HeldW B X.stack e (.ref (G.cA c)) t L h1) (nsA:∃o,h1.get? A=some o∧∀vs,o.data≠.fields vs) (hs:Heap.SameBut A h1 h') (hx:∀sh',aaO G X pins σV H c (.ref e) sh'→E (.ref e) sh'):
  wpAny (model X.prog X.w) X.A (passOn what (.ref e) cenv:Sem Value) (fun _ _=>False) E { sh with heap:=h' }:=by
 obtain⟨hkb,hen,hl,oe,vs,T,oT,ts,he,⟨hcls,h0⟩,hd,h1',hnT,hTe,hT,hdT,h3⟩:=hh
 obtain⟨oA,hoA,hAd⟩:=nsA
 have eA:e≠A:=fun z=>by rw[z,hoA]at he;cases he;exact hAd _ hd
 have TA:T≠A:=fun z=>by rw[z,hoA]at hT;cases hT;exact hAd _ hdT
 have Afr:A∉frs X.stack:=fun z=>by
  rcases List.mem_cons.mp (I.stkSub A z)with z|z
  ·exact fA.2.1 z
  ·exact fA.2.2.1 z
 have he':h'.get? e=some oe:=(hs.2 e eA).trans he
 have hT':h'.get? T=some oT:=(hs.2 T TA).trans hT
 have hsz3:3<ts.size:=(Array.getElem?_eq_some_iff.mp h3).1
 unfold passOn
 refine wpAny_bind (wpAny_field he' hd h1' ?_)
 rw[if_neg (show ¬((Value.ref T==Value.none)=true)from by simp)]
 refine wpAny_bind ?_
 unfold setFlight
 refine wpAny_bind (wpAny_field he' hd h1' ?_)
 rw[if_pos (show(Value.ref T != Value.none)=true from by simp)]
 generalize (cenv.frame.elim Value.none fun f=>rawInt f)=fl
 refine wpAny_setField hT' hdT hsz3 (wpAny_throw (hx _ ?_))
 have other:∀b,b≠T→(h'.update T (Obj.mapFields (·.setIfInBounds 3 fl))).get? b=h'.get? b:=fun b hb=>Heap.get?_update_other _ _ (Ne.symm hb)
 have bT:∀b o,B.get? b=some o→b≠T:=fun b o q z=>by rw[z,hnT]at q;cases q
 have fT:∀b∈frs X.stack,b≠T:=fun b hb z=>by
  obtain⟨_,o,ho,hnf⟩:=hl.mem hb
  rw[z,hT]at ho;cases ho;exact hnf _ hdT
 refine⟨e,PySem.W.hideAll h [A],PySem.W.hideAll B [A],rfl,?_,⟨fun b o=>?_,fun b o q n=>?_,fun b o q n=>?_,?_⟩,fun b o q=>aao.mpr ⟨sb b o q,fun z=>?_⟩,.inr (.inr ⟨t,fl,fun b o q=>?_,?_,?_,?_⟩)⟩
 ·exact I.turned (t':=sh.toks) (fun b o ne q=>aao.mpr ⟨q,by simpa using ne⟩) fA.1 fA.2.1 fA.2.2.2.1 fA.2.2.2.2.1 fA.2.2.2.2.2
 ·rw[aao,aao,F.cov b o]
  exact⟨fun⟨⟨a,y⟩,z⟩=>⟨⟨a,z⟩,y⟩,fun⟨⟨a,z⟩,y⟩=>⟨⟨a,y⟩,z⟩⟩
 ·obtain⟨a,y⟩:=aao.mp q
  have y:b≠A:=by simpa using y
  exact(other b (bT b o ((F.cov b o).mpr ⟨a,n⟩))).trans ((hs.2 b y).trans (F.keep b o a n))
 ·obtain⟨a,y⟩:=aao.mp q
  have y:b≠A:=by simpa using y
  obtain⟨sl,z⟩:=F.slot b o a n
  exact⟨sl,(other b (fT b n)).trans ((hs.2 b y).trans z)⟩
 ·cases q:(PySem.W.hideAll h [A]).get? e with
  | none=>rfl
  | some o=>have:=(aao.mp q).1;rw[F.new]at this;cases this
 ·have z:b=A:=by simpa using z
  subst z
  exact hA o q
 ·obtain⟨a,y⟩:=aao.mp q
  have y:b≠A:=by simpa using y
  exact(other b (bT b o a)).trans ((hs.2 b y).trans (hkb b o a))
 ·cases q:(PySem.W.hideAll B [A]).get? e with
  | none=>rfl
  | some o=>have:=(aao.mp q).1;rw[hen]at this;cases this
 ·refine agw (as:=frs X.stack) (fun b o q=>((F.cov b o).mp (aao.mp q).1).2) (fun b hb o q _=>(other b (fT b hb)).trans ((hs.2 b fun z=>Afr (z▸hb)).trans q)) hl fun _ z=>z
 ·refine⟨oe,vs,T,_,_,(other e (Ne.symm hTe)).trans he',⟨hcls,h0⟩,hd,h1',?_,hTe,Heap.get?_update_self _ hT' (Obj.isFreed_of_fields (Obj.data_mapFields hdT _)),Obj.data_mapFields hdT _,by simp[hsz3]⟩
  cases q:(PySem.W.hideAll B [A]).get? T with
  | none=>rfl
  | some o=>have:=(aao.mp q).1;rw[hnT]at this;cases this
end
section
variable{G:Gx}{X:Cx}{C:Cf}
def avG(G:Gx)(w:Wo)(H:Hp):Option T→Option V→Prop
 | some t,some v=>Rep G w H t v
 | none,none=>True
 | _,_=>False
def arX(G:Gx)(X:Cx)(σV:St)(w:Wo)(H:Hp)(r:Res (Option T))(Q:Option V→Hp→Prop):Prop:=match r with
 | .stuck=>False
 | .ok o s'=>∀w1 H1 vo,Le w w1 H H1→StoOk G w1 H1 s'→avG G w1 H1 o vo→Q vo H1
 | .exc c s'=>∀w' H' pins u sh,Le w w' H H'→StoOk G w' H' s'→aaO G X pins σV H' c u sh→X.xe u sh
def adn(G:Gx)(X:Cx)(ifs:List Expr)(elt:Expr)(f:Fr→Sto→Res (Option T)):Prop:=
 ∀(pins:List (Addr×Obj)) (s:Shared) (σV:St) (H:Hp) (w₀:Wo) (H₀:Hp) (w:Wo) (σ:Fr) (st:Sto) (Q:Option V→Hp→Prop),Inv X pins σV H s→Good G w₀ H₀ w H σ st σV→arX G X σV w H (f σ st) Q→
  wpAny (model X.prog X.w) X.A (forIn ifs true fun c r=>if r=true then do let ok ←isTrue c X.env (eval c X.env);pure (ForInStep.yield ok)else pure (ForInStep.yield r))
   (fun ok s3=>if ok=true then wpAny (model X.prog X.w) X.A (eval elt X.env) (fun u s4=>∃v H4,Inv X pins σV H4 s4∧aa8 v u∧Q (some v) H4) X.xe s3 else ∃H3,Inv X pins σV H3 s3∧Q none H3) X.xe s
def adh(G:Gx)(X:Cx)(σV:St)(w:Wo)(H:Hp)(Q:VK)(acc:List T)(r:Res (List T)):Prop:=match r with
 | .ok rest st'=>∀w' H' a vs,Le w w' H H'→StoOk G w' H' st'→H' a=some (.lst vs)→aak G w' H' (acc++rest) vs→H a=none→¬w'.Z a→notLoc w' a→Q (.ref a) H'
 | .exc c st'=>∀w' H' pins u sh,Le w w' H H'→StoOk G w' H' st'→aaO G X pins σV H' c u sh→X.xe u sh
 | .stuck=>False
theorem ab8{σV:St}{w:Wo}{H:Hp}{Q:VK}{acc:List T}{f:T→Sto→Res (Option T)}{t:T}{ts:List T}{s:Sto}(h:adh G X σV w H Q acc (aat f (t::ts) s)):
  (∃o s1,f t s=.ok o s1∧adh G X σV w H Q (acc++afQ o []) (aat f ts s1))∨∃c s1,f t s=.exc c s1∧∀w' H' pins u sh,Le w w' H H'→StoOk G w' H' s1→aaO G X pins σV H' c u sh→X.xe u sh:=by
 unfold aat at h
 cases hf:f t s with
 | stuck=>rw[hf]at h;exact h.elim
 | exc c s1=>rw[hf]at h;exact .inr ⟨c,s1,rfl,h⟩
 | ok o s1=>
  rw[hf]at h
  refine .inl ⟨o,s1,rfl,?_⟩
  have h:adh G X σV w H Q acc ((aat f ts s1).bind fun q s2=>Res.ok (afQ o q) s2):=h
  cases hm:aat f ts s1 with
  | stuck=>rw[hm]at h;exact h
  | exc c s2=>rw[hm]at h;exact h
  | ok r s2=>
   rw[hm]at h
   intro w' H' a vs h1 h2 h3 h4
   refine h w' H' a vs h1 h2 h3 ?_
   cases o<;>simpa [afQ]using h4
theorem abP{α β:Type}{o:Option α}{f:α→Res β}{c:Nat}{s:Sto}(h:onO o f=.exc c s):∃a,o=some a∧f a=.exc c s:=by
 cases o with
 | none=>cases h
 | some a=>exact⟨a,rfl,h⟩
theorem age{α β:Type}{o:Option α}{f:α→Res β}{b:β}{s:Sto}(h:onO o f=.ok b s):∃a,o=some a∧f a=.ok b s:=by
 cases o with
 | none=>cases h
 | some a=>exact⟨a,rfl,h⟩
variable{elt iter tg:Expr}{ifs:List Expr}{scope:Scope}{pos:Pos}{it' ce:E}{g:Tg}{N':List Str}{f:Fr→Sto→Res (Option T)}
theorem ak1{pins:List (Addr×Obj)}{σ:St}{H:Hp}{s:Shared}{D:Addr}{xs:List V}{v:V}{u:Value}{Y:Cx}{E:Value→Shared→Prop}{Q:Shared→Prop}(I:Inv Y pins σ H s)(r:aa8 v u)(hD:H D=some (.lst xs))(hl:xs.length<sizeLine)
  (q:∀s',Inv Y pins σ (upd H D (.lst (xs++[v]))) s'→Q s'):wpAny (model Y.prog Y.w) Y.A (call (.builtin "list.append") [.ref D,u]) (fun _ s'=>Q s') E s:=by
 have z:=acQ (X:=Y.wish E) pins s σ H (.ref D) [v] (.ref D) [u] (fun _ H'=>H'=upd H D (.lst (xs++[v]))) (I.wish E) rfl (.cons r .nil) ⟨D,xs,v,rfl,rfl,hD,hl,rfl⟩
 refine thn z fun u' s' ⟨_,H',I',_,e⟩=>?_
 subst e
 exact q s' I'.unwish
theorem ae4:∀{js:List Nat}{vs:List V}{σV:St}{i:Nat},i∉js→(aaX σV js vs)[i]?=σV[i]?
 | [],vs,σV,i,_=>by cases vs<;>rfl
 | j::js,[],σV,i,_=>rfl
 | j::js,v::vs,σV,i,h=>by
  show(aaX (σV.set j (some v)) js vs)[i]?=_
  rw[ae4 fun q=>h (List.mem_cons_of_mem _ q),List.getElem?_set_ne fun q=>h (by simp[q])]
def ai1(G:Gx)(w:Wo)(H:Hp)(s:Sto)(J:It)(ts:List T):Prop:=
 (∀i t,ts[i]?=some t→J.go i H∧∀x H',J.yld i H x H'→∃w',Le w w' H H'∧StoOk G w' H' s∧Rep G w' H' t x)∧J.stop ts.length H∧∀(X:Cx) pins σ s',Inv X pins σ H s'→ts.length≤sizeLine
theorem abO.walked{w:Wo}{H:Hp}{s:Sto}{src:Src}{ts:List T}{K:PySem.W.Frag}(S:StoOk G w H s)(h:abO G w H src ts):ai1 G w H s (aie K src) ts:=
 ⟨fun i t e=>⟨(h.go e).1,fun x H' y=>by obtain⟨e1,r⟩:=(h.go (K:=K) e).2 x H' y;subst e1;exact⟨w,Le.refl _ _,S,r⟩⟩,h.stop,fun _ _ _ _ I=>h.small I⟩
def akm(G:Gx)(X:Cx)(g:Tg)(f:Fr→Sto→Res (Option T))(σ:Fr)(σV:St)(w:Wo)(H:Hp)(Q:VK)(J:It)(H2:Hp):Prop:=
 ∃(w2:Wo) (ts:List T) (st2:Sto) (K:Sto→Prop) (kp:Res (Option T)→Res (Option T)),Le w w2 H H2∧StoOk G w2 H2 st2∧(∀w' H' s',Le w2 w' H2 H'→StoOk G w' H' s'→K s'→ai1 G w' H' s' J ts)∧K st2∧(∀r,(∀o s',kp r=.ok o s'→r=.ok o s'∧K s')∧∀c s',kp r=.exc c s'→r=.exc c s')∧
  adh G X σV w H Q [] (aat (fun t s=>onO (aal σ g t) fun σ'=>kp (f σ' s)) ts st2)
theorem ahc(hfr:af9 X)(hc:X.calm=true)(hN:CompN X scope N' (slots g))(hnd:(slots g).Nodup){tx:TI}(hI:PI X tg iter tx)
  (hG:∀A fp s2 H2 xe,PG (cxC X N' scope A fp s2 H2 xe) tg (gTg G g)) (hE:∀A fp s2 H2 xe,adn G (cxC X N' scope A fp s2 H2 xe) ifs elt f) (hs:∀x,foldedSetIterable iter X.env x=pure x)
  {pins:List (Addr×Obj)}{s:Shared}{σV:St}{H:Hp}{w₀ w:Wo}{H₀:Hp}{σ:Fr}{st:Sto}{Q:VK} (I:Inv X pins σV H s) (gd:Good G w₀ H₀ w H σ st σV)
  (hsrc:tx σV H (akm G X g f σ σV w H Q))
  {use:Option (Value→Sem Unit)}{Q':Value→Shared→Prop}
  (hfin:∀(s':Shared) (Hc:Hp) (A D:Addr),Inv X pins σV Hc s'→aeb X pins Hc A→(∃m,s'.heap.Ns A m)→Q (.ref D) Hc→compPost (model X.prog X.w) X.A X.xe use Q' (.ref D) A (.ok .next) s'):
  wpAny (model X.prog X.w) X.A (comprehension (.ListComp elt [⟨tg,iter,ifs,0⟩] scope pos) scope X.env (firstIterPos [⟨tg,iter,ifs,0⟩] pos) (newList []) false (eval iter X.env) use) Q' X.xe s:=by
 have hfree:∀x∈scope.names,x.2=.free→∃c,X.env.cells.lookup x.1=some c:=fun x hx hf=>I.ok.has x.1 (hN.free x hx hf)
 refine wpAny_comprehension_free (use:=use) rfl hs (aho scope X.env hfree) hN.kind hN.locs (thn (hI pins s σV H _ I hsrc) fun xv s1 h1=>thn h1 fun itv s2 h2=>?_)
 obtain⟨it,fp,tn,J,H2,rfl,I2,T,st2,f2,w2,ts,stc,KK,kp,L2,S2,now,hK,hkp,hm⟩:=h2
 have ho2:∀b∈fp,∃o,s2.heap.get? b=some o:=fun b hb=>let ⟨o,e,_⟩:=T.obj _ _ st2 b hb;⟨o,e⟩
 refine wpAny_newObj_type (wpAny_newFunctionEnv hN.nocell (by intro y hy;simp at hy) (fun h₁ hns₁ hsb₁=>?_) hN.kind)
 have hns₁:h₁.Ns (s2.heap.push { cls:=.type "list",data:=.seq ([]:List Value).toArray }).objs.size (fun _=>none):=hns₁
 have hfD:H2 s2.heap.objs.size=none:=I2.hok.fresh (Nat.le_refl _)
 generalize hD:s2.heap.objs.size=D at hfD
 have I3:Inv X pins σV (upd H2 D (.lst [])) { s2 with heap:=s2.heap.push { cls:=.type "list",data:=.seq ([]:List Value).toArray } }:=by
  rw[←hD]
  exact I2.lnew (its:=[]) (t':=s2.toks) .nil (Nat.zero_le _)
 generalize hs3:({ s2 with heap:=s2.heap.push { cls:=.type "list",data:=.seq ([]:List Value).toArray } }:Shared)=s3 at I3
 have k3:∀b o,s2.heap.get? b=some o→s3.heap.get? b=some o:=fun b o e=>by rw[←hs3];exact Heap.get?_push_of_some _ e
 have fpD:∀b∈fp,b≠D:=fun b hb=>by
  obtain⟨o,e⟩:=ho2 b hb
  rw[←hD]
  exact Nat.ne_of_lt (Heap.lt_size e)
 have f3:∀b∈fp,aeb X pins (upd H2 D (.lst [])) b:=fun b hb=>⟨by rw[aah (fpD b hb)];exact(f2 b hb).1,(f2 b hb).2⟩
 have ho3:∀b∈fp,∃o,s3.heap.get? b=some o:=fun b hb=>let ⟨o,e⟩:=ho2 b hb;⟨o,k3 b o e⟩
 have e3:(s2.heap.push { cls:=.type "list",data:=.seq ([]:List Value).toArray })=s3.heap:=by rw[←hs3]
 rw[e3]at hns₁ hsb₁
 have k4:∀b o,s3.heap.get? b=some o→h₁.get? b=some o:=fun b o e=>hsb₁.extBut b o (Nat.ne_of_lt (Heap.lt_size e)) (Heap.get?_push_of_some _ e)
 obtain⟨XE,hXE⟩:∃XE:Addr→Value→Shared→Prop,XE=fun A=>notedBy (model X.prog X.w) X.A (compEnvC scope (clo X.env.cells scope.names []) A X.env) fun e s'=>compPost (model X.prog X.w) X.A X.xe use Q' (.ref D) A (.error e) s':=⟨_,rfl⟩
 have I4:Inv (cxC X N' scope s3.heap.objs.size fp s3 (upd H2 D (.lst [])) (XE s3.heap.objs.size)) [] (clr σV (slots g)) (upd H2 D (.lst [])) { s3 with heap:=h₁,toks:=s3.toks+([]:List (Str×Value)).length }:=anh hN I3 f3 ho3 hns₁ k4
 have tn4:tn 0 h₁:=T.keep _ _ _ st2 fun b hb o e=>k4 b o (k3 b o e)
 generalize hA:s3.heap.objs.size=A at I4 hns₁ hsb₁
 have hAD:D≠A:=by
  rw[←hA,←hs3]
  show D≠(s2.heap.push _).objs.size
  rw[Heap.size_push,hD]
  exact Nat.ne_of_lt (Nat.lt_succ_self _)
 generalize hY:cxC X N' scope A fp s3 (upd H2 D (.lst [])) (XE A)=Y at I4
 have eP:Y.prog=X.prog:=by rw[←hY];rfl
 have eW:Y.w=X.w:=by rw[←hY];rfl
 have eK:Y.K=X.K:=by rw[←hY];rfl
 have eA:Y.A=X.A:=by rw[←hY];rfl
 have eC:Y.calm=true:=by rw[←hY];exact hc
 have eL:Y.env.locals=A:=by rw[←hY];rfl
 have eS:Y.stack=X.stack:=by rw[←hY];rfl
 have eB:Y.base=X.base:=by rw[←hY];rfl
 have eF:Y.env.frame=X.env.frame:=by rw[←hY];rfl
 have eN:Y.env=compEnvC scope (clo X.env.cells scope.names []) A X.env:=by rw[←hY];rfl
 have stat:∀{H':Hp},(∀b∈fp,H' b=none)→∀b∈fp,aeb Y [] H' b:=fun {H'} hn b hb=>by
  obtain⟨f0,f1,fx,fy,fz,fw⟩:=f2 b hb
  subst hY
  refine⟨hn b hb,?_,?_,.inl hb,fun x c e=>fz x c (afE X.env.cells scope.names [] (fun x c z=>by simp at z) x c e),fun p hp=>absurd (show p∈([]:List (Addr×Obj))from hp) (by simp)⟩
  ·show b≠A
   obtain⟨o,e⟩:=ho3 b hb
   rw[←hA]
   exact Nat.ne_of_lt (Heap.lt_size e)
  ·intro hm
   rcases List.mem_cons.mp (I2.stkSub b hm)with z|z
   ·exact f1 z
   ·exact fx z
 have eX:Y.xe=notedBy (model X.prog X.w) X.A Y.env fun e s'=>compPost (model X.prog X.w) X.A X.xe use Q' (.ref D) A (.error e) s':=by rw[eN,←hY];show XE A=_;rw[hXE]
 have hGY:PG Y tg (gTg G g):=by rw[←hY];exact hG A fp s3 _ _
 have hEY:adn G Y ifs elt f:=by rw[←hY];exact hE A fp s3 _ _
 have back:∀{pins':List (Addr×Obj)}{σ':St}{Hc:Hp}{s':Shared},Inv Y pins' σ' Hc s'→Inv X pins σV Hc s'∧aeb X pins Hc A:=fun {pins' σ' Hc s'} Ic=>by
  have un:Un (frs X.stack) fp (upd H2 D (.lst [])) Hc s3.heap s'.heap:=by
   have:=Ic.base
   subst hY
   exact this
  have hcA:Hc A=none:=by have:=Ic.free;rw[eL]at this;exact this
  have hok:HOk X.prog X.w Hc s'.heap:=by rw[←eP,←eW];exact Ic.hok
  have os:s'.os=s3.os:=by have:=Ic.os;subst hY;exact this
  exact⟨I3.call' (s':=s') (ch:=fp) os un hok Ic.bare fun b hb=>⟨(f2 b hb).2.2.2.1,(f2 b hb).2.1,(f2 b hb).2.2.2.2.1,(f2 b hb).2.2.2.2.2⟩,
   by rw[←hA];exact I3.fpOk (Nat.le_refl _) (by rw[hA];exact hcA)⟩
 have hHD:H D=none:=by
  cases e:H D with
  | none=>rfl
  | some o=>exact absurd hfD (L2.some_ D (by rw[e];intro z;cases z))
 have aaL:∀{pins':List (Addr×Obj)}{σ':St}{Hc:Hp}{c:Nat}{u:Value}{sh:Shared},aaO G Y pins' σ' Hc c u sh→(∀sh',aaO G X pins σV Hc c u sh'→X.xe u sh')→Y.xe u sh:=fun {pins' σ' Hc c u sh} Th hx=>by
  rw[eX]
  obtain⟨env0,outer0,L0,q1,q2,q3⟩:=hfr
  have z:=acr (X:=Y) (E:=fun e s'=>compPost (model X.prog X.w) X.A X.xe use Q' (.ref D) A (.error e) s') (Q:=fun _ s''=>compPost (model X.prog X.w) X.A X.xe use Q' (.ref D) A (.error u) s'') ⟨env0,outer0,L0,eS.trans q1,q2,eF.trans q3⟩ Th fun e h B h1 t L eu I F sb hh=>?_
  ·rw[eP,eW,eA]at z
   exact z
  ·subst eu
   rw[eS]at F hh
   rw[eB]at sb
   obtain⟨IX,fA⟩:=back I
   obtain⟨m,⟨o,es,ep,ho,hd,r⟩,_⟩:=I.loc
   rw[eL]at ho
   have Afr:A∉frs X.stack:=fun z=>by
    rcases List.mem_cons.mp (IX.stkSub A z)with z|z
    ·exact fA.2.1 z
    ·exact fA.2.2.1 z
   have hA1:=F.keep A o ho Afr
   have hAb:∀o,X.base.get? A≠some o:=fun o q=>by
    have:=Heap.lt_size (I3.bk A o q)
    rw[hA]at this
    exact absurd this (Nat.lt_irrefl _)
   have hns:h1.Ns A m:=⟨o,es,ep,hA1,hd,r⟩
   have fin:∀h',Heap.SameBut A h1 h'→∀cenv:Env,cenv.locals=A→wpAny (model X.prog X.w) X.A (passOn "comprehension.variables-let-go" (.ref e) cenv:Sem Value) (fun _ _=>False) X.xe { sh with heap:=h' }:=fun h' hs cenv _=>
    afd IX fA hAb F sb hh ⟨o,hA1,fun vs q=>by rw[hd]at q;cases q⟩ hs hx
   cases use<;>exact⟨m,hns,fin⟩
 have loop:∀s4:Shared,s4={ s3 with heap:=h₁,toks:=s3.toks+([]:List (Str×Value)).length }→
   codeAny (model X.prog X.w) X.A (.compLoop (.ListComp elt [⟨tg,iter,ifs,0⟩] scope pos) 0 (.ref it) (.ref D) Y.env) (compPost (model X.prog X.w) X.A X.xe use Q' (.ref D) A) s4:=by
  rintro s4 rfl
  refine codeAny_loop rfl (fun n s'=>∃(i:Nat) (Hc:Hp) (wc:Wo) (stc':Sto) (accT:List IP.T) (accV:List V),n=ts.length-i∧i≤ts.length∧Inv Y [] (clr σV (slots g)) Hc s'∧tn i s'.heap∧(∀b∈fp,Hc b=none)∧
    Le w2 wc H2 Hc∧StoOk G wc Hc stc'∧Hc D=some (.lst accV)∧aak G wc Hc accT accV∧¬wc.Z D∧notLoc wc D∧accT.length≤i∧
    KK stc'∧adh G X σV w H Q accT (aat (fun t s=>onO (aal σ g t) fun σ'=>kp (f σ' s)) (ts.drop i) stc')) ?_ ts.length
   ⟨0,upd H2 D (.lst []),w2,stc,[],[],rfl,Nat.zero_le _,I4,tn4,fun b hb=>by rw[aah (fpD b hb)];exact(f2 b hb).1,Le.new hfD _,S2.new hfD _,aaq,rfl,(S2.fresh hfD).1,(S2.fresh hfD).2,Nat.le_refl _,hK,hm⟩
  rintro n s' ⟨i,Hc,wc,stc',accT,accV,hn,hi,Ic,tc,fc,Lc,Sc,hDc,rc,nz,nl,hal,hKc,hmr⟩
  have SOc:ai1 G wc Hc stc' J ts:=now wc Hc stc' Lc Sc hKc
  show wpAny _ X.A ((compTurn (.ListComp elt [⟨tg,iter,ifs,0⟩] scope pos) 0 (.ref it) (.ref D) Y.env).onRaise (fun x=>do noteFrame x Y.env;theTreesLotGoes x)) _ _ s'
  refine wpAny_noted ?_
  rw[compTurn_list]
  refine wpAny_bind (wpAny_standAt (wpAny_bind ?_))
  by_cases hlt:i<ts.length
  ·have et:ts[i]?=some ts[i]:=List.getElem?_eq_getElem hlt
   have ed:ts.drop i=ts[i]::ts.drop (i+1):=List.drop_eq_getElem_cons hlt
   rw[ed]at hmr
   obtain⟨σ',hb⟩:∃σ',aal σ g ts[i]=some σ':=by
    rcases ab8 hmr with⟨o,s1,q,_⟩|⟨c,s1,q,_⟩
    ·obtain⟨a,q,_⟩:=age q;exact⟨a,q⟩
    ·obtain⟨a,q,_⟩:=abP q;exact⟨a,q⟩
   obtain⟨go,yld⟩:=SOc.1 _ _ et
   have hsm:=SOc.2.2 _ _ _ _ Ic
   have z:=T.item Y eP eW eK eC i [] s' (clr σV (slots g)) Hc (notedBy (model X.prog X.w) X.A Y.env fun e s'=>compPost (model X.prog X.w) X.A X.xe use Q' (.ref D) A (.error e) s') Ic (stat fc) tc go
   rw[eA]at z
   refine thn z fun r s5 ⟨u,hr,h5⟩=>?_
   subst hr
   refine wpAny_bind (thn h5 fun _ s6 ⟨x,H6,I6,r6,y6,t6,f6⟩=>?_)
   obtain⟨w6,L6,S6,rx⟩:=yld x H6 y6
   have rc:=aak.mono L6 Sc _ _ rc
   have Lc:=Lc.trans L6
   have nz:¬w6.Z D:=fun z=>by
    rcases L6.newZ D z with z|z
    ·exact nz z
    ·rw[hDc]at z;cases z
   have hD6:=L6.keep D _ hDc nl
   have nl:=notLoc.mono L6 (by rw[hDc];intro z;cases z) nl
   have hDc:=hD6
   have Sc:=S6
   have I6':=I6.pinned (stat f6) (T.obj _ _ t6)
   have hgd:Good G w₀ H₀ w6 H6 σ stc' σV:=(gd.step L2 S2).step Lc Sc
   have zg:=hGY _ s6 (clr σV (slots g)) H6 x u (fun σ7 H7=>H7=H6∧∃vs,σ7=aaX σV (slots g) vs∧FrOk G w6 H6 H₀ σ' (aaX σV (slots g) vs)) I6' r6
    ⟨w6,stc',ts[i],σ,σ',Sc,rx,hb,fun vs hfr hl=>⟨rfl,vs,aeP hnd hl.symm,hfr H₀ σV hgd.fr⟩⟩
   rw[eP,eW,eA]at zg
   rw[eX]at zg
   refine wpAny_bind (thn zg fun _ s7 ⟨σ7,H7,I7,eH7,vs,e7,F7⟩=>?_)
   obtain rfl:H6=H7:=eH7.symm
   subst e7
   have okc:∀o st1,f σ' stc'=.ok o st1→KK st1∧adh G X σV w H Q (accT++afQ o []) (aat (fun t s=>onO (aal σ g t) fun σ'=>kp (f σ' s)) (ts.drop (i+1)) st1):=fun o st1 e=>by
    rcases ab8 hmr with⟨o2,s2,q,h⟩|⟨c,s2,q,_⟩
    ·obtain⟨a,q1,q2⟩:=age q
     rw[hb]at q1;cases q1
     obtain⟨q3,q4⟩:=(hkp _).1 _ _ q2
     rw[e]at q3;cases q3
     exact⟨q4,h⟩
    ·obtain⟨a,q1,q2⟩:=abP q
     rw[hb]at q1;cases q1
     have q3:=(hkp _).2 _ _ q2
     rw[e]at q3;cases q3
   have zt:=hEY _ s7 _ H6 w₀ H₀ w6 σ' stc' (fun vo H8=>∃w8 o st1,f σ' stc'=.ok o st1∧Le w6 w8 H6 H8∧StoOk G w8 H8 st1∧avG G w8 H8 o vo) I7 ⟨Sc,F7,hgd.ent⟩ (by
    cases hf:f σ' stc' with
    | ok o st1=>exact fun w8 H8 vo L8 S8 R8=>⟨w8,o,st1,rfl,L8,S8,R8⟩
    | stuck=>
     rcases ab8 hmr with⟨o2,s2,q,h⟩|⟨c,s2,q,_⟩
     ·obtain⟨a,q1,q2⟩:=age q
      rw[hb]at q1;cases q1
      have:=((hkp _).1 _ _ q2).1
      rw[hf]at this;cases this
     ·obtain⟨a,q1,q2⟩:=abP q
      rw[hb]at q1;cases q1
      have:=(hkp _).2 _ _ q2
      rw[hf]at this;cases this
    | exc c s1=>
     rcases ab8 hmr with⟨o2,s2,q,h⟩|⟨c,s2,q,h⟩
     ·obtain⟨a,q1,q2⟩:=age q
      rw[hb]at q1;cases q1
      have:=((hkp _).1 _ _ q2).1
      rw[hf]at this;cases this
     ·obtain⟨a,q1,q2⟩:=abP q
      rw[hb]at q1;cases q1
      have:=(hkp _).2 _ _ q2
      rw[hf]at this;cases this
      exact fun w8 H8 pins8 u8 sh8 L8 S8 T8=>aaL T8 fun sh'=>h w8 H8 pins u8 sh' (L2.trans (Lc.trans L8)) S8)
   rw[eP,eW,eA,eX]at zt
   have next:∀(st1:Sto) (s8:Shared) (H8:Hp) (w8:Wo) (accT':List IP.T) (accV':List V),KK st1→Inv Y ([]++adx fp s6.heap) (aaX σV (slots g) vs) H8 s8→Le w2 w8 H2 H8→StoOk G w8 H8 st1→H8 D=some (.lst accV')→aak G w8 H8 accT' accV'→¬w8.Z D→notLoc w8 D→accT'.length≤i+1→adh G X σV w H Q accT' (aat (fun t s=>onO (aal σ g t) fun σ'=>kp (f σ' s)) (ts.drop (i+1)) st1)→
     ∃m,m<n∧∃(i:Nat) (H6:Hp) (w6:Wo) (stc':Sto) (accT:List IP.T) (accV:List V),m=ts.length-i∧i≤ts.length∧Inv Y [] (clr σV (slots g)) H6 s8∧tn i s8.heap∧(∀b∈fp,H6 b=none)∧
      Le w2 w6 H2 H6∧StoOk G w6 H6 stc'∧H6 D=some (.lst accV)∧aak G w6 H6 accT accV∧¬w6.Z D∧notLoc w6 D∧accT.length≤i∧
      KK stc'∧adh G X σV w H Q accT (aat (fun t s=>onO (aal σ g t) fun σ'=>kp (f σ' s)) (ts.drop i) stc'):=by
    intro st1 s8 H8 w8 accT' accV' hK1 I8 L8 S8 hD8 r8 nz8 nl8 hl8 hq8
    have hpin:∀b∈fp,∀o,s6.heap.get? b=some o→s8.heap.get? b=some o∧H8 b=none:=fun b hb o e=>by
     have:=I8.pin (b,o) (List.mem_append_right _ (List.mem_append_right _ (abY hb e)))
     exact⟨this.1,this.2.1⟩
    refine⟨ts.length-(i+1),by omega,i+1,H8,w8,st1,accT',accV',rfl,hlt,?_,T.keep _ _ _ t6 fun b hb o e=>(hpin b hb o e).1,fun b hb=>?_,L8,S8,hD8,r8,nz8,nl8,hl8,hK1,hq8⟩
    ·refine Inv.unpinned (pins:=[]) (pl:=adx fp s6.heap) (I8.weak ?_ fun j v e=>?_)
     ·rw[aiI,aeO]
     ·obtain⟨e1,e2⟩:=ahQ _ _ _ _ e
      rw[ae4 e2]
      exact e1
    ·obtain⟨o,e,_⟩:=T.obj _ _ t6 b hb
     exact(hpin b hb o e).2
   refine wpAny_bind (thn zt fun ok s8 h8=>?_)
   have nzD:∀{w8:Wo}{H8:Hp},Le w6 w8 H6 H8→¬w8.Z D:=fun L8 z=>by
    rcases L8.newZ D z with z|z
    ·exact nz z
    ·rw[hDc]at z;cases z
   have nlD:∀{w8:Wo}{H8:Hp},Le w6 w8 H6 H8→notLoc w8 D:=fun L8=>notLoc.mono L8 (by rw[hDc];intro z;cases z) nl
   cases ok with
   | false=>
    simp only[Bool.false_eq_true,if_false]at h8 ⊢
    obtain⟨H8,I8,w8,o,st1,hfo,L8,S8,R8⟩:=h8
    obtain⟨hK1,hm1⟩:=okc o st1 hfo
    have eo:o=none:=by cases o with|none=>rfl|some t=>exact R8.elim
    subst eo
    rw[agY,List.append_nil]at hm1
    exact wpAny_pure ⟨rfl,next st1 s8 H8 w8 accT accV hK1 I8 (Lc.trans L8) S8 (L8.keep D _ hDc nl) (aak.mono L8 Sc _ _ rc) (nzD L8) (nlD L8) (by omega) hm1⟩
   | true=>
    simp only[if_true]at h8 ⊢
    refine wpAny_bind (wpAny_bind (thn h8 fun u9 s9 ⟨v9,H9,I9,r9,w9,o,st1,hfo,L9,S9,R9⟩=>?_))
    obtain⟨hK1,hm1⟩:=okc o st1 hfo
    have eo:∃t9,o=some t9:=by cases o with|none=>exact R9.elim|some t=>exact⟨t,rfl⟩
    obtain⟨t9,rfl⟩:=eo
    have R9:Rep G w9 H9 t9 v9:=R9
    have hD9:=L9.keep D _ hDc nl
    have hlen:accV.length<sizeLine:=by
     rw[←rc.length]
     have:=hsm
     omega
    have za:=ak1 (E:=notedBy (model X.prog X.w) X.A Y.env fun e s'=>compPost (model X.prog X.w) X.A X.xe use Q' (.ref D) A (.error e) s') I9 r9 hD9 hlen fun s10 I10=>
     next st1 s10 _ w9 (accT++[t9]) (accV++[v9]) hK1 I10 ((Lc.trans L9).updNew hfD (by rw[hD9];intro z;cases z)) (S9.upd hD9 (nzD L9) (nlD L9)) aaq
      (aak.upd hD9 (nzD L9) _ _ ((aak.mono L9 Sc _ _ rc).append ⟨v9,[],rfl,R9,rfl⟩)) (nzD L9) (nlD L9) (by rw[List.length_append,List.length_singleton];omega) hm1
    rw[eP,eW,eA]at za
    exact wpAny_bind (thn za fun _ s10 h10=>wpAny_pure (wpAny_pure ⟨rfl,h10⟩))
  ·have ei:i=ts.length:=by omega
   subst ei
   rw[List.drop_length]at hmr
   have hmr:∀w' H' a vs,Le w w' H H'→StoOk G w' H' stc'→H' a=some (.lst vs)→aak G w' H' (accT++[]) vs→H a=none→¬w'.Z a→notLoc w' a→Q (.ref a) H':=hmr
   rw[List.append_nil]at hmr
   have z:=T.done Y eP eW eK eC ts.length [] s' (clr σV (slots g)) Hc (notedBy (model X.prog X.w) X.A Y.env fun e s'=>compPost (model X.prog X.w) X.A X.xe use Q' (.ref D) A (.error e) s') Ic (stat fc) tc SOc.2.1
   rw[eA]at z
   refine thn z fun r s5 ⟨hr,I5⟩=>?_
   subst hr
   obtain⟨m5,hm5,_⟩:=I5.loc
   rw[eL]at hm5
   exact wpAny_pure (hfin s5 Hc A D (back I5).1 (back I5).2 ⟨m5,hm5⟩ (hmr wc Hc D accV (L2.trans Lc) Sc hDc rc hHD nz nl))
 show codeAny (model X.prog X.w) X.A (.compStart (.ListComp elt [⟨tg,iter,ifs,0⟩] scope pos) 0 (.ref it) (.ref D) (compEnvC scope (clo X.env.cells scope.names []) A X.env)) (compPost (model X.prog X.w) X.A X.xe use Q' (.ref D) A) _
 rw[←eN]
 exact codeAny_compStart_list (loop _ rfl) (T.self _ 0 _ _ _ tn4 (loop _ rfl))
theorem ae2(hfr:af9 X)(hc:X.calm=true)(hN:CompN X scope N' (slots g))(hnd:(slots g).Nodup)(hI:PI X tg iter (tI G X C it' .i false))
  (hG:∀A fp s2 H2 xe,PG (cxC X N' scope A fp s2 H2 xe) tg (gTg G g)) (hE:∀A fp s2 H2 xe,adn G (cxC X N' scope A fp s2 H2 xe) ifs elt f) (hs:∀x,foldedSetIterable iter X.env x=pure x)
  {pins:List (Addr×Obj)}{s:Shared}{σV:St}{H:Hp}{w₀ w:Wo}{H₀:Hp}{σ:Fr}{st:Sto}{Q:VK} (I:Inv X pins σV H s) (gd:Good G w₀ H₀ w H σ st σV)
  (h:aa7 G X σV w H ((ev C it' .i σ st).bind fun x s1=>onL x fun ts=>(aat (fun t s=>onO (aal σ g t) fun σ'=>f σ' s) ts s1).bind fun q s2=>.ok (.val (.lst q)) s2) Q)
  {use:Option (Value→Sem Unit)}{Q':Value→Shared→Prop}
  (hfin:∀(s':Shared) (Hc:Hp) (A D:Addr),Inv X pins σV Hc s'→aeb X pins Hc A→(∃m,s'.heap.Ns A m)→Q (.ref D) Hc→compPost (model X.prog X.w) X.A X.xe use Q' (.ref D) A (.ok .next) s'):
  wpAny (model X.prog X.w) X.A (comprehension (.ListComp elt [⟨tg,iter,ifs,0⟩] scope pos) scope X.env (firstIterPos [⟨tg,iter,ifs,0⟩] pos) (newList []) false (eval iter X.env) use) Q' X.xe s:=by
 refine ahc hfr hc hN hnd hI hG hE hs I gd ?_ hfin
 refine⟨w₀,H₀,w,σ,st,gd,?_⟩
 cases he:ev C it' .i σ st with
 | stuck=>rw[he]at h;exact h
 | exc c s1=>rw[he]at h;exact h
 | ok x s1=>
  rw[he]at h
  match x,h with
  | .val (.lst ts),h=>
   intro w2 H2 src L S SO
   have h:aa7 G X σV w H ((aat (fun t s=>onO (aal σ g t) fun σ'=>f σ' s) ts s1).bind fun q s2=>.ok (.val (.lst q)) s2) Q:=h
   refine⟨w2,ts,s1,fun _=>True,id,L,S,fun w' H' s' L' S' _=>(SO.mono L' S).now.walked S',trivial,fun r=>⟨fun o s' e=>⟨e,trivial⟩,fun c s' e=>e⟩,?_⟩
   cases hm:aat (fun t s=>onO (aal σ g t) fun σ'=>f σ' s) ts s1 with
   | stuck=>rw[hm]at h;exact h.elim
   | exc c s2=>rw[hm]at h;show adh G X σV w H Q [] (aat (fun t s=>onO (aal σ g t) fun σ'=>f σ' s) ts s1);rw[hm];exact h
   | ok q st'=>rw[hm]at h;show adh G X σV w H Q [] (aat (fun t s=>onO (aal σ g t) fun σ'=>f σ' s) ts s1);rw[hm];exact h
  | .val .non,h=>exact h.elim
  | .val (.bl _),h=>exact h.elim
  | .val (.int _),h=>exact h.elim
  | .val (.str _),h=>exact h.elim
  | .val (.tup _),h=>exact h.elim
  | .val (.loc _),h=>exact h.elim
  | .val (.exc _),h=>exact h.elim
  | .bor _,h=>exact h.elim
theorem avd{pins:List (Addr×Obj)}{s:Shared}{σV:St}{H:Hp}{A:Addr}{h':Heap}(I:Inv X pins σV H s)(fA:aeb X pins H A)(sb:Heap.SameBut A s.heap h'):Inv X pins σV H { s with heap:=h' }:=
 I.turned (t':=s.toks) (fun b o ne e=>(sb.2 b ne).trans e) fA.1 fA.2.1 fA.2.2.2.1 fA.2.2.2.2.1 fA.2.2.2.2.2
theorem akv(hc:X.calm=true)(hN:CompN X scope N' (slots g))(hnd:(slots g).Nodup)(hI:PI X tg iter (tI G X C it' .i false))
  (hG:∀A fp s2 H2 xe,PG (cxC X N' scope A fp s2 H2 xe) tg (gTg G g)) (hE:∀A fp s2 H2 xe,adn G (cxC X N' scope A fp s2 H2 xe) ifs elt f) (hs:∀x,foldedSetIterable iter X.env x=pure x)
  (hev:∀σ s,ev C ce .v σ s=(ev C it' .i σ s).bind fun x s1=>onL x fun ts=>(aat (fun t s=>onO (aal σ g t) fun σ'=>f σ' s) ts s1).bind fun q s2=>.ok (.val (.lst q)) s2) (hfr:af9 X:=by exact⟨_,_,_,rfl,rfl,rfl⟩):
  PE X (.ListComp elt [⟨tg,iter,ifs,0⟩] scope pos) (tO G X C ce):=by
 rintro pins s σV H Q I ⟨w₀,H₀,w,σ,st,gd,h⟩
 rw[hev]at h
 rw[eval_ListComp]
 refine ae2 hfr hc hN hnd hI hG hE hs I gd h (use:=none) fun s' Hc A D I' fA ⟨m,hm⟩ q=>?_
 exact⟨m,hm,fun h' sb=>⟨.ref D,Hc,avd I' fA sb,rfl,q⟩⟩
theorem akt{y:Str}{py spos:Pos}{i:Nat}(hc:X.calm=true)(hN:CompN X scope N' (slots g))(hnd:(slots g).Nodup)(hI:PI X tg iter (tI G X C it' .i false))
  (hG:∀A fp s2 H2 xe,PG (cxC X N' scope A fp s2 H2 xe) tg (gTg G g)) (hE:∀A fp s2 H2 xe,adn G (cxC X N' scope A fp s2 H2 xe) ifs elt f) (hs:∀x,foldedSetIterable iter X.env x=pure x)
  (hev:∀σ s,ev C ce .v σ s=(ev C it' .i σ s).bind fun x s1=>onL x fun ts=>(aat (fun t s=>onO (aal σ g t) fun σ'=>f σ' s) ts s1).bind fun q s2=>.ok (.val (.lst q)) s2)
  (hsw:swapsWith (.ListComp elt [⟨tg,iter,ifs,0⟩] scope pos) (some (.Name y py)) spos.line X.env=pure true) (hXN:X.N.Nodup) (hi:X.N[i]?=some y) (hy:X.env.scope.names.lookup y=some .local) (hfr:af9 X:=by exact⟨_,_,_,rfl,rfl,rfl⟩):
  PS X (.Assign [.Name y py] (.ListComp elt [⟨tg,iter,ifs,0⟩] scope pos) spos) (fun D σV H=>tO G X C ce σV H fun v H1=>D.nx (σV.set i (some v)) H1):=by
 rintro pins s σV H DD I ⟨w₀,H₀,w,σ,st,gd,h⟩
 rw[hev]at h
 rw[exec_Assign_Name_used _ _ _ _ hsw]
 refine wpAny_bind (wpAny_standAt (wpAny_bind ?_))
 show wpAny _ X.A (do let _ ←comprehension (.ListComp elt [⟨tg,iter,ifs,0⟩] scope pos) scope X.env _ (newList []) false (eval iter X.env) (some (assign (.Name y py) X.env))) _ _ s
 refine wpAny_bind (thn (ae2 (pos:=pos) hfr hc hN hnd hI hG hE hs I gd h (use:=some (assign (.Name y py) X.env)) (Q':=fun _ s'=>SP X pins DD .next s') fun s' Hc A D I' fA ⟨m,hm⟩ q=>?_) fun _ s' hq=>wpAny_pure (wpAny_pure hq))
 refine wpAny_assign_Name (ae9 (v:=.ref D) I' hXN hi (.inl hy) rfl (fun s'' I'' ⟨a,sb,ha⟩=>?_) (.inr hy))
 have neA:A≠a:=fun z=>by
  subst z
  rcases ha with ha|ha
  ·exact fA.2.1 ha
  ·exact fA.2.2.2.2.1 y _ ha rfl
 refine⟨m,?_,fun h' sb'=>?_⟩
 ·obtain⟨o,es,ep,e,r⟩:=hm
  exact⟨o,es,ep,(sb.2 A neA).trans e,r⟩
 ·exact⟨_,Hc,avd I'' fA sb',q⟩
theorem aiH{Y:Cx}{elt:Expr}{e':E}(hE:PE Y elt (tV G Y C e')):adn G Y [] elt (fun σ st=>one (ev C e' .v σ st)):=by
 intro pins s σV H w₀ H₀ w σ st Q I gd hf
 refine wpAny_tests_nil ?_
 rw[if_pos rfl]
 dsimp only at hf
 refine hE pins s σV H (fun v H'=>Q (some v) H') I ⟨w₀,H₀,w,σ,st,gd,?_⟩
 cases he:ev C e' .v σ st with
 | stuck=>rw[he]at hf;exact hf
 | exc c s1=>rw[he]at hf;exact hf
 | ok r s1=>
  rw[he]at hf
  match r,hf with
  | .val t,hf=>exact fun w' H' v L S R=>hf w' H' (some v) L S R
  | .bor ts,hf=>exact hf.elim
end
def Own(σ:Fr)(σV:St)(a:Addr):Prop:=∃(i:Nat) (ts:List T),σ[i]?=some (some (.own ts))∧σV[i]?=some (some (.ref a))
structure LeS(w w':Wo)(H H':Hp)(σ σ':Fr)(σV σV':St):Prop where
 n:w.n≤w'.n
 io:∀l,l<w.n→w'.io l=w.io l
 Z:∀a,w.Z a→w'.Z a
 keep:∀a o,H a=some o→notLoc w a→¬Own σ σV a→H' a=some o
 newL:∀l,w.n≤l→l<w'.n→H (w'.io l)=none
 some_:∀a,H a≠none→H' a≠none
 own:∀a,Own σ' σV' a→Own σ σV a∨H a=none
 lk:∀(i:Nat) (ts:List T),σ'[i]?=some (some (.lck ts))→(∃us,σ[i]?=some (some (.lck us)))∧σV'[i]?=σV[i]?
section
variable{G:Gx}{X:Cx}{C:Cf}{w w' w₀:Wo}{H H' H₀:Hp}{σ σ':Fr}{σV σV':St}
theorem LeS.refl:LeS w w H H σ σ σV σV:=⟨Nat.le_refl _,fun _ _=>rfl,fun _ z=>z,fun _ _ e _ _=>e,fun l a b=>absurd (Nat.lt_of_lt_of_le b a) (Nat.lt_irrefl _),fun _ z=>z,fun _ z=>.inl z,fun i ts e=>⟨⟨ts,e⟩,rfl⟩⟩
theorem LeS.notLoc(L:LeS w w' H H' σ σ' σV σV'){a:Addr}(h:H a≠none)(nl:IP.notLoc w a):IP.notLoc w' a:=fun l hl q=>by
 by_cases k:l<w.n
 ·exact nl l k (q.trans (L.io l k))
 ·have:=L.newL l (Nat.le_of_not_lt k) hl
  rw[←q]at this
  exact h this
theorem LeS.trans{w2:Wo}{H2:Hp}{σ2:Fr}{σV2:St}(a:LeS w w' H H' σ σ' σV σV')(b:LeS w' w2 H' H2 σ' σ2 σV' σV2):LeS w w2 H H2 σ σ2 σV σV2 where
 n:=Nat.le_trans a.n b.n
 io:=fun l h=>(b.io l (Nat.lt_of_lt_of_le h a.n)).trans (a.io l h)
 Z:=fun x z=>b.Z x (a.Z x z)
 keep:=fun x o e nl no=>by
  have hn:H x≠none:=by rw[e];intro z;cases z
  refine b.keep x o (a.keep x o e nl no) (a.notLoc hn nl) fun z=>?_
  rcases a.own x z with z|z
  ·exact no z
  ·exact hn z
 newL:=fun l h1 h2=>by
  by_cases h:l<w'.n
  ·rw[b.io l h]
   exact a.newL l h1 h
  ·have q:=b.newL l (Nat.le_of_not_lt h) h2
   cases e:H (w2.io l)with
   | none=>rfl
   | some o=>exact absurd q (a.some_ _ (by rw[e];intro z;cases z))
 some_:=fun x z=>b.some_ x (a.some_ x z)
 own:=fun x z=>by
  rcases b.own x z with z|z
  ·exact a.own x z
  ·refine .inr ?_
   cases e:H x with
   | none=>rfl
   | some o=>exact absurd z (a.some_ x (by rw[e];intro q;cases q))
 lk:=fun i ts e=>by
  obtain⟨⟨us,h1⟩,h2⟩:=b.lk i ts e
  obtain⟨h3,h4⟩:=a.lk i us h1
  exact⟨h3,h2.trans h4⟩
theorem LeS.of(L:Le w w' H H'):LeS w w' H H' σ σ σV σV:=⟨L.n,L.io,L.Z,fun a o e nl _=>L.keep a o e nl,L.newL,L.some_,fun _ z=>.inl z,fun i ts e=>⟨⟨ts,e⟩,rfl⟩⟩
structure Kp(w w':Wo)(H H':Hp):Prop where
 n:w.n≤w'.n
 io:∀l,l<w.n→w'.io l=w.io l
 Z:∀a,w.Z a→w'.Z a
 z:∀a u,w.Z a→Rd H a u→Rd H' a u
 t:∀a vs,H a=some (.tup vs)→H' a=some (.tup vs)
 x:∀a φ,H a=some (.ext φ)→H' a=some (.ext φ)
mutual
theorem Rep.kp(L:Kp w w' H H'):∀(t:T) (v:V),Rep G w H t v→Rep G w' H' t v
 | .non,v,h=>h
 | .bl b,v,h=>h
 | .int i,v,h=>h
 | .str x,v,h=>h
 | .tup ts,v,⟨a,vs,e,h,r⟩=>⟨a,vs,e,L.t _ _ h,aak.kp L ts vs r⟩
 | .lst ts,v,⟨a,vs,e,z,h,r⟩=>⟨a,vs,e,L.Z _ z,L.z _ _ z h,aak.kp L ts vs r⟩
 | .loc l,v,⟨h,e⟩=>⟨Nat.lt_of_lt_of_le h L.n,by rw[L.io l h];exact e⟩
 | .exc c,v,⟨a,e,h⟩=>⟨a,e,L.x _ _ h⟩
theorem aak.kp(L:Kp w w' H H'):∀(ts:List T) (vs:List V),aak G w H ts vs→aak G w' H' ts vs
 | [],vs,h=>h
 | t::ts,vs,⟨v,r,e,h,q⟩=>⟨v,r,e,Rep.kp L t v h,aak.kp L ts r q⟩
end
theorem FrOk.notOwnZ(F:FrOk G w H H₀ σ σV){a:Addr}(z:w.Z a):¬Own σ σV a:=fun⟨i,ts,e1,e2⟩=>by
 obtain⟨b,vs,h1,_,_,_,h5,_⟩:=F.own i _ ts e1 rfl
 rw[e2]at h1
 cases h1
 exact h5 z
theorem FrOk.notOwnT(F:FrOk G w H H₀ σ σV){a:Addr}{o:HO}(e:H a=some o)(h:∀vs,o≠.lst vs):¬Own σ σV a:=fun⟨i,ts,e1,e2⟩=>by
 obtain⟨b,vs,h1,h2,_⟩:=F.own i _ ts e1 rfl
 rw[e2]at h1
 cases h1
 rw[e]at h2
 exact h vs (Option.some.inj h2)
theorem LeS.kp{s:Sto}(L:LeS w w' H H' σ σ' σV σV')(S:StoOk G w H s)(F:FrOk G w H H₀ σ σV):Kp w w' H H' where
 n:=L.n
 io:=L.io
 Z:=L.Z
 z:=fun a u z r=>by
  have no:=F.notOwnZ z
  rcases r with r|⟨o,r⟩
  ·exact .inl (L.keep _ _ r (S.zLoc z) no)
  ·exact .inr ⟨o,L.keep _ _ r (S.zLoc z) no⟩
 t:=fun a vs e=>L.keep _ _ e (S.notLoc e (fun _ z=>by cases z) fun _ _ _ z=>by cases z) (F.notOwnT e fun _ z=>by cases z)
 x:=fun a φ e=>L.keep _ _ e (S.notLoc e (fun _ z=>by cases z) fun _ _ _ z=>by cases z) (F.notOwnT e fun _ z=>by cases z)
def aan(G:Gx)(X:Cx)(w₀:Wo)(H₀:Hp)(w:Wo)(H:Hp)(σ:Fr)(σV:St)(res:SR)(D:Ends):Prop:=match res with
 | .stuck=>False
 | .next σ' s'=>∀w' H' σV',Good G w₀ H₀ w' H' σ' s' σV'→LeS w w' H H' σ σ' σV σV'→D.nx σV' H'
 | .ret r s'=>∀w' H' v,StoOk G w' H' s'→aaM G w' H' r v→Le w₀ w' H₀ H'→D.rt v H'
 | .retO ts s'=>∀w' H' a vs,StoOk G w' H' s'→H' a=some (.lst vs)→aak G w' H' ts vs→H₀ a=none→¬w'.Z a→notLoc w' a→Le w₀ w' H₀ H'→D.rt (.ref a) H'
 | .exc c σ' s'=>∀w' H' σV' pins u sh,Good G w₀ H₀ w' H' σ' s' σV'→LeS w w' H H' σ σ' σV σV'→aaO G X pins σV' H' c u sh→X.xe u sh
def tS(G:Gx)(X:Cx)(C:Cf)(a:S):TS:=fun D σV H=>∃w₀ H₀ w σ s,Good G w₀ H₀ w H σ s σV∧aan G X w₀ H₀ w H σ σV (ex C a σ s) D
def tSs(G:Gx)(X:Cx)(C:Cf)(a:List S):TS:=fun D σV H=>∃w₀ H₀ w σ s,Good G w₀ H₀ w H σ s σV∧aan G X w₀ H₀ w H σ σV (exs C a σ s) D
theorem PS.imp{st:Stmt}{t t':TS}(h:PS X st t)(q:∀D σ H,t' D σ H→t D σ H):PS X st t':=fun pins s σ H D I z=>h pins s σ H D I (q _ _ _ z)
theorem PSs.imp{st:List Stmt}{t t':TS}(h:PSs X st t)(q:∀D σ H,t' D σ H→t D σ H):PSs X st t':=fun pins s σ H D I z=>h pins s σ H D I (q _ _ _ z)
theorem aan.mono{res:SR}{D:Ends}(L:LeS w w' H H' σ σ' σV σV')(h:aan G X w₀ H₀ w H σ σV res D):aan G X w₀ H₀ w' H' σ' σV' res D:=by
 cases res with
 | stuck=>exact h
 | next σ2 s2=>exact fun w2 H2 σV2 g M=>h w2 H2 σV2 g (L.trans M)
 | ret r s2=>exact h
 | retO ts s2=>exact h
 | exc c σ2 s2=>exact fun w2 H2 σV2 pins u sh g M=>h w2 H2 σV2 pins u sh g (L.trans M)
theorem aan.bind{m:SR}{k:Fr→Sto→SR}{D:Ends}{u:TS}(h:aan G X w₀ H₀ w H σ σV (m.bind k) D)
  (hu:∀w1 H1 σ1 s1 σV1,Good G w₀ H₀ w1 H1 σ1 s1 σV1→aan G X w₀ H₀ w1 H1 σ1 σV1 (k σ1 s1) D→u D σV1 H1):aan G X w₀ H₀ w H σ σV m { D with nx:=u D }:=by
 cases m with
 | stuck=>exact h
 | next σ2 s2=>exact fun w2 H2 σV2 g L=>hu w2 H2 σ2 s2 σV2 g (aan.mono L h)
 | ret r s2=>exact h
 | retO ts s2=>exact h
 | exc c σ2 s2=>exact h
theorem amK:PSs X [] (tSs G X C []):=PSs.imp amd fun D σV H ⟨w₀,H₀,w,σ,s,g,h⟩=>h w H σV g LeS.refl
theorem ajJ{st:Stmt}{rest:List Stmt}{a:S}{as:List S}(h1:PS X st (tS G X C a))(h2:PSs X rest (tSs G X C as)):PSs X (st::rest) (tSs G X C (a::as)):=by
 refine PSs.imp (ak7 h1 h2) ?_
 rintro D σV H ⟨w₀,H₀,w,σ,s,g,h⟩
 refine⟨w₀,H₀,w,σ,s,g,aan.bind h fun w1 H1 σ1 s1 σV1 g1 h1=>?_⟩
 exact⟨w₀,H₀,w1,σ1,s1,g1,h1⟩
theorem abW{m:Res R}{k:R→Sto→SR}{D:Ends}{s:Sto}(g:Good G w₀ H₀ w H σ s σV)(h:aan G X w₀ H₀ w H σ σV (m.st σ k) D):
  aa0 G X σV w H m fun v H1=>∃w1 r s1,Le w w1 H H1∧StoOk G w1 H1 s1∧aaM G w1 H1 r v∧Good G w₀ H₀ w1 H1 σ s1 σV∧aan G X w₀ H₀ w1 H1 σ σV (k r s1) D:=by
 cases m with
 | stuck=>exact h
 | ok r s1=>exact fun w1 H1 v L S R=>⟨w1,r,s1,L,S,R,g.step L S,aan.mono (LeS.of L) h⟩
 | exc c s1=>exact fun w1 H1 pins u sh L S T=>h w1 H1 σV pins u sh (g.step L S) (LeS.of L) T
theorem abf{α:Type}{o:Option α}{f:α→SR}{D:Ends}(h:aan G X w₀ H₀ w H σ σV (onS o f) D):∃a,o=some a∧aan G X w₀ H₀ w H σ σV (f a) D:=by
 cases o with
 | none=>exact h.elim
 | some a=>exact⟨a,rfl,h⟩
theorem adj{r:R}{t:T}(h:r.val?=some t):r=.val t:=by
 cases r with
 | val u=>cases h;rfl
 | bor u=>cases h
theorem alQ{i:Nat}{b:Option B}{x:Option V}(hb:∀ts,b≠some (.own ts)){a:Addr}(h:Own (σ.set i b) (σV.set i x) a):Own σ σV a:=by
 obtain⟨j,ts,e1,e2⟩:=h
 by_cases hj:i=j
 ·subst hj
  have hlt:i<σ.length:=by
   have:=(List.getElem?_eq_some_iff.mp e1).1
   simpa using this
  rw[List.getElem?_set_self hlt]at e1
  exact absurd (Option.some.inj e1) (hb ts)
 ·rw[List.getElem?_set_ne hj]at e1 e2
  exact⟨j,ts,e1,e2⟩
theorem apu{i:Nat}{b:Option B}{x:Option V}(hb:∀ts,b≠some (.lck ts))(j:Nat)(ts:List T)(e:(σ.set i b)[j]?=some (some (.lck ts))):(∃us,σ[j]?=some (some (.lck us)))∧(σV.set i x)[j]?=σV[j]?:=by
 by_cases hj:i=j
 ·subst hj
  have hlt:i<σ.length:=by
   have:=(List.getElem?_eq_some_iff.mp e).1
   simpa using this
  rw[List.getElem?_set_self hlt]at e
  exact absurd (Option.some.inj e) (hb ts)
 ·rw[List.getElem?_set_ne hj]at e ⊢
  exact⟨⟨ts,e⟩,rfl⟩
theorem LeS.set{i:Nat}{b:Option B}{x:Option V}(hb:∀ts,b≠some (.own ts))(hb':∀ts,b≠some (.lck ts)):LeS w w H H σ (σ.set i b) σV (σV.set i x):=
 ⟨Nat.le_refl _,fun _ _=>rfl,fun _ z=>z,fun _ _ e _ _=>e,fun l a b=>absurd (Nat.lt_of_lt_of_le b a) (Nat.lt_irrefl _),fun _ z=>z,fun a z=>.inl (alQ hb z),apu hb'⟩
theorem LeS.put{i:Nat}{t:T}{v:V}:LeS w w H H σ (IP.put σ i t) σV (σV.set i (some v)):=LeS.set (by intro ts z;cases z) (by intro ts z;cases z)
theorem Good.put{s:Sto}{i:Nat}{t:T}{v:V}(g:Good G w₀ H₀ w H σ s σV)(r:Rep G w H t v):Good G w₀ H₀ w H (IP.put σ i t) s (σV.set i (some v)):=⟨g.sto,g.fr.put r,g.ent⟩
variable{e:Expr}{e':E}{x:Str}{pos pos':Pos}{i:Nat}
theorem anU(hN:X.N.Nodup)(hi:X.N[i]?=some x)(hx:Loc X.env.scope x)(he:PE X e (tV G X C e'))(hs:swapsWith e (some (.Name x pos')) pos.line X.env=pure false)(hf:X.fn x=true∨X.env.scope.names.lookup x=some .local):
  PS X (.Assign [.Name x pos'] e pos) (tS G X C (.asg i e')):=by
 refine PS.imp (akO hN hi hx he hs hf) ?_
 rintro D σV H ⟨w₀,H₀,w,σ,s,g,h⟩
 refine⟨w₀,H₀,w,σ,s,g,(abW g h).imp ?_⟩
 rintro v H1 ⟨w1,r,s1,L1,S1,R1,g1,h1⟩
 obtain⟨t,ht,h1⟩:=abf h1
 cases adj ht
 exact h1 w1 H1 _ (g1.put R1) LeS.put
theorem apw(he:PE X e (tV G X C e')):PS X (.Return (some e) pos) (tS G X C (.ret e')):=by
 refine PS.imp (alL he) ?_
 rintro D σV H ⟨w₀,H₀,w,σ,s,g,h⟩
 refine⟨w₀,H₀,w,σ,s,g,(abW g h).imp ?_⟩
 rintro v H1 ⟨w1,r,s1,L1,S1,R1,g1,h1⟩
 exact h1 w1 H1 v S1 R1 g1.ent
theorem anZ(he:PE X e (tV G X C e'))(hs:swapsWith e none pos.line X.env=pure false):PS X (.Expr e pos) (tS G X C (.exp e')):=by
 refine PS.imp (afe he hs) ?_
 rintro D σV H ⟨w₀,H₀,w,σ,s,g,h⟩
 refine⟨w₀,H₀,w,σ,s,g,(abW g h).imp ?_⟩
 rintro v H1 ⟨w1,r,s1,L1,S1,R1,g1,h1⟩
 exact h1 w1 H1 σV g1 LeS.refl
theorem apM{x:R}{v:V}{m n:SR}{D:Ends}(r:aaM G w H x v)(h:aan G X w₀ H₀ w H σ σV (ara x m n) D):∃k,v=.bl k∧aan G X w₀ H₀ w H σ σV (if k=true then m else n) D:=by
 match x,h with
 | .val (.bl true),h=>exact⟨true,r,h⟩
 | .val (.bl false),h=>exact⟨false,r,h⟩
 | .val .non,h=>exact h.elim
 | .val (.int _),h=>exact h.elim
 | .val (.str _),h=>exact h.elim
 | .val (.tup _),h=>exact h.elim
 | .val (.lst _),h=>exact h.elim
 | .val (.loc _),h=>exact h.elim
 | .val (.exc _),h=>exact h.elim
 | .bor _,h=>exact h.elim
theorem apC{c:Expr}{c':E}{a b:List Stmt}{a' b':List S}(hc:PT X c (tT G X C c'))(ha:PSs X a (tSs G X C a'))(hb:PSs X b (tSs G X C b')):PS X (.If c a b pos) (tS G X C (.ifs c' a' b')):=by
 refine PS.imp (as0 hc ha hb) ?_
 rintro D σV H ⟨w₀,H₀,w,σ,s,g,h⟩
 refine⟨w₀,H₀,w,σ,s,g,(abW g h).imp ?_⟩
 rintro v H1 ⟨w1,r,s1,L1,S1,R1,g1,h1⟩
 obtain⟨k,rfl,h1⟩:=apM R1 h1
 refine⟨k,rfl,?_⟩
 cases k with
 | true=>exact am1 ⟨w₀,H₀,w1,σ,s1,g1,h1⟩
 | false=>exact amj ⟨w₀,H₀,w1,σ,s1,g1,h1⟩
end
section
variable{G:Gx}{X:Cx}{C:Cf}{w w' w₀:Wo}{H H' H₀:Hp}{σ σ':Fr}{σV σV':St}
theorem aam{α:Type}{l:List (Option α)}{i j:Nat}{b:Option α}{c:α}(h:(l.set i b)[j]?=some (some c)):(i=j∧b=some c∧i<l.length)∨(i≠j∧l[j]?=some (some c)):=by
 by_cases hj:i=j
 ·subst hj
  have hlt:i<l.length:=by
   have:=(List.getElem?_eq_some_iff.mp h).1
   simpa using this
  rw[List.getElem?_set_self hlt]at h
  exact .inl ⟨rfl,Option.some.inj h,hlt⟩
 ·rw[List.getElem?_set_ne hj]at h
  exact .inr ⟨hj,h⟩
theorem FrOk.mkO{i:Nat}{ts:List T}{a:Addr}{vs:List V}(F:FrOk G w H H₀ σ σV)(ha:H a=some (.lst vs))(r:aak G w H ts vs)(h0:H₀ a=none)(hz:¬w.Z a)(hl:notLoc w a)
  (hap:∀(j:Nat) (b:B) (us:List T),σ[j]?=some (some b)→ai8 b=some us→σV[j]?≠some (some (.ref a))):FrOk G w H H₀ (aas σ i ts) (σV.set i (some (.ref a)))where
 len:=by unfold aas;simp[F.len]
 val:=fun j t e=>by
  rcases aam e with⟨_,z,_⟩|⟨ne,z⟩
  ·cases z
  ·obtain⟨v,h1,h2⟩:=F.val j t z
   exact⟨v,by rw[List.getElem?_set_ne ne];exact h1,h2⟩
 own:=fun j b us e eb=>by
  rcases aam e with⟨rfl,z,hlt⟩|⟨ne,z⟩
  ·cases z
   cases eb
   exact⟨a,vs,by rw[List.getElem?_set_self (by rw[←F.len];exact hlt)],ha,r,h0,hz,hl⟩
  ·obtain⟨p,us',h1,h2⟩:=F.own j b us z eb
   exact⟨p,us',by rw[List.getElem?_set_ne ne];exact h1,h2⟩
 apart:=fun j k b c us us' p hjk e1 eb e2 ec e3 e4=>by
  rcases aam e1 with⟨rfl,z,hlt⟩|⟨ne,z⟩
  ·rcases aam e2 with⟨rfl,_,_⟩|⟨ne',z'⟩
   ·exact hjk rfl
   ·rw[List.getElem?_set_self (by rw[←F.len];exact hlt)]at e3
    cases e3
    rw[List.getElem?_set_ne ne']at e4
    exact hap k c us' z' ec e4
  ·rcases aam e2 with⟨rfl,z',hlt⟩|⟨ne',z'⟩
   ·rw[List.getElem?_set_self (by rw[←F.len];exact hlt)]at e4
    cases e4
    rw[List.getElem?_set_ne ne]at e3
    exact hap j b us z eb e3
   ·rw[List.getElem?_set_ne ne]at e3
    rw[List.getElem?_set_ne ne']at e4
    exact F.apart j k b c us us' p hjk z eb z' ec e3 e4
 bor:=fun j us e=>by
  rcases aam e with⟨_,z,_⟩|⟨ne,z⟩
  ·cases z
  ·obtain⟨p,us',h1,h2⟩:=F.bor j us z
   exact⟨p,us',by rw[List.getElem?_set_ne ne];exact h1,h2⟩
theorem FrOk.chg{i:Nat}{ts us:List T}{a:Addr}{xs ys:List V}(F:FrOk G w H H₀ σ σV)(hi:σ[i]?=some (some (.own ts)))(hv:σV[i]?=some (some (.ref a)))(ha:H a=some (.lst xs))(r:aak G w H us ys):
  FrOk G w (upd H a (.lst ys)) H₀ (aas σ i us) σV:=by
 obtain⟨a',xs',h1,h2,h3,h4,h5,h6⟩:=F.own i _ ts hi rfl
 rw[hv]at h1
 cases h1
 have hlt:i<σ.length:=(List.getElem?_eq_some_iff.mp hi).1
 exact {
  len:=by unfold aas;simp[F.len]
  val:=fun j t e=>by
   rcases aam e with⟨_,z,_⟩|⟨ne,z⟩
   ·cases z
   ·obtain⟨v,q1,q2⟩:=F.val j t z
    exact⟨v,q1,Rep.upd ha h5 t v q2⟩
  own:=fun j b vs e eb=>by
   rcases aam e with⟨rfl,z,hlt⟩|⟨ne,z⟩
   ·cases z
    cases eb
    exact⟨a,ys,hv,aaq,aak.upd ha h5 us ys r,h4,h5,h6⟩
   ·obtain⟨p,us',q1,q2,q3,q4⟩:=F.own j b vs z eb
    have np:p≠a:=fun y=>by
     subst y
     exact F.apart i j _ b ts vs p ne hi rfl z eb hv q1
    exact⟨p,us',q1,by rw[aah np];exact q2,aak.upd ha h5 _ _ q3,q4⟩
  apart:=fun j k b c us1 us2 p hjk e1 eb e2 ec e3 e4=>by
   have old:∀{j:Nat}{b:B}{us1:List T},(aas σ i us)[j]?=some (some b)→ai8 b=some us1→∃b' us',σ[j]?=some (some b')∧ai8 b'=some us':=fun {j b us1} e eb=>by
    rcases aam e with⟨rfl,z,_⟩|⟨ne,z⟩
    ·exact⟨_,ts,hi,rfl⟩
    ·exact⟨b,us1,z,eb⟩
   obtain⟨b',u1,z1,y1⟩:=old e1 eb
   obtain⟨c',u2,z2,y2⟩:=old e2 ec
   exact F.apart j k b' c' u1 u2 p hjk z1 y1 z2 y2 e3 e4
  bor:=fun j vs e=>by
   rcases aam e with⟨_,z,_⟩|⟨ne,z⟩
   ·cases z
   ·obtain⟨p,us',q1,q2,q3,q4,q5⟩:=F.bor j vs z
    have np:p≠a:=fun y=>by subst y;exact q4 h4
    exact⟨p,us',q1,by rw[aah np];exact q2,aak.upd ha h5 _ _ q3,q4,q5⟩ }
theorem aiU{i:Nat}{ts:List T}(h:abE σ i=some ts):σ[i]?=some (some (.own ts)):=by
 unfold abE at h
 split at h
 ·rename_i us e
  cases h
  exact e
 ·cases h
theorem Good.chg{s:Sto}{i:Nat}{ts us:List T}{a:Addr}{xs ys:List V}(g:Good G w₀ H₀ w H σ s σV)(hi:σ[i]?=some (some (.own ts)))(hv:σV[i]?=some (some (.ref a)))(ha:H a=some (.lst xs))(r:aak G w H us ys):
  Good G w₀ H₀ w (upd H a (.lst ys)) (aas σ i us) s σV∧LeS w w H (upd H a (.lst ys)) σ (aas σ i us) σV σV:=by
 obtain⟨a',xs',h1,h2,h3,h4,h5,h6⟩:=g.fr.own i _ ts hi rfl
 rw[hv]at h1
 cases h1
 have hlt:i<σ.length:=(List.getElem?_eq_some_iff.mp hi).1
 refine⟨⟨g.sto.upd ha h5 h6,g.fr.chg hi hv ha r,g.ent.updNew h4 (by rw[ha];intro z;cases z)⟩,Nat.le_refl _,fun _ _=>rfl,fun _ z=>z,fun p o e nl no=>?_,fun l a b=>absurd (Nat.lt_of_lt_of_le b a) (Nat.lt_irrefl _),fun p z=>?_,fun p z=>.inl ?_,fun j vs e=>?_⟩
 ·have np:p≠a:=fun y=>by subst y;exact no ⟨i,ts,hi,hv⟩
  rw[aah np]
  exact e
 ·by_cases e:p=a
  ·subst e;rw[aaq];intro z;cases z
  ·rw[aah e];exact z
 ·obtain⟨j,vs,e1,e2⟩:=z
  rcases aam e1 with⟨rfl,_,_⟩|⟨ne,z⟩
  ·exact⟨i,ts,hi,e2⟩
  ·exact⟨j,vs,z,e2⟩
 ·rcases aam e with⟨rfl,z,_⟩|⟨ne,z⟩
  ·cases z
  ·exact⟨⟨vs,z⟩,rfl⟩
variable{e j:Expr}{e' j':E}{x:Str}{pos pos' p1 p2:Pos}{i:Nat}
theorem ap9{D:Ends}{s:Sto}(g:Good G w₀ H₀ w H σ s σV)(h:aan G X w₀ H₀ w H σ σV (ex C (.mk i e') σ s) D):aa7 G X σV w H (ev C e' .v σ s) fun v H1=>D.nx (σV.set i (some v)) H1:=by
 have h:aan G X w₀ H₀ w H σ σV (if aba C e' then(ev C e' .v σ s).st σ fun x s1=>onS x.lst? fun ts=>.next (aas σ i ts) s1 else .stuck) D:=h
 split at h
 ·cases hv:ev C e' .v σ s with
  | stuck=>rw[hv]at h;exact h
  | exc c s1=>rw[hv]at h;exact fun w1 H1 pins u sh L S T=>h w1 H1 σV pins u sh (g.step L S) (LeS.of L) T
  | ok r s1=>
   rw[hv]at h
   obtain⟨ts,ht,h⟩:=abf (show aan G X w₀ H₀ w H σ σV (onS r.lst? fun ts=>.next (aas σ i ts) s1) D from h)
   have er:r=.val (.lst ts):=by
    match r,ht with
    | .val (.lst us),ht=>cases ht;rfl
   subst er
   intro w1 H1 a vs L S ha r hn nz nl
   have h0:H₀ a=none:=by
    cases q:H₀ a with
    | none=>rfl
    | some o=>exact absurd hn (g.ent.some_ a (by rw[q];intro z;cases z))
   have g1:=g.step L S
   have hap:∀(j:Nat) (b:B) (us:List T),σ[j]?=some (some b)→ai8 b=some us→σV[j]?≠some (some (.ref a)):=fun j b us e eb q=>by
    obtain⟨a',xs',h1,h2,_⟩:=g.fr.own j b us e eb
    rw[q]at h1
    cases h1
    rw[hn]at h2
    cases h2
   refine h w1 H1 _ ⟨g1.sto,g1.fr.mkO ha r h0 nz nl hap,g1.ent⟩ ⟨L.n,L.io,L.Z,fun p o e nl _=>L.keep p o e nl,L.newL,L.some_,fun p z=>?_,fun k us e=>?_⟩
   ·obtain⟨k,us,e1,e2⟩:=z
    rcases aam e1 with⟨rfl,_,hlt⟩|⟨ne,z⟩
    ·rw[List.getElem?_set_self (by rw[←g.fr.len];exact hlt)]at e2
     cases e2
     exact .inr hn
    ·rw[List.getElem?_set_ne ne]at e2
     exact .inl ⟨k,us,z,e2⟩
   ·rcases aam e with⟨_,z,_⟩|⟨ne,z⟩
    ·cases z
    ·exact⟨⟨us,z⟩,by rw[List.getElem?_set_ne ne]⟩
 ·exact h.elim
theorem auy(hN:X.N.Nodup)(hi:X.N[i]?=some x)(hx:Loc X.env.scope x)(he:PE X e (tO G X C e'))(hs:swapsWith e (some (.Name x pos')) pos.line X.env=pure false)(hf:X.fn x=true∨X.env.scope.names.lookup x=some .local):
  PS X (.Assign [.Name x pos'] e pos) (tS G X C (.mk i e')):=by
 refine PS.imp (akO hN hi hx he hs hf) ?_
 rintro D σV H ⟨w₀,H₀,w,σ,s,g,h⟩
 exact⟨w₀,H₀,w,σ,s,g,ap9 g h⟩
theorem agH(he:PS X (.Assign [.Name x pos'] e pos) (fun D σV H=>tO G X C e' σV H fun v H1=>D.nx (σV.set i (some v)) H1)):PS X (.Assign [.Name x pos'] e pos) (tS G X C (.mk i e')):=by
 refine PS.imp he ?_
 rintro D σV H ⟨w₀,H₀,w,σ,s,g,h⟩
 exact⟨w₀,H₀,w,σ,s,g,ap9 g h⟩
theorem af0(hfr:∀σ s r s1,ev C e' .v σ s=.ok r s1→∃ts,r=.val (.lst ts))(he:PS X (.Assign [.Name x pos'] e pos) (fun D σV H=>tO G X C e' σV H fun v H1=>D.nx (σV.set i (some v)) H1)):PS X (.Assign [.Name x pos'] e pos) (tS G X C (.asg i e')):=by
 refine PS.imp he ?_
 rintro D σV H ⟨w₀,H₀,w,σ,s,g,h⟩
 refine⟨w₀,H₀,w,σ,s,g,aly (hfr σ s) ((abW g h).imp ?_)⟩
 rintro v H1 ⟨w1,r,s1,L1,S1,R1,g1,h1⟩
 obtain⟨t,ht,h1⟩:=abf h1
 cases adj ht
 exact h1 w1 H1 _ (g1.put R1) LeS.put
theorem aoe{cpos:Pos}(hN:X.N[i]?=some x)(hv:Vis X.env.scope x)(hd:(x==("__debug__":Str))=false)(hcd:(x==("__classdict__":Str))=false)(he:PE X e (tV G X C e'))(hst:starEach [e] X.env=[(false,eval e X.env)])
  (hline:(p2.endLine==cpos.line)=true) (hbase:attributeBase (.Name x p1) "append" X.env (eval (.Name x p1) X.env)=eval (.Name x p1) X.env)
  (hfew:((backTo cpos (starEach [e] X.env)).all (fun x=>!x.1)&&(backToKw cpos (keywordEach [] X.env)).all (fun x=>x.1.isSome)&&decide ([e].length+([]:List Keyword).length+(if([]:List Keyword).isEmpty then 0 else 1)<30))=true)
  (hs:swapsWith (.Call (.Attribute (.Name x p1) "append" p2) [e] [] cpos) none pos.line X.env=pure false):
  PS X (.Expr (.Call (.Attribute (.Name x p1) "append" p2) [e] [] cpos) pos) (tS G X C (.app i e')):=by
 refine PS.imp (afe (apT PySem.F.plainAttrs_list PySem.F.slot_list_append PySem.F.type_list_append acQ (alf hN hv hd hcd) (aa2 he aaZ hst) hbase hfew hline hst rfl) hs) ?_
 rintro D σV H ⟨w₀,H₀,w,σ,s,g,h⟩
 obtain⟨ts,ho,h⟩:=abf (show aan G X w₀ H₀ w H σ σV (onS (abE σ i) fun ts=>(ev C e' .v σ s).st σ fun x s1=>onS x.val? fun t=>if ts.length<lim then .next (aas σ i (ts++[t])) s1 else .stuck) D from h)
 have hi:=aiU ho
 obtain⟨a,vs,h1,h2,h3,h4,h5,h6⟩:=g.fr.own i _ ts hi rfl
 refine⟨.ref a,h1,.inl ⟨rfl,vs,SqL.of h2⟩,w₀,H₀,w,σ,s,g,(abW g h).imp ?_⟩
 rintro v H1 ⟨w1,r,s1,L1,S1,R1,g1,q1⟩
 obtain⟨t,ht,q1⟩:=abf q1
 cases adj ht
 split at q1
 ·rename_i hlim
  have ha1:=L1.keep a _ h2 h6
  have r1:=aak.mono L1 g.sto ts vs h3
  refine⟨a,vs,v,rfl,rfl,ha1,by rw[←h3.length];have:=agd;omega,?_⟩
  obtain⟨g2,l2⟩:=g1.chg hi h1 ha1 (r1.append (show aak G w1 H1 [t] [v]from⟨v,[],rfl,R1,rfl⟩))
  exact q1 w1 _ σV g2 l2
 ·exact q1.elim
theorem Good.frz{s:Sto}(g:Good G w₀ H₀ w H σ s σV)(i:Nat):∃w',Good G w₀ H₀ w' H (frz σ i) s σV∧LeS w w' H H σ (frz σ i) σV σV:=by
 unfold IP.frz
 split
 ·rename_i ts hi
  obtain⟨a,vs,h1,h2,h3,h4,h5,h6⟩:=g.fr.own i _ ts hi rfl
  have zm:=fun(t:T) (v:V) (h:Rep G w H t v)=>Rep.zmono (w:=w) (w':=w.addZ a) rfl rfl (fun _ z=>.inl z) t v h
  have zms:=fun(t:List T) (v:List V) (h:aak G w H t v)=>aak.zmono (w:=w) (w':=w.addZ a) rfl rfl (fun _ z=>.inl z) t v h
  refine⟨w.addZ a,⟨g.sto.addZ h2 h6,⟨by simp[g.fr.len],fun j t e=>?_,fun j b us e eb=>?_,fun j k b c us us' p hjk e1 eb e2 ec=>?_,fun j us e=>?_⟩,g.ent.addZ h4⟩,Nat.le_refl _,fun _ _=>rfl,fun _ z=>.inl z,fun _ _ e _ _=>e,fun l a b=>absurd (Nat.lt_of_lt_of_le b a) (Nat.lt_irrefl _),fun _ z=>z,fun p z=>.inl ?_,fun j us e=>?_⟩
  ·rcases aam e with⟨rfl,z,_⟩|⟨ne,z⟩
   ·cases z
    exact⟨.ref a,h1,a,vs,rfl,.inr rfl,.inl h2,zms _ _ h3⟩
   ·obtain⟨v,q1,q2⟩:=g.fr.val j t z
    exact⟨v,q1,zm t v q2⟩
  ·rcases aam e with⟨_,z,_⟩|⟨ne,z⟩
   ·cases z;cases eb
   ·obtain⟨p,us',q1,q2,q3,q4,q5,q6⟩:=g.fr.own j b us z eb
    refine⟨p,us',q1,q2,zms _ _ q3,q4,fun y=>y.elim q5 fun y=>?_,q6⟩
    subst y
    exact g.fr.apart i j _ b ts us p ne hi rfl z eb h1 q1
  ·rcases aam e1 with⟨_,z,_⟩|⟨ne,z⟩
   ·cases z;cases eb
   ·rcases aam e2 with⟨_,z',_⟩|⟨ne',z'⟩
    ·cases z';cases ec
    ·exact g.fr.apart j k b c us us' p hjk z eb z' ec
  ·rcases aam e with⟨_,z,_⟩|⟨ne,z⟩
   ·cases z
   ·obtain⟨p,us',q1,q2,q3,q4⟩:=g.fr.bor j us z
    exact⟨p,us',q1,q2,zms _ _ q3,q4⟩
  ·obtain⟨j,us,e1,e2⟩:=z
   rcases aam e1 with⟨_,z,_⟩|⟨ne,z⟩
   ·cases z
   ·exact⟨j,us,z,e2⟩
  ·rcases aam e with⟨_,z,_⟩|⟨ne,z⟩
   ·cases z
   ·exact⟨⟨us,z⟩,rfl⟩
 ·exact⟨w,g,LeS.refl⟩
theorem ans{rest:List Stmt}{as:List S}(h:PSs X rest (tSs G X C as)):PSs X rest (tSs G X C (.frz i::as)):=by
 refine PSs.imp h ?_
 rintro D σV H ⟨w₀,H₀,w,σ,s,g,h⟩
 obtain⟨w',g',l'⟩:=g.frz i
 exact⟨w₀,H₀,w',IP.frz σ i,s,g',aan.mono l' h⟩
end
theorem aic{c:Fr→Sto→Res Bool}{b:Fr→Sto→SR}:∀(n:Nat) (σ:Fr) (s:Sto),aaj c b n σ s≠.stuck→aaj c b (n+1) σ s=aaj c b n σ s:=by
 intro n
 induction n with
 | zero=>intro σ s h;exact absurd rfl h
 | succ n ih=>
  intro σ s h
  have h':=h
  unfold aaj at h
  show aaj c b (n+1+1) σ s=_
  conv=>lhs;unfold aaj
  conv=>rhs;unfold aaj
  cases hc:c σ s with
  | stuck=>rfl
  | exc d s1=>rfl
  | ok k s1=>
   cases k with
   | false=>rfl
   | true=>
    rw[hc]at h
    have h:((b σ s1).bind fun σ2 s2=>aaj c b n σ2 s2)≠.stuck:=h
    show((b σ s1).bind fun σ2 s2=>aaj c b (n+1) σ2 s2)=((b σ s1).bind fun σ2 s2=>aaj c b n σ2 s2)
    cases hb:b σ s1 with
    | stuck=>rfl
    | ret r s2=>rfl
    | retO ts s2=>rfl
    | exc d σ2 s2=>rfl
    | next σ2 s2=>
     rw[hb]at h
     exact ih σ2 s2 h
theorem acX{c:Fr→Sto→Res Bool}{b:Fr→Sto→SR}{n:Nat}{σ:Fr}{s:Sto}(h:aaj c b n σ s≠.stuck):∀k,aaj c b (n+k) σ s=aaj c b n σ s
 | 0=>rfl
 | k+1=>by
  have ih:=acX h k
  rw[←Nat.add_assoc,aic (n+k) σ s (by rw[ih];exact h),ih]
theorem ae1{c:Fr→Sto→Res Bool}{b:Fr→Sto→SR}{n:Nat}{σ:Fr}{s:Sto}(h:aaj c b n σ s≠.stuck):aac c b σ s=aaj c b n σ s:=by
 have hx:∃n,aaj c b n σ s≠.stuck:=⟨n,h⟩
 unfold aac
 rw[dif_pos hx]
 have hm:=Classical.choose_spec hx
 generalize Classical.choose hx=m at hm
 rcases Nat.le_total n m with q|q
 ·obtain⟨k,rfl⟩:=Nat.exists_eq_add_of_le q
  exact acX h k
 ·obtain⟨k,rfl⟩:=Nat.exists_eq_add_of_le q
  exact(acX hm k).symm
theorem agU{c:Fr→Sto→Res Bool}{b:Fr→Sto→SR}{σ:Fr}{s:Sto}(h:aac c b σ s≠.stuck):∃n,aac c b σ s=aaj c b n σ s:=by
 unfold aac at h ⊢
 split at h
 ·rename_i hx
  rw[dif_pos hx]
  exact⟨_,rfl⟩
 ·exact absurd rfl h
theorem aes(c:Fr→Sto→Res Bool)(b:Fr→Sto→SR)(σ:Fr)(s:Sto):aac c b σ s=match c σ s with
  | .stuck=>.stuck
  | .exc d s1=>.exc d σ s1
  | .ok false s1=>.next σ s1
  | .ok true s1=>(b σ s1).bind fun σ2 s2=>aac c b σ2 s2:=by
 by_cases h:∃n,aaj c b n σ s≠.stuck
 ·obtain⟨n,hn⟩:=h
  cases n with
  | zero=>exact absurd rfl hn
  | succ n=>
   rw[ae1 hn]
   unfold aaj at hn ⊢
   cases hc:c σ s with
   | stuck=>rfl
   | exc d s1=>rfl
   | ok k s1=>
    cases k with
    | false=>rfl
    | true=>
     rw[hc]at hn
     have hn:((b σ s1).bind fun σ2 s2=>aaj c b n σ2 s2)≠.stuck:=hn
     show((b σ s1).bind fun σ2 s2=>aaj c b n σ2 s2)=((b σ s1).bind fun σ2 s2=>aac c b σ2 s2)
     cases hb:b σ s1 with
     | stuck=>rfl
     | ret r s2=>rfl
     | retO ts s2=>rfl
     | exc d σ2 s2=>rfl
     | next σ2 s2=>
      rw[hb]at hn
      exact(ae1 hn).symm
 ·have e:aac c b σ s=.stuck:=by unfold aac;rw[dif_neg h]
  rw[e]
  have h:∀n,aaj c b n σ s=.stuck:=fun n=>Classical.byContradiction fun q=>h ⟨n,q⟩
  have h1:=h 1
  unfold aaj at h1
  cases hc:c σ s with
  | stuck=>rfl
  | exc d s1=>rw[hc]at h1;cases h1
  | ok k s1=>
   cases k with
   | false=>rw[hc]at h1;cases h1
   | true=>
    show SR.stuck=((b σ s1).bind fun σ2 s2=>aac c b σ2 s2)
    cases hb:b σ s1 with
    | stuck=>rfl
    | ret r s2=>rw[hc]at h1;simp[hb,aaj]at h1
    | retO ts s2=>rw[hc]at h1;simp[hb,aaj]at h1
    | exc d σ2 s2=>rw[hc]at h1;simp[hb,aaj]at h1
    | next σ2 s2=>
     show SR.stuck=aac c b σ2 s2
     unfold aac
     rw[dif_neg]
     rintro⟨n,hn⟩
     have:=h (n+1)
     unfold aaj at this
     rw[hc]at this
     simp only[hb,SR.bind_next]at this
     exact hn this
section
variable{G:Gx}{X:Cx}{C:Cf}{w w' w₀:Wo}{H H' H₀:Hp}{σ σ':Fr}{σV σV':St}{pos:Pos}
def asB(x:R):Option Bool:=match x with | .val (.bl k)=>some k | _=>none
theorem aqk{c:Expr}{c':E}{b:List Stmt}{b':List S}(hwl:C.wl=aac)(hp:PassesOwn (model X.prog X.w) X.A X.env X.xe)(hc:PT X c (tT G X C c'))(hb:PSs X b (tSs G X C b')):PS X (.While c b [] pos) (tS G X C (.whl c' b')):=by
 refine PS.imp (ajI hp hc hb) ?_
 rintro D σV H ⟨w₀,H₀,w,σ,s,g,h⟩
 have h:aan G X w₀ H₀ w H σ σV (C.wl (fun σ s=>(ev C c' .t σ s).bind fun x s1=>.of (match x with | .val (.bl k)=>some k | _=>none) s1) (fun σ s=>exs C b' σ s) σ s) D:=h
 rw[hwl]at h
 generalize hcf:(fun σ s=>(ev C c' .t σ s).bind fun x s1=>Res.of (match x with | .val (.bl k)=>some k | _=>none) s1)=cf at h
 generalize hbf:(fun σ s=>exs C b' σ s)=bf at h
 refine⟨fun m σV1 H1=>∃w1 σ1 s1,Good G w₀ H₀ w1 H1 σ1 s1 σV1∧aaj cf bf m σ1 s1≠.stuck∧aan G X w₀ H₀ w1 H1 σ1 σV1 (aaj cf bf m σ1 s1) D,?_,?_⟩
 ·have hn:aac cf bf σ s≠.stuck:=fun z=>by rw[z]at h;exact h
  obtain⟨n,hn'⟩:=agU hn
  rw[hn']at hn h
  exact⟨n,w,σ,s,g,hn,h⟩
 ·rintro m σV1 H1 ⟨w1,σ1,s1,g1,hn1,h1⟩
  cases m with
  | zero=>exact absurd rfl hn1
  | succ n=>
   unfold aaj at hn1 h1
   refine⟨w₀,H₀,w1,σ1,s1,g1,?_⟩
   have ec:cf σ1 s1=(ev C c' .t σ1 s1).bind fun x s1=>Res.of (match x with | .val (.bl k)=>some k | _=>none) s1:=by rw[←hcf]
   rw[ec]at hn1 h1
   cases he:ev C c' .t σ1 s1 with
   | stuck=>rw[he]at hn1;exact absurd rfl hn1
   | exc d s2=>rw[he]at h1;exact fun w2 H2 pins u sh L S T=>h1 w2 H2 σV1 pins u sh (g1.step L S) (LeS.of L) T
   | ok x s2=>
    rw[he]at hn1 h1
    intro w2 H2 v L2 S2 R2
    match x,R2,hn1,h1 with
    | .val (.bl true),R2,hn1,h1=>
     cases R2
     refine⟨true,rfl,am1 ?_⟩
     have hn1:((bf σ1 s2).bind fun σ2 s2=>aaj cf bf n σ2 s2)≠.stuck:=hn1
     have h1:aan G X w₀ H₀ w1 H1 σ1 σV1 ((bf σ1 s2).bind fun σ2 s2=>aaj cf bf n σ2 s2) D:=h1
     refine⟨fun σV3 H3=>∃w3 σ3 s3,Good G w₀ H₀ w3 H3 σ3 s3 σV3∧aaj cf bf n σ3 s3≠.stuck∧aan G X w₀ H₀ w3 H3 σ3 σV3 (aaj cf bf n σ3 s3) D,fun σV3 H3 q=>⟨n,Nat.lt_succ_self _,q⟩,?_⟩
     refine⟨w₀,H₀,w2,σ1,s2,g1.step L2 S2,?_⟩
     have eb:bf σ1 s2=exs C b' σ1 s2:=by rw[←hbf]
     rw[eb]at hn1 h1
     cases hx:exs C b' σ1 s2 with
     | stuck=>rw[hx]at h1;exact h1
     | ret r s3=>rw[hx]at h1;exact h1
     | retO ts s3=>rw[hx]at h1;exact h1
     | exc d σ3 s3=>rw[hx]at h1;exact fun w3 H3 σV3 pins u sh g3 L3 T=>h1 w3 H3 σV3 pins u sh g3 ((LeS.of L2).trans L3) T
     | next σ3 s3=>
      rw[hx]at h1 hn1
      intro w3 H3 σV3 g3 L3
      exact⟨w3,σ3,s3,g3,hn1,aan.mono ((LeS.of L2).trans L3) h1⟩
    | .val (.bl false),R2,hn1,h1=>
     cases R2
     exact⟨false,rfl,amj (h1 w2 H2 σV1 (g1.step L2 S2) (LeS.of L2))⟩
    | .val .non,_,hn1,h1=>exact h1.elim
    | .val (.int _),_,hn1,h1=>exact h1.elim
    | .val (.str _),_,hn1,h1=>exact h1.elim
    | .val (.tup _),_,hn1,h1=>exact h1.elim
    | .val (.lst _),_,hn1,h1=>exact h1.elim
    | .val (.loc _),_,hn1,h1=>exact h1.elim
    | .val (.exc _),_,hn1,h1=>exact h1.elim
    | .bor _,_,hn1,h1=>exact h1.elim
def acH(σ:Fr)(σV:St):Src→Prop
 | .l a _=>¬Own σ σV a
 | _=>True
theorem aaT.monoS{z:Bool}{s:Sto}(L:LeS w w' H H' σ σ' σV σV')(S:StoOk G w H s)(F:FrOk G w H H₀ σ σV):∀{src:Src}{ts:List T},acH σ σV src→aaT G w H z src ts→aaT G w' H' z src ts∧acH σ' σV' src
 | .l a vs,ts,nf,⟨h1,h2,h3,h4⟩=>by
  have hs:=Rd.some h1
  refine⟨⟨?_,aak.kp (L.kp S F) ts vs h2,L.notLoc hs h3,fun q=>L.Z a (h4 q)⟩,fun z=>?_⟩
  ·rcases h1 with h1|⟨o,h1⟩
   ·exact .inl (L.keep _ _ h1 h3 nf)
   ·exact .inr ⟨o,L.keep _ _ h1 h3 nf⟩
  ·rcases L.own a z with z|z
   ·exact nf z
   ·exact hs z
 | .t a vs,ts,_,⟨h1,h2⟩=>⟨⟨(L.kp S F).t _ _ h1,aak.kp (L.kp S F) ts vs h2⟩,True.intro⟩
 | .r lo n,ts,_,h=>⟨h,True.intro⟩
theorem ajZ{tg:Expr}{g:Tg}{b:List Stmt}{b':List S}{D:Ends}{src:Src}{ts:List T}{s:Sto}{K:PySem.W.Frag}{z:Bool}(gd:Good G w₀ H₀ w H σ s σV)(SO:aaT G w H z src ts)(SF:acH σ σV src)
  (h:aan G X w₀ H₀ w H σ σV (abH g (fun σ s=>exs C b' σ s) ts σ s) D):
  ∃W:Nat→Nat→St→Hp→Prop,(∃m,W 0 m σV H)∧∀i m σV H,W i m σV H→
   ((aie K src).stop i H∧D.nx σV H)∨((aie K src).go i H∧∃N:St→Hp→Prop,(∀σ' H',N σ' H'→∃m',m'<m∧W (i+1) m' σ' H')∧∀x H',(aie K src).yld i H x H'→gTg G g x σV H' fun σ2 H2=>tSs G X C b' { D with nx:=N,ct:=N,bk:=D.nx } σ2 H2):=by
 refine⟨fun i m σV1 H1=>∃w1 σ1 s1,m=ts.length-i∧i≤ts.length∧Good G w₀ H₀ w1 H1 σ1 s1 σV1∧aaT G w1 H1 z src ts∧acH σ1 σV1 src∧aan G X w₀ H₀ w1 H1 σ1 σV1 (abH g (fun σ s=>exs C b' σ s) (ts.drop i) σ1 s1) D,
  ⟨ts.length,w,σ,s,rfl,Nat.zero_le _,gd,SO,SF,h⟩,?_⟩
 rintro i m σV1 H1 ⟨w1,σ1,s1,hm,hi,g1,SO1,SF1,h1⟩
 by_cases hlt:i<ts.length
 ·refine .inr ?_
  have et:ts[i]?=some ts[i]:=List.getElem?_eq_getElem hlt
  have ed:ts.drop i=ts[i]::ts.drop (i+1):=List.drop_eq_getElem_cons hlt
  rw[ed]at h1
  obtain⟨σ2,hb,h1⟩:=abf (show aan G X w₀ H₀ w1 H1 σ1 σV1 (onS (aal σ1 g ts[i]) fun σ'=>(exs C b' σ' s1).bind fun σ2 s2=>abH g (fun σ s=>exs C b' σ s) (ts.drop (i+1)) σ2 s2) D from h1)
  obtain⟨go,yld⟩:=SO1.go (K:=K) et
  refine⟨go,fun σV3 H3=>∃w3 σ3 s3,Good G w₀ H₀ w3 H3 σ3 s3 σV3∧aaT G w3 H3 z src ts∧acH σ3 σV3 src∧aan G X w₀ H₀ w3 H3 σ3 σV3 (abH g (fun σ s=>exs C b' σ s) (ts.drop (i+1)) σ3 s3) D,fun σV3 H3 ⟨w3,σ3,s3,q1,q2,q3,q4⟩=>⟨ts.length-(i+1),by omega,w3,σ3,s3,rfl,hlt,q1,q2,q3,q4⟩,fun x H' hy=>?_⟩
  have rx:=(yld x H' hy).2
  obtain rfl:H1=H':=(yld x H' hy).1.symm
  refine⟨w1,s1,ts[i],σ1,σ2,g1.sto,rx,hb,fun vs hfr hl=>?_⟩
  have g2:Good G w₀ H₀ w1 H1 σ2 s1 (aaX σV1 (slots g) vs):=⟨g1.sto,hfr H₀ σV1 g1.fr,g1.ent⟩
  have l2:LeS w1 w1 H1 H1 σ1 σ2 σV1 (aaX σV1 (slots g) vs):=by
   cases g with
   | one k=>
    cases hb
    match vs,hl with
    | [v],_=>exact LeS.put
   | many ks=>
    have hb':∃us,puts σ1 ks us=some σ2:=by
     match hts:ts[i],hb with
     | .tup us,hb=>exact⟨us,hb⟩
     | .lst us,hb=>exact⟨us,hb⟩
     | .non,hb=>cases hb
     | .bl _,hb=>cases hb
     | .int _,hb=>cases hb
     | .str _,hb=>cases hb
     | .loc _,hb=>cases hb
     | .exc _,hb=>cases hb
    obtain⟨us,hb⟩:=hb'
    have go:∀(ks:List Nat) (us:List T) (vs:List V) (σ1:Fr) (σV1:St),puts σ1 ks us=some σ2→vs.length=ks.length→LeS w1 w1 H1 H1 σ1 σ2 σV1 (aaX σV1 ks vs):=by
     intro ks
     induction ks with
     | nil=>
      intro us vs σ1 σV1 hp hl
      cases us with
      | nil=>cases hp;cases vs<;>exact LeS.refl
      | cons u us=>cases hp
     | cons k ks ih=>
      intro us vs σ1 σV1 hp hl
      cases us with
      | nil=>cases hp
      | cons u us=>
       cases vs with
       | nil=>simp at hl
       | cons v vs=>exact LeS.trans (LeS.put (v:=v)) (ih us vs (put σ1 k u) (σV1.set k (some v)) hp (by simpa using hl))
    exact go ks us vs σ1 σV1 hb hl
  obtain⟨SO2,SF2⟩:=SO1.monoS l2 g1.sto g1.fr SF1
  refine⟨w₀,H₀,w1,σ2,s1,g2,?_⟩
  cases hx:exs C b' σ2 s1 with
  | stuck=>rw[hx]at h1;exact h1
  | ret r s3=>rw[hx]at h1;exact h1
  | retO ts s3=>rw[hx]at h1;exact h1
  | exc d σ3 s3=>rw[hx]at h1;exact fun w3 H3 σV3 pins u sh g3 L3 T=>h1 w3 H3 σV3 pins u sh g3 (l2.trans L3) T
  | next σ3 s3=>
   rw[hx]at h1
   intro w3 H3 σV3 g3 L3
   obtain⟨SO3,SF3⟩:=SO2.monoS L3 g2.sto g2.fr SF2
   exact⟨w3,σ3,s3,g3,SO3,SF3,aan.mono (l2.trans L3) h1⟩
 ·have ei:i=ts.length:=by omega
  subst ei
  rw[List.drop_length]at h1
  exact .inl ⟨SO1.stop,h1 w1 H1 σV1 g1 LeS.refl⟩
theorem ac2{i j:Nat}{b:B}(h:(lock σ i)[j]?=some (some b)):(σ[j]?=some (some b)∧(i=j→∀ts,b≠.own ts))∨(i=j∧∃ts,b=.lck ts∧σ[i]?=some (some (.own ts))):=by
 unfold lock at h
 split at h
 ·rename_i ts e
  rcases aam h with⟨rfl,z,_⟩|⟨ne,z⟩
  ·exact .inr ⟨rfl,ts,by cases z;rfl,e⟩
  ·exact .inl ⟨z,fun q=>absurd q ne⟩
 ·rename_i hn
  refine .inl ⟨h,fun q ts z=>?_⟩
  subst q z
  exact hn ts h
theorem acd{i j:Nat}{b:B}(h:(unlock σ i)[j]?=some (some b)):σ[j]?=some (some b)∨(i=j∧∃ts,b=.own ts∧σ[i]?=some (some (.lck ts))):=by
 unfold unlock at h
 split at h
 ·rename_i ts e
  rcases aam h with⟨rfl,z,_⟩|⟨ne,z⟩
  ·exact .inr ⟨rfl,ts,by cases z;rfl,e⟩
  ·exact .inl z
 ·exact .inl h
theorem ajH(σ:Fr)(i:Nat):(lock σ i).length=σ.length:=by unfold lock;split<;>simp
theorem aha(σ:Fr)(i:Nat):(unlock σ i).length=σ.length:=by unfold unlock;split<;>simp
theorem FrOk.relock(F:FrOk G w H H₀ σ σV)(hl:σ'.length=σ.length)(hr:∀(j:Nat) (b:B),σ'[j]?=some (some b)→σ[j]?=some (some b)∨∃b' ts,σ[j]?=some (some b')∧ai8 b=some ts∧ai8 b'=some ts):FrOk G w H H₀ σ' σV where
 len:=hl.trans F.len
 val:=fun j t e=>by
  rcases hr j _ e with z|⟨b',ts,_,z,_⟩
  ·exact F.val j t z
  ·cases z
 own:=fun j b ts e eb=>by
  rcases hr j _ e with z|⟨b',us,z1,z2,z3⟩
  ·exact F.own j b ts z eb
  ·rw[eb]at z2
   cases z2
   exact F.own j b' ts z1 z3
 apart:=fun j k b c ts us a hjk e1 eb e2 ec e3 e4=>by
  have old:∀{j:Nat}{b:B}{ts:List T},σ'[j]?=some (some b)→ai8 b=some ts→∃b',σ[j]?=some (some b')∧ai8 b'=some ts:=fun {j b ts} e eb=>by
   rcases hr j _ e with z|⟨b',us,z1,z2,z3⟩
   ·exact⟨b,z,eb⟩
   ·rw[eb]at z2
    cases z2
    exact⟨b',z1,z3⟩
  obtain⟨b',y1,y2⟩:=old e1 eb
  obtain⟨c',y3,y4⟩:=old e2 ec
  exact F.apart j k b' c' ts us a hjk y1 y2 y3 y4 e3 e4
 bor:=fun j ts e=>by
  rcases hr j _ e with z|⟨b',us,_,z,_⟩
  ·exact F.bor j ts z
  ·cases z
theorem Good.lock{s:Sto}(g:Good G w₀ H₀ w H σ s σV)(i:Nat):Good G w₀ H₀ w H (lock σ i) s σV:=⟨g.sto,g.fr.relock (ajH σ i) fun j b e=>by
 rcases ac2 e with⟨z,_⟩|⟨rfl,ts,rfl,z⟩
 ·exact .inl z
 ·exact .inr ⟨_,ts,z,rfl,rfl⟩,g.ent⟩
theorem Good.unlock{s:Sto}(g:Good G w₀ H₀ w H σ s σV)(i:Nat):Good G w₀ H₀ w H (unlock σ i) s σV:=⟨g.sto,g.fr.relock (aha σ i) fun j b e=>by
 rcases acd e with z|⟨rfl,ts,rfl,z⟩
 ·exact .inl z
 ·exact .inr ⟨_,ts,z,rfl,rfl⟩,g.ent⟩
theorem LeS.unlock{i:Nat}(hi:ake σ i=true)(L:LeS w w' H H' (lock σ i) σ' σV σV'):LeS w w' H H' σ (unlock σ' i) σV σV' where
 n:=L.n
 io:=L.io
 Z:=L.Z
 keep:=fun a o e nl no=>L.keep a o e nl fun⟨j,ts,e1,e2⟩=>by
  rcases ac2 e1 with⟨z,_⟩|⟨_,us,z,_⟩
  ·exact no ⟨j,ts,z,e2⟩
  ·cases z
 newL:=L.newL
 some_:=L.some_
 own:=fun a ⟨j,ts,e1,e2⟩=>by
  rcases acd e1 with z|⟨rfl,us,z1,z2⟩
  ·rcases L.own a ⟨j,ts,z,e2⟩with⟨k,us,y1,y2⟩|y
   ·rcases ac2 y1 with⟨z,_⟩|⟨_,vs,z,_⟩
    ·exact .inl ⟨k,us,z,y2⟩
    ·cases z
   ·exact .inr y
  ·obtain⟨⟨vs,y1⟩,y2⟩:=L.lk i us z2
   unfold ake at hi
   split at hi
   ·rename_i xs ex
    rw[e2]at y2
    exact .inl ⟨i,xs,ex,y2.symm⟩
   ·cases hi
 lk:=fun j ts e=>by
  rcases acd e with z|⟨_,us,z,_⟩
  ·obtain⟨⟨us,y1⟩,y2⟩:=L.lk j ts z
   rcases ac2 y1 with⟨y,_⟩|⟨rfl,vs,_,y⟩
   ·exact⟨⟨us,y⟩,y2⟩
   ·exfalso
    unfold IP.unlock at e
    split at e
    ·rename_i q
     rcases aam e with⟨_,q2,_⟩|⟨ne,_⟩
     ·cases q2
     ·exact ne rfl
    ·rename_i q
     exact q ts e
  ·cases z
theorem aan.unlock{i:Nat}{r:SR}{D:Ends}(hi:ake σ i=true)(h:aan G X w₀ H₀ w H σ σV (r.unlock i) D):aan G X w₀ H₀ w H (lock σ i) σV r D:=by
 cases r with
 | stuck=>exact h
 | ret r s=>exact h
 | retO ts s=>exact h
 | next σ1 s1=>exact fun w' H' σV' g L=>h w' H' σV' (g.unlock i) (L.unlock hi)
 | exc c σ1 s1=>exact fun w' H' σV' pins u sh g L T=>h w' H' σV' pins u sh (g.unlock i) (L.unlock hi) T
theorem alc{x:R}{ts:List T}(h:x.lst?=some ts):x=.val (.lst ts):=by
 match x,h with
 | .val (.lst us),h=>cases h;rfl
theorem ap6{tg iter:Expr}{it':E}{g:Tg}{b:List Stmt}{b':List S}(hp:PassesOwn (model X.prog X.w) X.A X.env X.xe)(hc:X.calm=true)(hI:PI X tg iter (tI G X C it' .j true))(hg:PG X tg (gTg G g))(hb:PSs X b (tSs G X C b'))
  (hs:∀x,foldedSetIterable iter X.env x=pure x) (hit:∀i,it'≠.var i):PS X (.For tg iter b [] pos) (tS G X C (.for_ g it' b')):=by
 refine PS.imp (alI hp hc hI hg hb hs) ?_
 rintro D σV H ⟨w₀,H₀,w,σ,s,gd,h⟩
 have h:aan G X w₀ H₀ w H σ σV ((ev C it' .j σ s).st σ fun x s1=>onS x.lst? fun ts=>abH g (fun σ s=>exs C b' σ s) ts σ s1) D:=by
  cases it'<;>first|exact h|exact absurd rfl (hit _)
 refine⟨w₀,H₀,w,σ,s,gd,?_⟩
 cases he:ev C it' .j σ s with
 | stuck=>rw[he]at h;exact h.elim
 | exc c s1=>rw[he]at h;exact fun w1 H1 pins u sh L S T=>h w1 H1 σV pins u sh (gd.step L S) (LeS.of L) T
 | ok x s1=>
  rw[he]at h
  obtain⟨ts,ht,h⟩:=abf (show aan G X w₀ H₀ w H σ σV (onS x.lst? fun ts=>abH g (fun σ s=>exs C b' σ s) ts σ s1) D from h)
  cases alc ht
  intro w1 H1 src L S SO
  have g1:=gd.step L S
  refine ajZ (X:=X) (tg:=tg) (b:=b) (z:=true) (K:=X.K) g1 SO ?_ (aan.mono (LeS.of L) h)
  cases src with
  | l a vs=>exact g1.fr.notOwnZ (SO.2.2.2 rfl)
  | t a vs=>exact True.intro
  | r lo n=>exact True.intro
end
end IP
end
noncomputable section
namespace IP
open PySem PySem.Spec L2
open PyProof.Rows (subscriptTail)
section
variable{G:Gx}{X:Cx}{C:Cf}{w w' w₀:Wo}{H H' H₀:Hp}{σ σ':Fr}{σV σV':St}{a b e:Expr}{a' b' e':E}{pos p p2:Pos}{Q:VK}{i:Nat}{x:Str}
theorem aa7.mono{res:Res R}{w1:Wo}{H1:Hp}(L:Le w w1 H H1)(h:aa7 G X σV w H res Q):aa7 G X σV w1 H1 res Q:=by
 match res,h with
 | .stuck,h=>exact h
 | .exc c s,h=>exact fun w' H' pins u sh a b=>h w' H' pins u sh (L.trans a) b
 | .ok (.val (.lst ts)) s,h=>
  intro w' H' a vs L' S ha r hn nz nl
  refine h w' H' a vs (L.trans L') S ha r ?_ nz nl
  cases q:H a with
  | none=>rfl
  | some o=>exact absurd hn (L.some_ a (by rw[q];intro z;cases z))
 | .ok (.val .non) s,h=>exact h
 | .ok (.val (.bl _)) s,h=>exact h
 | .ok (.val (.int _)) s,h=>exact h
 | .ok (.val (.str _)) s,h=>exact h
 | .ok (.val (.tup _)) s,h=>exact h
 | .ok (.val (.loc _)) s,h=>exact h
 | .ok (.val (.exc _)) s,h=>exact h
 | .ok (.bor _) s,h=>exact h
theorem aa7.bind{m:Res R}{k:R→Sto→Res R}(h:aa7 G X σV w H (m.bind k) Q):
  aa0 G X σV w H m fun v H1=>∃w1 r s1,Le w w1 H H1∧StoOk G w1 H1 s1∧aaM G w1 H1 r v∧aa7 G X σV w1 H1 (k r s1) Q:=by
 cases m with
 | stuck=>exact h
 | ok r s=>exact fun w' H' v a b c=>⟨w',r,s,a,b,c,aa7.mono a h⟩
 | exc c s=>exact h
theorem aa7.of{o:Option R}{s:Sto}(h:aa7 G X σV w H (Res.of o s) Q):∃ts,o=some (.val (.lst ts))∧∀w' H' a vs,Le w w' H H'→StoOk G w' H' s→H' a=some (.lst vs)→aak G w' H' ts vs→H a=none→¬w'.Z a→notLoc w' a→Q (.ref a) H':=by
 match o,h with
 | none,h=>exact h.elim
 | some (.val (.lst ts)),h=>exact⟨ts,rfl,h⟩
 | some (.val .non),h=>exact h.elim
 | some (.val (.bl _)),h=>exact h.elim
 | some (.val (.int _)),h=>exact h.elim
 | some (.val (.str _)),h=>exact h.elim
 | some (.val (.tup _)),h=>exact h.elim
 | some (.val (.loc _)),h=>exact h.elim
 | some (.val (.exc _)),h=>exact h.elim
 | some (.bor _),h=>exact h.elim
theorem am8(hE:PE X e (tO G X C e'))(hfr:∀σ s r s1,ev C e' .v σ s=.ok r s1→∃ts,r=.val (.lst ts)):PE X e (tV G X C e'):=
 PE.imp hE fun σV H Q ⟨w₀,H₀,w,σ,s,g,h⟩=>⟨w₀,H₀,w,σ,s,g,aly (hfr σ s) h⟩
theorem aoX{es:List Expr}{es':List E}(h:PA X es (tA G X C es'))(hz:es'.length≤sizeLine):PE X (.List es pos) (tO G X C (.lst es')):=by
 refine PE.imp (alG h) ?_
 rintro σV H Q ⟨w₀,H₀,w,σ,s,g,h⟩
 have h:aa7 G X σV w H ((evs C es' σ s).bind fun ts s1=>.ok (.val (.lst ts)) s1) Q:=h
 refine⟨w₀,H₀,w,σ,s,g,?_⟩
 cases hf:evs C es' σ s with
 | stuck=>rw[hf]at h;exact h
 | exc c s2=>rw[hf]at h;exact h
 | ok ts s2=>
  rw[hf]at h
  intro w2 H2 vs L2 S2 R2
  refine⟨by rw[←R2.length,aeg C _ _ _ _ _ hf];exact hz,?_⟩
  exact aed S2 R2 (aa7.mono L2 h)
def r1O(G:Gx)(f:R→Option R):V→Hp→VK→Prop:=fun x H Q=>∃w s rx ts,StoOk G w H s∧adc G w H rx x∧f rx=some (.val (.lst ts))∧∀w' H' a vs,Le w w' H H'→StoOk G w' H' s→H' a=some (.lst vs)→aak G w' H' ts vs→H a=none→¬w'.Z a→notLoc w' a→Q (.ref a) H'
theorem apU{f:R→Option R}(h:∃w₀ H₀ w σ s,Good G w₀ H₀ w H σ s σV∧aa7 G X σV w H ((ev C a' .v σ s).bind fun x s1=>.of (f (x.dr s1)) s1) Q):tV G X C a' σV H fun v H1=>r1O G f v H1 Q:=by
 obtain⟨w₀,H₀,w,σ,s,g,h⟩:=h
 refine⟨w₀,H₀,w,σ,s,g,(aa7.bind h).imp ?_⟩
 rintro v H1 ⟨w1,r1,s1,L1,S1,R1,h1⟩
 obtain⟨ts,e,q⟩:=aa7.of h1
 exact⟨w1,s1,_,ts,S1,R1.dr S1,e,q⟩
theorem an3:aa4 X (.type "list") (fun xs H Q=>∃v,xs=[v]∧r1O G (b1R .list) v H Q):=by
 refine aa4.imp acs ?_
 rintro xs H Q ⟨v,rfl,w,s,rx,ts,S,R1,e,q⟩
 obtain⟨us,ht,er⟩:=map_some e
 cases er
 obtain⟨pa,vs,rfl,hp,rp⟩:=adc.sq2 R1 ht
 exact⟨pa,vs,rfl,hp.imp (fun h=>.inl h) (fun h=>SqT.of h),aed S rp q⟩
theorem alX(hg:Gl X "list")(hm:X.mg "list"=none)(ha:PE X a (tV G X C a'))(hs:starEach [a] X.env=[(false,eval a X.env)]):PE X (.Call (.Name "list" p) [a] [] pos) (tO G X C (.b1 .list a')):=by
 refine PE.imp (aeD (an3 (G:=G)) hg hm (by rfl) (aa2 ha aaZ hs) (by decide) (by decide) hs rfl) ?_
 rintro σV H Q ⟨w₀,H₀,w,σ,s,g,h⟩
 have h:aa7 G X σV w H ((ev C a' .v σ s).bind fun x s1=>.of (b1R .list (x.dr s1)) s1) Q:=h
 obtain⟨w₀,H₀,w,σ,s,g,h⟩:=apU ⟨w₀,H₀,w,σ,s,g,h⟩
 exact⟨w₀,H₀,w,σ,s,g,h.imp fun v H1 q=>⟨v,rfl,q⟩⟩
def r2O(G:Gx)(f:R→R→Option R):V→V→Hp→VK→Prop:=fun x y H Q=>∃w s rx ry ts,StoOk G w H s∧aaM G w H rx x∧aaM G w H ry y∧f rx ry=some (.val (.lst ts))∧∀w' H' a vs,Le w w' H H'→StoOk G w' H' s→H' a=some (.lst vs)→aak G w' H' ts vs→H a=none→¬w'.Z a→notLoc w' a→Q (.ref a) H'
theorem aka{x' y':R}{ts:List T}(e:opR .add x' y'=some (.val (.lst ts))):∃xs ys,x'.seq=some xs∧y'.seq=some ys∧xs.length+ys.length≤lim∧ts=xs++ys:=by
 unfold opR at e
 split at e
 ·rename_i i j
  cases ho:opI .add i j with
  | none=>rw[ho]at e;cases e
  | some k=>rw[ho]at e;cases e
 ·split at e<;>cases e
 ·split at e
  ·cases e
  ·cases e
 ·split at e
  ·rename_i xs ys e1 e2
   split at e
   ·rename_i hl
    cases e
    exact⟨xs,ys,e1,e2,hl,rfl⟩
   ·cases e
  ·cases e
 ·cases e
theorem ami:OpR X (binaryOp .Add) (r2O G (opR .add)):=by
 intro pins s σ H x y v u Q I rx ry h
 obtain⟨w,st,x',y',ts,S,Rx,Ry,e,q⟩:=h
 obtain⟨xs,ys,e1,e2,hl,rfl⟩:=aka e
 obtain⟨p,vs,rfl,hp,r1⟩:=aaM.seq (s:=st) Rx e1
 obtain⟨p2,vs2,rfl,hp2,r2⟩:=aaM.seq (s:=st) Ry e2
 cases rx
 cases ry
 obtain⟨z,its,n,q1,l1,g1⟩:=Rd.lst I hp
 obtain⟨z2,its2,n2,q2,l2,g2⟩:=Rd.lst I hp2
 have hz:its.length+its2.length≤sizeLine:=by
  rw[←l1,←l2,←r1.length,←r2.length]
  have:lim≤sizeLine:=by decide
  omega
 refine PySem.P.add_list g1 g2 ?_ (by rw[List.size_toArray,List.size_toArray];exact hz)
 have ea:its.toArray++its2.toArray=(its++its2).toArray:=by simp
 rw[ea]
 exact⟨.ref _,_,I.lnew (t':=s.toks) (q1.append q2) (by rw[List.length_append,l1,l2];exact hz),rfl,aed S (r1.append r2) q _ I.fresh⟩
theorem apb(ha:PE X a (tV G X C a'))(hb:PE X b (tV G X C b')):PE X (.BinOp a .Add b pos) (tO G X C (.bin .add a' b')):=by
 refine PE.imp (ap7 (ami (G:=G)) ha hb) ?_
 rintro σV H Q ⟨w₀,H₀,w,σ,s,g,h⟩
 have h:aa7 G X σV w H ((ev C a' .v σ s).bind fun x s1=>(ev C b' .v σ s1).bind fun y s2=>.of (opR .add x y) s2) Q:=h
 refine⟨w₀,H₀,w,σ,s,g,(aa7.bind h).imp ?_⟩
 rintro x H1 ⟨w1,r1,s1,L1,S1,R1,h1⟩
 refine⟨w₀,H₀,w1,σ,s1,g.step L1 S1,(aa7.bind h1).imp ?_⟩
 rintro y H2 ⟨w2,r2,s2,L2,S2,R2,h2⟩
 obtain⟨ts,e,q⟩:=aa7.of h2
 exact⟨w2,s2,r1,r2,ts,S2,R1.mono L2 S1,R2,e,q⟩
theorem anS{k1:Nat}{pu pn ps:Pos}(ha:PE X a (tV G X C a')):PE X (.Subscript a (.Slice none none (some (.UnaryOp .USub (.Constant (.int 1) k1 pn) pu)) ps) pos) (tO G X C (.rev a')):=by
 intro pins s σV H Q I h
 obtain⟨w₀,H₀,w,σ,st,g,h⟩:=h
 have h:aa7 G X σV w H ((ev C a' .v σ st).bind fun x s1=>.of (x.seq.map fun ts=>.val (.lst ts.reverse)) s1) Q:=h
 refine PyProof.Rows.Subscript_ (thn (ha pins s σV H _ I ⟨w₀,H₀,w,σ,st,g,aa7.bind h⟩) fun v s1 ⟨x,H1,I1,r1,q1⟩=>?_)
 obtain⟨w1,rr,st1,L1,S1,R1,h1⟩:=q1
 obtain⟨ts,e,q⟩:=aa7.of h1
 obtain⟨us,hs,er⟩:=map_some e
 cases er
 obtain⟨pa,vs,rfl,hp,rp⟩:=aaM.seq (s:=st1) R1 hs
 cases r1
 have hneg:PE X (.UnaryOp .USub (.Constant (.int 1) k1 pn) pu) (tV G X C (.neg (.cst (.int 1)))):=al1 akS
 refine wpAny_Slice (thn (adB pins s1 σV H1 (fun o H2=>o=none∧H2=H1) I1 ⟨rfl,rfl⟩) fun vl s2 ⟨l,H2,I2,pl,e2,e2'⟩=>thn (adB pins s2 σV H2 (fun o H3=>o=none∧H3=H1) I2 ⟨rfl,e2'⟩) fun vu s3 ⟨u,H3,I3,pu,e3,e3'⟩=>?_)
 subst e2' e3' e2 e3
 refine thn (acT hneg pins s3 σV H3 (fun o H4=>o=some (-1)∧∃w4,Le w1 w4 H3 H4∧StoOk G w4 H4 st1) I3 ⟨w₀,H₀,w1,σ,st1,g.step L1 S1,fun w4 H4 v L4 S4 R4=>⟨-1,R4,rfl,w4,L4,S4⟩⟩) fun vk s4 ⟨o,H4,I4,pk,e4,w4,L4,S4⟩=>?_
 subst e4
 cases pl
 cases pu
 have nl:Rd H3 pa (.lst vs):=hp
 have R4:aaM G w4 H4 rr (.ref pa):=R1.mono L4 S1
 obtain⟨pa',vs',ee,hp',rp'⟩:=aaM.seq (s:=st1) R4 hs
 cases ee
 have I5:Inv X pins σV H4 { s4 with heap:=s4.heap.push { cls:=.type "slice",data:=.fields #[.none,.none,vk] } }:=I4.kept (t':=s4.toks) fun b ob q=>Heap.get?_push_of_some _ q
 obtain⟨z,its,n,q1,l1,g1⟩:=Rd.lst I5 hp'
 show wpAny (model X.prog X.w) X.A (subscriptTail a (.Slice none none (some (.UnaryOp .USub (.Constant (.int 1) k1 pn) pu)) ps) (.ref pa) (.ref s4.heap.objs.size)) (EP X pins σV Q) X.xe { s4 with heap:=s4.heap.push { cls:=.type "slice",data:=.fields #[.none,.none,vk] } }
 have il:({ s4 with heap:=s4.heap.push { cls:=.type "slice",data:=.fields #[.none,.none,vk] } }:Shared).heap.IsList pa its.toArray:=⟨_,g1,rfl,_,rfl⟩
 refine PyProof.Rows.tail_any (ops:=[.ref pa,.ref s4.heap.objs.size]) il.typeIs slot_list_getitem.lookup ?_ (by with_unfolding_all rfl)
 refine wpAny_getItem_list_slice il (Heap.IsSliceOf.new ..) .none .none pk (by simp) ?_ (by rw[List.size_toArray,←l1];exact z)
 rw[PySem.W.krv_pick]
 refine⟨.ref _,_,I5.lnew (t':=s4.toks) (ys:=vs'.reverse) (its:=its.reverse) ?_ (by rw[List.length_reverse];exact z),rfl,?_⟩
 ·exact q1.reverse
 ·exact aed S4 rp'.reverse (fun w' H' a vs L S ha r hn=>q w' H' a vs (L4.trans L) S ha r (by
   cases qq:H3 a with
   | none=>rfl
   | some o=>exact absurd hn (L4.some_ a (by rw[qq];intro z;cases z)))) _ I5.fresh
end
end IP
end
noncomputable section
namespace IP
open PySem PySem.Spec L2
section
variable{G:Gx}{X:Cx}{C:Cf}{w w' w₀:Wo}{H H' H₀:Hp}{σ σ':Fr}{σV σV':St}{a b e:Expr}{a' b' e':IP.E}{pos p p2:Pos}{Q:VK}{i:Nat}{x:Str}
theorem akw{s:Sto}(g:Good G w₀ H₀ w H σ s σV){a:Addr}(hn:H a=none):H₀ a=none:=by
 cases q:H₀ a with
 | none=>rfl
 | some o=>exact absurd hn (g.ent.some_ a (by rw[q];intro z;cases z))
theorem an6(he:PE X e (tO G X C e')):PS X (.Return (some e) pos) (tS G X C (.retO e')):=by
 refine PS.imp (alL he) ?_
 rintro D σV H ⟨w₀,H₀,w,σ,s,g,h⟩
 refine⟨w₀,H₀,w,σ,s,g,?_⟩
 have h:aan G X w₀ H₀ w H σ σV (if aba C e' then(ev C e' .v σ s).st σ fun x s1=>onS x.lst? fun ts=>.retO ts s1 else .stuck) D:=h
 split at h
 ·cases hv:ev C e' .v σ s with
  | stuck=>rw[hv]at h;exact h
  | exc c s1=>rw[hv]at h;exact fun w1 H1 pins u sh L S T=>h w1 H1 σV pins u sh (g.step L S) (LeS.of L) T
  | ok r s1=>
   rw[hv]at h
   obtain⟨ts,ht,h⟩:=abf (show aan G X w₀ H₀ w H σ σV (onS r.lst? fun ts=>.retO ts s1) D from h)
   cases alc ht
   exact fun w1 H1 a vs L S ha r hn nz nl=>h w1 H1 a vs S ha r (akw g hn) nz nl (g.ent.trans L)
 ·exact h.elim
def spG(G:Gx)(cf:Nat→List R→Sto→Res R)(fr:Nat→Bool)(f:Nat):Sp:=fun vs H Q E=>∃w s rs,StoOk G w H s∧aaP G w H rs vs∧match cf f rs s with
 | .stuck=>False
 | .ok r s'=>(fr f=false→∀w' H' v,Le w w' H H'→StoOk G w' H' s'→aaM G w' H' r v→Q v H')∧
   (fr f=true→∃ts,r=.val (.lst ts)∧∀w' H' a vs,Le w w' H H'→StoOk G w' H' s'→H' a=some (.lst vs)→aak G w' H' ts vs→H a=none→¬w'.Z a→notLoc w' a→Q (.ref a) H')
 | .exc c s'=>∀w' H',Le w w' H H'→StoOk G w' H' s'→E (.ref (G.cA c)) none H'
variable{k fi:Nat}{fa:Addr}{fd:FuncData}{ps:List Str}{e₀:Expr}{es:List Expr}{es':List IP.E}{rs:List R}{vs:List V}
theorem af2{w:Wo}{H:Hp}{σV:St}{m:Res (List R)}{k:List R→Sto→Res R}{Q:VK}(h:aa7 G X σV w H (m.bind k) Q):aiv G X σV w H m fun vs H1=>∃w1 rs s1,Le w w1 H H1∧StoOk G w1 H1 s1∧aaP G w1 H1 rs vs∧aa7 G X σV w H (k rs s1) Q:=by
 cases m with
 | stuck=>exact h
 | ok rs s=>exact fun w' H' vs a b c=>⟨w',rs,s,a,b,c,h⟩
 | exc c s=>exact h
end
section
variable{fs:List Fn}{sub:Nat→Nat→Bool}{k fi:Nat}
variable{G:Gx}{P:Program}{w:World}{K:PySem.W.Frag}{mg:Str→Option Value}{base:Heap}
theorem abQ{F:Fn}{rs:List R}{i:Nat}{b:B}(h:(aaC F rs)[i]?=some (some b)):∃r,rs[i]?=some r∧ofR r=b:=by
 unfold aaC at h
 by_cases hi:i<rs.length
 ·rw[List.getElem?_append_left (by simpa using hi),List.getElem?_map]at h
  cases q:rs[i]? with
  | none=>rw[q]at h;cases h
  | some r=>rw[q]at h;cases h;exact⟨r,rfl,rfl⟩
 ·rw[List.getElem?_append_right (by simpa using hi),List.getElem?_replicate]at h
  split at h<;>cases h
theorem aaP.get{wo:Wo}{H:Hp}:∀{rs:List R}{vs:List V}{i:Nat}{r:R},aaP G wo H rs vs→rs[i]?=some r→∃v,vs[i]?=some v∧aaM G wo H r v
 | [],_,i,t,h,e=>by simp at e
 | t::ts,_,0,u,⟨v,r,e,h,q⟩,z=>by subst e;simp at z;subst z;exact⟨v,rfl,h⟩
 | t::ts,_,i+1,u,⟨v,r,e,h,q⟩,z=>by
  subst e
  obtain⟨x,h1,h2⟩:=aaP.get q (i:=i) (r:=u) (by simpa using z)
  exact⟨x,by simpa using h1,h2⟩
theorem aeM{N:List Str}{vs:List V}{i:Nat}{v:V}(h:vs[i]?=some v):(L2.start N vs)[i]?=some (some v):=by
 unfold L2.start
 have hi:=(List.getElem?_eq_some_iff.mp h).1
 rw[List.getElem?_append_left (by simpa using hi),List.getElem?_map,h]
 rfl
theorem ahg{wo:Wo}{H:Hp}{s:Sto}{F:Fn}{rs:List R}{vs:List V}{N:List Str}(S:StoOk G wo H s)(R1:aaP G wo H rs vs)(hs:F.size=N.length):Good G wo H wo H (aaC F rs) s (L2.start N vs):=by
 refine⟨S,⟨?_,fun i t e=>?_,fun i b ts e eb=>?_,fun i j b c ts us a ne e eb=>?_,fun i ts e=>?_⟩,Le.refl _ _⟩
 ·unfold aaC L2.start
  rw[List.length_append,List.length_append,List.length_map,List.length_map,List.length_replicate,List.length_replicate,hs,R1.length]
 ·obtain⟨r,hr,q⟩:=abQ e
  obtain⟨v,hv,rv⟩:=R1.get hr
  cases r with
  | val u=>cases q;exact⟨v,aeM hv,rv⟩
  | bor u=>cases q
 ·obtain⟨r,hr,q⟩:=abQ e
  cases r<;>subst q<;>cases eb
 ·obtain⟨r,hr,q⟩:=abQ e
  cases r<;>subst q<;>cases eb
 ·obtain⟨r,hr,q⟩:=abQ e
  obtain⟨v,hv,rv⟩:=R1.get hr
  cases r with
  | val u=>cases q
  | bor u=>
   cases q
   obtain⟨a,xs,e1,e2,e3,e4⟩:=rv
   subst e1
   exact⟨a,xs,aeM hv,e2,e3,(by rw[e2];intro z;cases z),e4⟩
end
section
variable{G:Gx}{X:Cx}{pins:List (Addr×Obj)}{σV:St}{H:Hp}{c:Nat}{u:Value}{sh:Shared}
theorem agK{s:Shared}(I:Inv X pins σV H s):X.base.StaysIn (PySem.W.hideAll s.heap (frs X.stack)):=fun b o e=>
 aao.mpr ⟨I.bk b o e,fun z=>by have:=(I.stack.mem z).1;rw[e]at this;cases this⟩
theorem af6{s:Shared}(I:Inv X pins σV H s){h':Heap}{e:Addr}{args:List Value}(hm:Heap.MadeExcOf s.heap h' e (.ref (G.cA c)) args):aaO G X pins σV H c (.ref e) { s with heap:=h' }:=
 ⟨e,s.heap,PySem.W.hideAll s.heap (frs X.stack),rfl,I,⟨fun _ _=>aao,fun b o q _=>hm.keeps b o q,fun b o q _=>⟨o.slots,hm.keeps b o q⟩,hm.new⟩,agK I,.inl ⟨args,hm⟩⟩
theorem acv{E E':Value→Shared→Prop}{Q:Unit→Shared→Prop}(hst:af9 X)(T:aaO G X pins σV H c u sh)
  (hQ:∀e h B h' t,u=.ref e→Inv X pins σV H { sh with heap:=h }→Flt X.stack h B e h'→X.base.StaysIn B→Heap.FlyingW B X.stack e (.ref (G.cA c)) t h'→Q () { sh with heap:=h' }):
  wpAny (model X.prog X.w) X.A (noteFrame u X.env) (fun _ s2=>wpAny (model X.prog X.w) X.A (setFlight u none) Q E s2) E' sh:=by
 refine acr hst T fun e h B h1 t L eu I F sb hh=>?_
 subst eu
 refine wpAny_landsW (s:={ sh with heap:=h1 }) hh fun h2 hfl sm2=>?_
 exact hQ e h B h2 t rfl I (F.next I.stack hfl.1 sm2) sb hfl
theorem adv{M:Model}{A:Around}{E:Value→Shared→Prop}{s:Shared}{env:Env}{u:Value}{Q:Unit→Shared→Prop}(h:wpAny M A (noteFrame u env) (fun _ s2=>wpAny M A (setFlight u none) Q E s2) E s):wpAny M A (leaving env u) Q E s:=by
 unfold leaving
 exact wpAny_bind h
theorem acb{h B h':Heap}{e:Addr}(I:Inv X pins σV H { sh with heap:=h })(F:Flt X.stack h B e h'):Inv X pins σV H { sh with heap:=h' }:=by
 have nfr:∀b,H b≠none→b∉frs X.stack:=fun b n z=>n (I.stkFree b z)
 have upsl:∀b o,h.get? b=some o→∃sl,h'.get? b=some { o with slots:=sl }:=fun b o q=>by
  by_cases z:b∈frs X.stack
  ·exact F.slot b o q z
  ·exact⟨o.slots,F.keep b o q z⟩
 have ncell:∀{b:Addr}{v:Option Value},h.IsCell b v→h'.IsCell b v:=fun {b v} ⟨o,q,d⟩=>by
  obtain⟨sl,e⟩:=upsl b o q
  exact⟨_,e,d⟩
 have old:∀b o,X.s₀.heap.get? b=some o→b∉X.fs→b∉frs X.stack:=fun b o q n z=>by
  rcases List.mem_cons.mp (I.stkSub b z)with r|r
  ·rw[r]at q
   exact absurd (Heap.lt_size q) (Nat.not_lt.mpr I.ok.above)
  ·exact n r
 refine⟨I.ok,I.os,I.bare,⟨fun b o q n hb hx=>?_,fun b o q n hb hx=>?_,I.base.free,fun b o q hx=>?_,I.base.tups,I.base.frzs,I.base.tbls⟩,?_,fun x c q=>?_,I.free,I.freeC,fun p hp=>?_,fun a o q=>?_,I.len⟩
 ·exact F.keep b o (I.base.keep b o q n hb hx) (old b o q hb)
 ·obtain⟨sl,e1⟩:=I.base.slot b o q n hb hx
  obtain⟨sl',e2⟩:=upsl b _ e1
  exact⟨sl',e2⟩
 ·obtain⟨o',e1⟩:=I.base.there b o q hx
  obtain⟨sl',e2⟩:=upsl b _ e1
  exact⟨_,e2⟩
 ·obtain⟨m,⟨o,es,ep,ho,hd,r⟩,hl⟩:=I.loc
  obtain⟨sl,e1⟩:=upsl _ o ho
  refine⟨m,⟨_,es,ep,e1,hd,r⟩,fun i x v h1 h2 h3=>?_⟩
  obtain⟨w,rv,lk⟩:=hl i x v h1 h2 h3
  refine⟨w,rv,?_⟩
  rcases lk with lk|⟨lk,cc,lc,ic⟩
  ·exact .inl lk
  ·exact .inr ⟨lk,cc,lc,ncell ic⟩
 ·obtain⟨v,ic⟩:=I.cell x c q
  exact⟨v,ncell ic⟩
 ·obtain⟨p1,p2,p3,p4,p5⟩:=I.pin p hp
  refine⟨F.keep p.1 p.2 p1 fun z=>?_,p2,p3,p4,p5⟩
  rcases List.mem_cons.mp (I.stkSub _ z)with r|r
  ·exact p3 r
  ·exact p4 r
 ·refine(I.hok a o q).stay (fun b v hb r=>F.keep b v r (nfr b ?_)) (fun _ r=>r) fun _ _ r=>r
  rcases hb with rfl|hb
  ·rw[q];intro z;cases z
  ·rw[hb];intro z;cases z
end
section
variable{G:Gx}{X:Cx}{C:Cf}{pins:List (Addr×Obj)}{σV:St}{H:Hp}{c:Nat}{u:Value}{sh:Shared}
theorem akC{P:Program}{w:World}{h:Heap}{L:Addr}(k:HOk P w H h)(n:H L=none):HOk P w H (PySem.W.hideAll h [L]):=fun a o q=>by
 refine(k a o q).stay (fun b v hb r=>aao.mpr ⟨r,fun z=>?_⟩) (fun _ r=>r) fun _ _ r=>r
 have z:b=L:=by simpa using z
 subst z
 rcases hb with rfl|hb
 ·rw[n]at q;cases q
 ·rw[n]at hb;cases hb
theorem ahb{P:Program}{w:World}{K:PySem.W.Frag}{mg:Str→Option Value}{base:Heap}{N:List Str}{qual:Str}{scope:Scope}{f:Addr}{cd:Value}{A:Around}{outer:List Env}{s:Shared}{H₁:Hp}{E:XK}
  (T:aaO G (aek (CXE G P w base) P w K mg base N qual scope f cd A outer s H₁ E) pins σV H c u sh) (hE:E (.ref (G.cA c)) none H):(aek (CXE G P w base) P w K mg base N qual scope f cd A outer s H₁ E).xe u sh:=by
 refine adv (acv (X:=aek (CXE G P w base) P w K mg base N qual scope f cd A outer s H₁ E) ⟨_,_,_,rfl,rfl,rfl⟩ T fun e h B h' t eu I F sb fly=>?_)
 have hL:H s.heap.objs.size=none:=I.free
 have un:=I.base
 obtain⟨f1,f2,⟨_,_,f3⟩,f4⟩:=fly
 have hne:∀b,b<s.heap.objs.size→b∉[s.heap.objs.size]:=fun b hb z=>by
  have:b=s.heap.objs.size:=by simpa using z
  omega
 refine⟨e,_,t,H,PySem.W.hideAll h [s.heap.objs.size],B,eu,I.os,I.bare,⟨fun b o q n hb hx=>?_,fun b o q n hb hx=>?_,un.free,fun b o q hx=>?_,un.tups,un.frzs,un.tbls⟩,akC I.hok hL,⟨fun b o=>?_,fun b o q n=>?_,fun b o q n=>?_,?_⟩,sb,⟨f1,f2,f3,f4⟩,hE⟩
 ·exact aao.mpr ⟨un.keep b o q n hb hx,hne b (Heap.lt_size q)⟩
 ·obtain⟨sl,z⟩:=un.slot b o q n hb hx
  exact⟨sl,aao.mpr ⟨z,hne b (Heap.lt_size q)⟩⟩
 ·obtain⟨o',z⟩:=un.there b o q hx
  exact⟨o',aao.mpr ⟨z,hne b (Heap.lt_size q)⟩⟩
 ·rw[F.cov b o,aao]
  have efs:b∈frs (aek (CXE G P w base) P w K mg base N qual scope f cd A outer s H₁ E).stack↔b∈[s.heap.objs.size]∨b∈frs outer:=by
   show b∈s.heap.objs.size::frs outer↔_
   simp
  rw[efs]
  exact⟨fun⟨a,z⟩=>⟨⟨a,fun y=>z (.inl y)⟩,fun y=>z (.inr y)⟩,fun⟨⟨a,y⟩,z⟩=>⟨a,fun y'=>y'.elim y z⟩⟩
 ·obtain⟨a,y⟩:=aao.mp q
  refine F.keep b o a fun z=>?_
  rcases List.mem_cons.mp (show b∈s.heap.objs.size::frs outer from z)with r|r
  ·exact y (by simp[r])
  ·exact n r
 ·obtain⟨a,y⟩:=aao.mp q
  exact F.slot b o a (List.mem_cons_of_mem _ n)
 ·cases q:(PySem.W.hideAll h [s.heap.objs.size]).get? e with
  | none=>rfl
  | some o=>have:=(aao.mp q).1;rw[F.new]at this;cases this
theorem acu{Q:Value→Unit→Shared→Prop}{E₁:Value→Value→Shared→Prop}(hx:X.xe=fun e s=>wpAny (model X.prog X.w) X.A (leaving X.env e) (Q e) (E₁ e) s):PassesOwn (model X.prog X.w) X.A X.env X.xe:=by
 intro e s' h
 rw[hx]at h
 have h2:=wpAny_leaving_again (A':=X.A) (A'':=X.A) (SameStack.refl X.A) (what:="frame.own-activation:exception-without-traceback") (E₂:=X.xe) (E₃:=cameBackBy (model X.prog X.w) X.A X.env X.xe) h
 refine wpAny_mono h2 (fun _ s1 q=>?_) fun _ _ z=>z
 refine wpAny_mono q (fun _ s2 z=>?_) fun _ _ z=>z
 show X.xe e s2
 rw[hx]
 exact z
end
section
variable{G:Gx}{X:Cx}{C:Cf}{w w' w₀:Wo}{H H' H₀:Hp}{σ σ':Fr}{σV σV':St}{a b e:Expr}{a' b' e':IP.E}{pos p p2:Pos}{Q:VK}{i:Nat}{x:Str}
variable{k fi:Nat}{fa:Addr}{fd:FuncData}{ps:List Str}{e₀:Expr}{es:List Expr}{es':List IP.E}{rs:List R}{vs dvs:List V}{ds:List Value}{dts:List T}
theorem agm{H1:Hp}{w1:Wo}{s1:Sto}(hf:C.fr fi=false)(L1:Le w w1 H H1)(S1:StoOk G w1 H1 s1)(R1:aaP G w1 H1 rs vs)(h:aa0 G X σV w H (C.cf fi rs s1) Q):spG G C.cf C.fr fi vs H1 Q (EX G X σV):=by
 refine⟨w1,s1,rs,S1,R1,?_⟩
 have h:=aa0.mono L1 h
 cases hc:C.cf fi rs s1 with
 | stuck=>rw[hc]at h;exact h
 | ok r s'=>rw[hc]at h;exact⟨fun _=>h,fun z=>by rw[hf]at z;cases z⟩
 | exc c s'=>
  rw[hc]at h
  intro w' H' L S pins u sh hh B a t e I fl sb fly
  exact h w' H' pins u sh L S ⟨a,hh,B,e,I,fl,sb,.inr (.inl ⟨t,fly⟩)⟩
theorem aqO{H1:Hp}{w1:Wo}{s1:Sto}(hf:C.fr fi=true)(L1:Le w w1 H H1)(S1:StoOk G w1 H1 s1)(R1:aaP G w1 H1 rs vs)(h:aa7 G X σV w H (C.cf fi rs s1) Q):spG G C.cf C.fr fi vs H1 Q (EX G X σV):=by
 refine⟨w1,s1,rs,S1,R1,?_⟩
 have h:=aa7.mono L1 h
 cases hc:C.cf fi rs s1 with
 | stuck=>rw[hc]at h;exact h
 | ok r s'=>
  rw[hc]at h
  obtain⟨ts,er,q⟩:=aa7.of (o:=some r) (s:=s') h
  cases er
  exact⟨fun z=>(by rw[hf]at z;cases z),fun _=>⟨ts,rfl,q⟩⟩
 | exc c s'=>
  rw[hc]at h
  intro w' H' L S pins u sh hh B a t e I fl sb fly
  exact h w' H' pins u sh L S ⟨a,hh,B,e,I,fl,sb,.inr (.inl ⟨t,fly⟩)⟩
theorem akb(hf:C.fr fi=false)(F:FnOk X.prog X.w X.K X.mg X.base (CXE G X.prog X.w X.base) k fa fd ps (spG G C.cf C.fr fi))(hr:Room k X.A)(hg:Gl X x)(hm:X.mg x=some (.ref fa))(hk:PySem.W.keepIn X.K (.ref fa)=true)(hb:Binds X.K fd ps ds)(hd:Vals dvs ds)
  (hdt:dts.mapM cstV=some dvs) (ha:PA X (e₀::es) (tR G X C es')) (hdb:(x==("__debug__":Str))=false) (he:starEach (e₀::es) X.env=(false,eval e₀ X.env)::starEach es X.env) (hpl:(backTo pos (starEach es X.env)).any (·.1)=false):
  PE X (.Call (.Name x p) (e₀::es) [] pos) (tV G X C (.call fi es' dts)):=by
 rintro pins s σV H Q I ⟨w₀,H₀,w,σ,st,g,h⟩
 have h:aa0 G X σV w H ((evr C es' σ st).bind fun rs s1=>C.cf fi (rs++dts.map .val) s1) Q:=h
 refine wpAny_Call_Name_kw (abG I hg hm ?_ hdb)
 refine PySem.W.callWith_K (h₀:=X.base) I.ok.mod.kin hk (thn (ha pos pins s σV H _ I ⟨w₀,H₀,w,σ,st,g,ack h⟩) fun us s1 ⟨vs,H1,I1,r,q⟩=>⟨I1.kIn,?_⟩) he hpl
 obtain⟨w1,rs,st1,L1,S1,R1,h1⟩:=q
 exact acB F hr hb hd I1 r (agm hf L1 S1 (aa9 R1 (abj hdt)) h1) (abh I1)
theorem agt(hf:C.fr fi=true)(F:FnOk X.prog X.w X.K X.mg X.base (CXE G X.prog X.w X.base) k fa fd ps (spG G C.cf C.fr fi))(hr:Room k X.A)(hg:Gl X x)(hm:X.mg x=some (.ref fa))(hk:PySem.W.keepIn X.K (.ref fa)=true)(hb:Binds X.K fd ps ds)(hd:Vals dvs ds)
  (hdt:dts.mapM cstV=some dvs) (ha:PA X (e₀::es) (tR G X C es')) (hdb:(x==("__debug__":Str))=false) (he:starEach (e₀::es) X.env=(false,eval e₀ X.env)::starEach es X.env) (hpl:(backTo pos (starEach es X.env)).any (·.1)=false):
  PE X (.Call (.Name x p) (e₀::es) [] pos) (tO G X C (.call fi es' dts)):=by
 rintro pins s σV H Q I ⟨w₀,H₀,w,σ,st,g,h⟩
 have h:aa7 G X σV w H ((evr C es' σ st).bind fun rs s1=>C.cf fi (rs++dts.map .val) s1) Q:=h
 refine wpAny_Call_Name_kw (abG I hg hm ?_ hdb)
 refine PySem.W.callWith_K (h₀:=X.base) I.ok.mod.kin hk (thn (ha pos pins s σV H _ I ⟨w₀,H₀,w,σ,st,g,af2 h⟩) fun us s1 ⟨vs,H1,I1,r,q⟩=>⟨I1.kIn,?_⟩) he hpl
 obtain⟨w1,rs,st1,L1,S1,R1,h1⟩:=q
 exact acB F hr hb hd I1 r (aqO hf L1 S1 (aa9 R1 (abj hdt)) h1) (abh I1)
theorem ahL(hf:C.fr fi=true)(hvl:∀rs s r s',C.cf fi rs s=.ok r s'→∃ts,r=.val (.lst ts))(F:FnOk X.prog X.w X.K X.mg X.base (CXE G X.prog X.w X.base) k fa fd ps (spG G C.cf C.fr fi))(hr:Room k X.A)(hg:Gl X x)(hm:X.mg x=some (.ref fa))(hk:PySem.W.keepIn X.K (.ref fa)=true)(hb:Binds X.K fd ps ds)(hd:Vals dvs ds)
  (hdt:dts.mapM cstV=some dvs) (ha:PA X (e₀::es) (tR G X C es')) (hdb:(x==("__debug__":Str))=false) (he:starEach (e₀::es) X.env=(false,eval e₀ X.env)::starEach es X.env) (hpl:(backTo pos (starEach es X.env)).any (·.1)=false):
  PE X (.Call (.Name x p) (e₀::es) [] pos) (tV G X C (.call fi es' dts)):=by
 refine am8 (agt hf F hr hg hm hk hb hd hdt ha hdb he hpl) fun σ s r s1 h=>?_
 have h:(evr C es' σ s).bind (fun rs s1=>C.cf fi (rs++dts.map .val) s1)=.ok r s1:=h
 cases hq:evr C es' σ s with
 | stuck=>rw[hq]at h;cases h
 | exc c s2=>rw[hq]at h;cases h
 | ok rs s2=>rw[hq]at h;exact hvl _ _ _ _ h
end
structure FunD(K:PySem.W.Frag)(x qual:Str)(st:Stmt)(f:Addr)(fd:FuncData):Prop where
 ex:∃(oc:Value) (od:Option Addr) (dV kV doc pm:Value) (an:Option Addr) (cdv ct:Value) (osl:Array (Option Value)),
  fd=PySem.W.fnOf x qual (defArgs st) (defBody st) (defScope st) dV kV doc pm an cdv ct∧K.lookup f=some ⟨oc,od,.func fd,osl⟩∧PySem.W.codeIn K cdv qual=true
 kp:PySem.W.keepIn K (.ref f)=true
theorem aid{K:PySem.W.Frag}{x qual:Str}{st:Stmt}{f:Addr}{oc:Value}{od an:Option Addr}{osl:Array (Option Value)}{dV kV doc pm cdv ct:Value}(l:K.lookup f=some ⟨oc,od,.func (PySem.W.fnOf x qual (defArgs st) (defBody st) (defScope st) dV kV doc pm an cdv ct),osl⟩)
  (c:PySem.W.codeIn K cdv qual=true) (k:PySem.W.keepIn K (.ref f)=true):FunD K x qual st f (PySem.W.fnOf x qual (defArgs st) (defBody st) (defScope st) dV kV doc pm an cdv ct):=⟨⟨oc,od,dV,kV,doc,pm,an,cdv,ct,osl,rfl,l,c⟩,k⟩
section
variable{fs:List Fn}{sub:Nat→Nat→Bool}{k fi:Nat}
theorem akG(hf:adR fs fi=true):∀(k:Nat) (rs:List R) (s:Sto) (r:R) (s':Sto),run true fs sub aac k fi rs s=.ok r s'→∃ts,r=.val (.lst ts)
 | 0,rs,s,c,s',h=>by cases h
 | k+1,rs,s,c,s',h=>by
  unfold run at h
  unfold adR at hf
  split at h
  ·cases h
  ·rename_i F e
   rw[e]at hf
   have hf:F.fr=true:=hf
   split at h
   ·generalize exs _ _ _ s=r at h
    cases r<;>simp only[aaL,hf]at h
    ·cases h
    ·simp at h
    ·simp at h
    ·rename_i ts _;exact⟨ts,by simp at h;exact h.1.symm⟩
    ·simp at h
   ·cases h
variable{G:Gx}{P:Program}{w:World}{K:PySem.W.Frag}{mg:Str→Option Value}{base:Heap}
theorem afx{CX:CXT}{f:Addr}{fd:FuncData}{ps:List Str}{k:Nat}:FnOk P w K mg base CX k f fd ps (spG G (run true fs sub aac 0) (adR fs) fi):=
 ⟨fun vs H Q E ⟨_,_,_,_,_,z⟩=>z.elim,fun A outer s H args us vs Q E hr e0 hb hv ⟨_,_,_,_,_,z⟩=>z.elim⟩
@[reducible] def cfX (fs:List Fn) (sub:Nat→Nat→Bool) (k:Nat):Cf:=⟨run true fs sub aac k,sub,adR fs,aac⟩
theorem aqo{x qual:Str}{st:Stmt}{f:Addr}{fd:FuncData}{N ps:List Str}{F:Fn}(Fu:FunD K x qual st f fd)(S:FnScope N ps (defScope st))(hF:fs[fi]?=some F)(hp:F.pars=ps.length)(hs:F.size=N.length)
  (hbody:∀(cdv:Value) (A:Around) (outer:List Env) (s:Shared) (H:Hp) (E:XK),fd.code=cdv→Room (2*k+1) (A.deeper (PyProof.Rows.envOfC qual (defScope st) s.heap.objs.size f cdv))→
   PSs (aek (CXE G P w base) P w K mg base N qual (defScope st) f cdv A outer s H E) (defBody st) (tSs G (aek (CXE G P w base) P w K mg base N qual (defScope st) f cdv A outer s H E) (cfX fs sub k) F.body)):
  FnOk P w K mg base (CXE G P w base) (2*(k+1)) f fd ps (spG G (run true fs sub aac (k+1)) (adR fs) fi):=by
 have hrun:∀rs s,run true fs sub aac (k+1) fi rs s=if rs.length=F.pars then aaL true F.fr (exs (cfX fs sub k) F.body (aaC F rs) s)else .stuck:=fun rs s=>by
  conv=>lhs;unfold run
  rw[hF]
 have hfr:adR fs fi=F.fr:=by unfold adR;rw[hF]
 obtain⟨oc,od,dV,kV,doc,pm,an,cdv,ct,osl,rfl,lk,hcd⟩:=Fu.ex
 refine apq (k:=2*k+1) lk hcd S (fun vs H Q E h=>?_) fun A outer s H vs Q E hr h=>⟨_,hbody cdv A outer s H E rfl hr,?_⟩
 ·obtain⟨wo,st,rs,S1,R1,h⟩:=h
  rw[hrun]at h
  by_cases hl:rs.length=F.pars
  ·exact R1.length.symm.trans (hl.trans hp)
  ·rw[if_neg hl]at h;exact h.elim
 ·obtain⟨wo,st,rs,S1,R1,h⟩:=h
  rw[hrun]at h
  by_cases hl:rs.length=F.pars
  ·rw[if_pos hl]at h
   refine⟨wo,H,wo,aaC F rs,st,ahg S1 R1 hs,?_⟩
   rw[hfr]at h
   cases hx:exs (cfX fs sub k) F.body (aaC F rs) st with
   | stuck=>rw[hx]at h;exact h.elim
   | next σ' s'=>
    rw[hx]at h
    cases hb:F.fr with
    | true=>rw[hb]at h;exact h.elim
    | false=>rw[hb]at h;exact fun w' H' σV' g L=>h.1 rfl w' H' .non g.ent g.sto rfl
   | ret r s'=>
    rw[hx]at h
    cases hb:F.fr with
    | true=>rw[hb]at h;exact h.elim
    | false=>rw[hb]at h;exact fun w' H' v S R L=>h.1 rfl w' H' v L S R
   | retO ts s'=>
    rw[hx]at h
    cases hb:F.fr with
    | false=>rw[hb]at h;exact h.elim
    | true=>
     rw[hb]at h
     obtain⟨us,e,q⟩:=h.2 rfl
     cases e
     exact fun w' H' a vs S ha r hn nz nl L=>q w' H' a vs L S ha r hn nz nl
   | exc c σ' s'=>
    rw[hx]at h
    exact fun w' H' σV' pins u sh g L T=>ahb T (h w' H' g.ent g.sto)
  ·rw[if_neg hl]at h;exact h.elim
theorem aqJ{x qual:Str}{st:Stmt}{f:Addr}{fd:FuncData}{N ps:List Str}{F:Fn}(Fu:FunD K x qual st f fd)(S:FnScope N ps (defScope st))(hF:fs[fi]?=some F)(hp:F.pars=ps.length)(hs:F.size=N.length)
  (hbody:∀(cdv:Value) (A:Around) (outer:List Env) (s:Shared) (H:Hp) (E:XK),Room (2*k+1) (A.deeper (PyProof.Rows.envOfC qual (defScope st) s.heap.objs.size f cdv))→
   PSs (aek (CXE G P w base) P w K mg base N qual (defScope st) f cdv A outer s H E) (defBody st) (tSs G (aek (CXE G P w base) P w K mg base N qual (defScope st) f cdv A outer s H E) (cfX fs sub k) F.body)):
  FnOk P w K mg base (CXE G P w base) (2*(k+1)) f fd ps (spG G (run true fs sub aac (k+1)) (adR fs) fi):=
 aqo Fu S hF hp hs fun cdv A outer s H E _ hr=>hbody cdv A outer s H E hr
end
theorem amQ{K:PySem.W.Frag}{h:Heap}{Ca:Addr}{bB:List Value}{nid:String}(hK:K.In h)(q:PySem.W.excIn K Ca bB nid=true):
  ∃bm N nm qn bs hdct sn sub ab col dd k0 k1 k2 k3 k5 mN,h.get? Ca=some (excClassObj nm qn Ca N bs bm hdct sn sub ab col dd k0 k1 k2 k3 k5 nid)∧h.Ns N mN∧mN "__init__"=none∧OwnTail h bB bm:=by
 unfold PySem.W.excIn at q
 split at q
 ·rename_i d1 cl sl ho
  split at q
  ·rename_i Cb tl u0 u1 u2 u3 nn u5 em es
   simp only[Bool.and_eq_true,beq_iff_eq,Bool.not_eq_true']at q
   obtain⟨⟨⟨⟨⟨q1,q2⟩,q3⟩,q4⟩,q5⟩,q6⟩:=q
   subst q1 q2
   obtain⟨nm0,bs0,mro0,ns0,qn0,hd0,sn0,sub0,ab0,col0,del0⟩:=cl
   dsimp only at em q3 q5 q6
   subst em q3
   have hg:=hK _ _ ho
   have esl:sl=#[u0,u1,u2,u3,some (.builtin nn),u5]:=by
    apply Array.toList_inj.mp
    rw[es]
   subst esl
   exact⟨tl,ns0,nm0,qn0,bs0,hd0,sn0,sub0,ab0,col0,d1,u0,u1,u2,u3,u5,_,hg,.of_isNs (PySem.W.isNs_of_in hK q5),PySem.W.nsMap_none_of_in hK q5 q6,PySem.W.tail_of_in hK q4⟩
  ·cases q
 ·cases q
section
variable{G:Gx}{X:Cx}{C:Cf}{w w' w₀:Wo}{H H' H₀:Hp}{σ σ':Fr}{σV σV':St}{c:Nat}{x:Str}{np cpos pos mp:Pos}{m:Str}{j:Nat}
theorem akc{bB:List Value}{B nid iid:String}(hc:X.calm=true)(hg:Gl X x)(hm:X.mg x=some (.ref (G.cA c)))(hq:PySem.W.excIn X.K (G.cA c) bB nid=true)(FB:ExcBaseFacts B nid iid bB)(hdb:(x==("__debug__":Str))=false)
  (he:starEach [.Constant (.str m) j mp] X.env=[(false,eval (.Constant (.str m) j mp) X.env)]):PS X (.Raise (some (.Call (.Name x np) [.Constant (.str m) j mp] [] cpos)) none pos) (tS G X C (.raise c)):=by
 rintro pins s σV H D I ⟨w₀,H₀,w,σ,st,g,h⟩
 have hx:∀u sh,aaO G X pins σV H c u sh→X.xe u sh:=fun u sh T=>h w H σV pins u sh g LeS.refl T
 obtain⟨tl,N,nm,qn,bs,hdct,sn,sub,ab,col,dd,k0,k1,k2,k3,k5,mN,hC,hN,hni,T⟩:=amQ (I.ok.mod.kin) hq
 refine wpAny_Raise_call_subT (C:=G.cA c) (nm:=nm) (q:=qn) (N:=N) (bs:=bs) (bm:=tl) (hdct:=hdct) (sn:=sn) (sub:=sub) (ab:=ab) (col:=col) (dd:=dd) (k0:=k0) (k1:=k1) (k2:=k2) (k3:=k3) (k5:=k5)
  FB (mN:=mN) (T.hasType FB.hasBase) (I.ok.hd hc) (by rw[he];rfl) hni (abG I hg hm ⟨rfl,?_⟩ hdb)
 have ha:PA X [.Constant (.str m) j mp] (aoZ (tC (.str m)) avi):=aa2 alJ aaZ (by rw[he];rfl)
 have z:=ha cpos pins s σV H (fun vs H1=>vs=[.str m]∧H1=H) I ⟨rfl,rfl⟩
 rw[he]at z ⊢
 refine PySem.Calls.evalArgs_plain (wpAny_mono z (fun vs s₂ h₂=>?_) fun _ _ y=>y)
 obtain⟨ws,H1,I1,rv,rfl,rfl⟩:=h₂
 have hl:=rv.length
 refine⟨rfl,?_,I1.bk _ _ hC,hN.keeps I1.bk,T.keeps I1.bk,fun h' e hmd=>hx _ _ (af6 I1 hmd)⟩
 show vs.length≤sizeLine
 rw[←hl]
 show 1≤sizeLine
 decide
end
section
variable{M:Model}{A:Around}{E:Value→Shared→Prop}{s:Shared}{env:Env}
theorem aiw{body orelse:Sem Flow}{h₀:ExceptHandler}{hs:List ExceptHandler}{Q:Flow→Shared→Prop}
  (h:wpAny M A body (fun f s₁=>match f with | .next=>wpAny M A orelse Q E s₁|f=>Q f s₁)
   (fun e s₁=>wpAny M A (leaving env e) (fun _ s₃=>wpAny M A (handleBy e env (h₀::hs)) Q E s₃) E s₁) s):
  wpAny M A (tryStmt false body (h₀::hs) orelse [] env) Q E s:=by
 have e0:tryStmt false body (h₀::hs) orelse [] env=(body.attempt >>= fun r=>match r with
   | .ok .next=>orelse
   | .ok f=>pure f
   | .error e=>leaving env e >>= fun _=>handleBy e env (h₀::hs)):=by
  unfold tryStmt
  simp only[List.isEmpty_nil,if_true,List.isEmpty_cons,Bool.false_and,Bool.false_eq_true,if_false,bind_pure]
  congr 1
  funext r
  cases r with
  | error e=>unfold leaving;simp only[bind_assoc,pure_bind]
  | ok f=>cases f<;>rfl
 rw[e0]
 refine wpAny_bind (wpAny_attempt (wpAny_mono h (fun f s₁ h₁=>?_) fun e s₁ h₁=>?_))
 ·cases f<;>first|exact h₁|exact wpAny_pure h₁
 ·exact wpAny_bind h₁
end
def Wo.addL(w:Wo)(a:Addr):Wo:={ n:=w.n+1,io:=fun k=>if k=w.n then a else w.io k,Z:=w.Z }
theorem aaR{w:Wo}{a:Addr}{l:Nat}(h:l<w.n):(w.addL a).io l=w.io l:=by
 show(if l=w.n then a else w.io l)=w.io l
 rw[if_neg (Nat.ne_of_lt h)]
theorem abp{w:Wo}{a:Addr}:(w.addL a).io w.n=a:=by
 show(if w.n=w.n then a else w.io w.n)=a
 rw[if_pos rfl]
section
variable{G:Gx}{X:Cx}{C:Cf}{w w' w₀:Wo}{H H' H₀:Hp}{σ σ':Fr}{σV σV':St}{s:Sto}{a:Addr}{l:Nat}
theorem afa:Kp w (w.addL a) H H:=⟨Nat.le_succ _,fun l h=>aaR h,fun _ z=>z,fun _ _ _ r=>r,fun _ _ e=>e,fun _ _ e=>e⟩
theorem abc.addL{b:Addr}:∀{c:Cell},abc G w H b c→abc G (w.addL a) H b c
 | .lst ts,⟨vs,h,r⟩=>⟨vs,h,aak.kp afa ts vs r⟩
 | .ins c fs,⟨dx,kvs,h,z,k⟩=>⟨dx,kvs,h,z,fun i x t h1 h2=>let ⟨v,q1,q2⟩:=k i x t h1 h2;⟨v,q1,Rep.kp afa t v q2⟩⟩
 | .tbl k p q,h=>h
theorem StoOk.addL{c:Cell}(S:StoOk G w H s)(hc:abc G (w.addL a) H a c)(nz:¬w.Z a)(nl:IP.notLoc w a):StoOk G (w.addL a) H (s++[c])where
 len:=by rw[List.length_append,S.len];rfl
 inj:=fun i j hi hj e=>by
  have hi:i<w.n+1:=hi
  have hj:j<w.n+1:=hj
  by_cases h1:i<w.n
  ·by_cases h2:j<w.n
   ·rw[aaR h1,aaR h2]at e
    exact S.inj i j h1 h2 e
   ·have:j=w.n:=by omega
    subst this
    rw[aaR h1,abp]at e
    exact absurd e.symm (nl i h1)
  ·have:i=w.n:=by omega
   subst this
   by_cases h2:j<w.n
   ·rw[aaR h2,abp]at e
    exact absurd e (nl j h2)
   ·omega
 nz:=fun i hi z=>by
  have hi:i<w.n+1:=hi
  by_cases h1:i<w.n
  ·rw[aaR h1]at z
   exact S.nz i h1 z
  ·have:i=w.n:=by omega
   subst this
   rw[abp]at z
   exact nz z
 cell:=fun i d e=>by
  by_cases h1:i<w.n
  ·rw[List.getElem?_append_left (by rw[S.len];exact h1)]at e
   rw[aaR h1]
   exact abc.addL (S.cell i d e)
  ·have hl:=(List.getElem?_eq_some_iff.mp e).1
   rw[List.length_append,S.len]at hl
   have:i=w.n:=by simp at hl;omega
   subst this
   rw[List.getElem?_append_right (by rw[S.len];exact Nat.le_refl _),S.len,Nat.sub_self]at e
   cases e
   rw[abp]
   exact hc
 zt:=S.zt
theorem Le.addL(L:Le w w' H H')(ha:H a=none):Le w (w'.addL a) H H' where
 n:=Nat.le_trans L.n (Nat.le_succ _)
 io:=fun i h=>(aaR (Nat.lt_of_lt_of_le h L.n)).trans (L.io i h)
 Z:=L.Z
 keep:=L.keep
 newL:=fun i h1 h2=>by
  have h2:i<w'.n+1:=h2
  by_cases h:i<w'.n
  ·rw[aaR h]
   exact L.newL i h1 h
  ·have:i=w'.n:=by omega
   subst this
   rw[abp]
   exact ha
 newZ:=L.newZ
 some_:=L.some_
mutual
theorem Rep.updC{o o':HO}(ha:H a=some o)(hz:¬w.Z a)(ht:∀vs,o≠.tup vs)(hx:∀φ,o≠.ext φ):∀(t:T) (v:V),Rep G w H t v→Rep G w (L2.upd H a o') t v
 | .non,v,h=>h
 | .bl b,v,h=>h
 | .int i,v,h=>h
 | .str x,v,h=>h
 | .tup ts,v,⟨p,vs,e,h,r⟩=>⟨p,vs,e,by rw[aah (fun q=>by rw[q,ha]at h;exact ht vs (Option.some.inj h))];exact h,aak.updC ha hz ht hx ts vs r⟩
 | .lst ts,v,⟨p,vs,e,z,h,r⟩=>by
  have ne:p≠a:=fun q=>hz (q▸z)
  refine⟨p,vs,e,z,?_,aak.updC ha hz ht hx ts vs r⟩
  rcases h with h|⟨o,h⟩
  ·exact .inl (by rw[aah ne];exact h)
  ·exact .inr ⟨o,by rw[aah ne];exact h⟩
 | .loc l,v,h=>h
 | .exc c,v,⟨p,e,h⟩=>⟨p,e,by rw[aah (fun q=>by rw[q,ha]at h;exact hx _ (Option.some.inj h))];exact h⟩
theorem aak.updC{o o':HO}(ha:H a=some o)(hz:¬w.Z a)(ht:∀vs,o≠.tup vs)(hx:∀φ,o≠.ext φ):∀(ts:List T) (vs:List V),aak G w H ts vs→aak G w (L2.upd H a o') ts vs
 | [],vs,h=>h
 | t::ts,vs,⟨v,r,e,h,q⟩=>⟨v,r,e,Rep.updC ha hz ht hx t v h,aak.updC ha hz ht hx ts r q⟩
end
theorem StoOk.setC{o o':HO}{c:Cell}(S:StoOk G w H s)(hl:l<w.n)(ha:H (w.io l)=some o)(ht:∀vs,o≠.tup vs)(hx:∀φ,o≠.ext φ)(hc:abc G w (L2.upd H (w.io l) o') (w.io l) c):StoOk G w (L2.upd H (w.io l) o') (s.set l c)where
 len:=by rw[List.length_set];exact S.len
 inj:=S.inj
 nz:=S.nz
 cell:=fun i d e=>by
  by_cases hi:l=i
  ·subst hi
   rw[List.getElem?_set_self (by rw[S.len];exact hl)]at e
   cases e
   exact hc
  ·rw[List.getElem?_set_ne hi]at e
   have hin:i<w.n:=by rw[←S.len];exact(List.getElem?_eq_some_iff.mp e).1
   have ne:w.io i≠w.io l:=fun q=>hi (S.inj i l hin hl q).symm
   have nz:=S.nz l hl
   have q:=S.cell i d e
   cases d with
   | lst ts=>obtain⟨vs,q1,q2⟩:=q;exact⟨vs,by rw[aah ne];exact q1,aak.updC ha nz ht hx ts vs q2⟩
   | ins c fs=>obtain⟨dx,kvs,q1,q2,q3⟩:=q;exact⟨dx,kvs,by rw[aah ne];exact q1,q2,fun i x t h1 h2=>let ⟨v,z1,z2⟩:=q3 i x t h1 h2;⟨v,z1,Rep.updC ha nz ht hx t v z2⟩⟩
   | tbl k p q'=>obtain⟨q0,ps,q1,q2,q3⟩:=q;exact⟨q0,ps,by rw[aah ne];exact q1,q2,fun cv hcv=>let ⟨c,e1,e2⟩:=q3 cv hcv;⟨c,e1,by rw[aah (akn e2 ha (fun z=>hx _ z.symm))];exact e2⟩⟩
 zt:=fun p z=>by
  obtain⟨vs,r⟩:=S.zt p z
  have ne:p≠w.io l:=fun q=>S.nz l hl (q▸z)
  rcases r with r|⟨o,r⟩
  ·exact⟨vs,.inl (by rw[aah ne];exact r)⟩
  ·exact⟨vs,.inr ⟨o,by rw[aah ne];exact r⟩⟩
theorem Le.setC{o':HO}(L:Le w w' H H')(hl:l<w'.n)(hs:H' (w'.io l)≠none):Le w w' H (L2.upd H' (w'.io l) o')where
 n:=L.n
 io:=L.io
 Z:=L.Z
 keep:=fun p q e nl=>by
  have ne:p≠w'.io l:=fun z=>by
   by_cases h:l<w.n
   ·exact nl l h (z.trans (L.io l h))
   ·have:=L.newL l (Nat.le_of_not_lt h) hl
    rw[←z,e]at this
    cases this
  rw[aah ne]
  exact L.keep p q e nl
 newL:=L.newL
 newZ:=L.newZ
 some_:=fun p z=>by
  by_cases e:p=w'.io l
  ·rw[e,aaq];intro q;cases q
  ·rw[aah e];exact L.some_ p z
theorem Good.setC{o o':HO}{c:Cell}(g:Good G w₀ H₀ w H σ s σV)(hl:l<w.n)(ha:H (w.io l)=some o)(ht:∀vs,o≠.tup vs)(hx:∀φ,o≠.ext φ)(hc:abc G w (L2.upd H (w.io l) o') (w.io l) c):
  Good G w₀ H₀ w (L2.upd H (w.io l) o') σ (s.set l c) σV∧LeS w w H (L2.upd H (w.io l) o') σ σ σV σV:=by
 have nz:=g.sto.nz l hl
 have hn:H (w.io l)≠none:=by rw[ha];intro z;cases z
 refine⟨⟨g.sto.setC hl ha ht hx hc,⟨g.fr.len,fun i t e=>?_,fun i b ts e eb=>?_,g.fr.apart,fun i ts e=>?_⟩,g.ent.setC hl hn⟩,LeS.of ((Le.refl w H).setC hl hn)⟩
 ·obtain⟨v,h1,h2⟩:=g.fr.val i t e
  exact⟨v,h1,Rep.updC ha nz ht hx t v h2⟩
 ·obtain⟨p,vs,h1,h2,h3,h4,h5,h6⟩:=g.fr.own i b ts e eb
  exact⟨p,vs,h1,by rw[aah (h6 l hl)];exact h2,aak.updC ha nz ht hx ts vs h3,h4,h5,h6⟩
 ·obtain⟨p,vs,h1,h2,h3,h4,h6⟩:=g.fr.bor i ts e
  exact⟨p,vs,h1,by rw[aah (h6 l hl)];exact h2,aak.updC ha nz ht hx ts vs h3,h4,h6⟩
theorem afz{r:R}{v:V}{p:Nat×List T}(S:StoOk G w H s)(R1:aaM G w H r v)(h:r.locL s=some p):r=.val (.loc p.1)∧v=.ref (w.io p.1)∧p.1<w.n∧∃vs,H (w.io p.1)=some (.lst vs)∧aak G w H p.2 vs:=by
 unfold R.locL at h
 split at h
 ·rename_i l
  split at h
  ·rename_i ts q
   cases h
   obtain⟨hl,e⟩:=R1
   obtain⟨vs,h1,h2⟩:=S.cell l _ q
   exact⟨rfl,e,hl,vs,h1,h2⟩
  ·cases h
 ·cases h
theorem afk{r:R}{v:V}{c:Nat}{p:Nat×List (Option T)}(S:StoOk G w H s)(R1:aaM G w H r v)(h:r.locI s c=some p):r=.val (.loc p.1)∧v=.ref (w.io p.1)∧p.1<w.n∧s[p.1]?=some (.ins c p.2)∧abc G w H (w.io p.1) (.ins c p.2):=by
 unfold R.locI at h
 split at h
 ·rename_i l
  split at h
  ·rename_i d fs q
   split at h
   ·rename_i hd
    subst hd
    cases h
    obtain⟨hl,e⟩:=R1
    exact⟨rfl,e,hl,q,S.cell l _ q⟩
   ·cases h
  ·cases h
 ·cases h
end
section
variable{G:Gx}{X:Cx}{C:Cf}{w w' w₀:Wo}{H H' H₀:Hp}{σ σ':Fr}{σV σV':St}{a b e j o:Expr}{a' b' e' j':IP.E}{pos pos' p p1 p2 apos:Pos}{Q:VK}{i c f:Nat}{x m:Str}
variable{k fi:Nat}{fa:Addr}{fd:FuncData}{ps:List Str}{e₀:Expr}{es:List Expr}{es':List IP.E}{rs:List R}{vs dvs:List V}{ds:List Value}{dts:List T}
theorem aoG(hc:Cls X.K (G.iA c))(hn:(G.nm c)[f]?=some x)(ha':abb X.K (G.iA c) x)(ha:PE X a (tV G X C a'))(hb:attributeBase a x X.env (eval a X.env)=eval a X.env):PE X (.Attribute a x pos) (tV G X C (.fld a' c f)):=by
 refine PE.imp (aq2 ha hb) ?_
 rintro σV H Q ⟨w₀,H₀,w,σ,s,g,h⟩
 have h:aa0 G X σV w H ((ev C a' .v σ s).bind fun x s1=>.of ((ahd s1 x c f).map .val) s1) Q:=h
 refine⟨w₀,H₀,w,σ,s,g,(aa0.bind h).imp ?_⟩
 rintro v H1 ⟨w1,r,s1,L1,S1,R1,h1⟩
 obtain⟨r',e,q⟩:=aa0.of h1
 obtain⟨t,ht,rfl⟩:=map_some e
 unfold ahd at ht
 split at ht
 ·rename_i l
  split at ht
  ·rename_i d fs hq
   split at ht
   ·rename_i hd
    subst hd
    obtain⟨hl,rfl⟩:=R1
    obtain⟨dx,kvs,z1,z2,z3⟩:=S1.cell l _ hq
    have hf:fs[f]?=some (some t):=by
     cases q2:fs[f]? with
     | none=>rw[q2]at ht;cases ht
     | some u=>rw[q2]at ht;exact congrArg some ht
    obtain⟨u,y1,y2⟩:=z3 f x t hn hf
    exact⟨w1.io l,_,dx,kvs,u,rfl,z1,hc,ha',y1,q w1 H1 u (Le.refl _ _) S1 y2⟩
   ·cases ht
  ·cases ht
 ·cases ht
theorem ai7(ha:PE X a (tO G X C a')):PE X a (tV G X C (.cell a')):=by
 refine PE.imp ha ?_
 rintro σV H Q ⟨w₀,H₀,w,σ,s,g,h⟩
 have h:aa0 G X σV w H ((ev C a' .v σ s).bind fun x s1=>onL x fun ts=>.ok (.val (.loc s1.length)) (s1++[.lst ts])) Q:=h
 refine⟨w₀,H₀,w,σ,s,g,?_⟩
 cases he:ev C a' .v σ s with
 | stuck=>rw[he]at h;exact h
 | exc c s1=>rw[he]at h;exact h
 | ok r s1=>
  rw[he]at h
  match r,h with
  | .val (.lst ts),h=>
   intro w1 H1 p vs L S ha r hn nz nl
   refine h (w1.addL p) H1 (.ref p) (L.addL hn) (S.addL ⟨vs,ha,aak.kp afa ts vs r⟩ nz nl) ⟨?_,?_⟩
   ·rw[S.len];exact Nat.lt_succ_self _
   ·rw[S.len,abp]
  | .val .non,h=>exact h.elim
  | .val (.bl _),h=>exact h.elim
  | .val (.int _),h=>exact h.elim
  | .val (.str _),h=>exact h.elim
  | .val (.tup _),h=>exact h.elim
  | .val (.loc _),h=>exact h.elim
  | .val (.exc _),h=>exact h.elim
  | .bor _,h=>exact h.elim
theorem ae8{kvs:List (Str×V)}{nm:List Str}(k:arm nm kvs)(hm:m∉nm):kvs.lookup m=none:=by
 cases q:kvs.lookup m with
 | none=>rfl
 | some v=>exact absurd (k.2 m (List.mem_map.mpr ⟨(m,v),acm q,rfl⟩)) hm
theorem aoa{α:Type}{o:Option α}{f:α→Res R}(h:aa0 G X σV w H (onO o f) Q):∃a,o=some a∧aa0 G X σV w H (f a) Q:=by
 cases o with
 | none=>exact h.elim
 | some a=>exact⟨a,rfl,h⟩
theorem acS{r:R}{v:V}(h:aaM G w H r v)(h2:aaP G w H rs vs):aaP G w H (r::rs) (v::vs):=⟨v,vs,rfl,h,h2⟩
theorem akk{pl:Sem Bool}(hf:C.fr fi=false)(hcl:Cls X.K (G.iA c))(hmt:Meth X.K (G.iA c) m fa)(hnm:m∉G.nm c)(F:FnOk X.prog X.w X.K X.mg X.base (CXE G X.prog X.w X.base) k fa fd ps (spG G C.cf C.fr fi))(hr:Room k X.A)(hb:Binds X.K fd ps ds)(hd:Vals dvs ds)(hdt:dts.mapM cstV=some dvs)
  (ho:PE X o (tV G X C a')) (ha:PA X (e₀::es) (tR G X C es')) (hst:starEach (e₀::es) X.env=(false,eval e₀ X.env)::starEach es X.env) (hpl:(backTo pos (starEach es X.env)).any (·.1)=false)
  (ht:eval (.Call (.Attribute o m apos) (e₀::es) [] pos) X.env=(do
   let ov ←eval o X.env
   standAt apos.atName
   let (f,first) ←holding [ov] (getMethod ov m pl)
   callWith pos f first (backTo pos (starEach (e₀::es) X.env)) (backToKw pos (keywordEach [] X.env)))):PE X (.Call (.Attribute o m apos) (e₀::es) [] pos) (tV G X C (.meth a' c fi es' dts)):=by
 rintro pins s σV H Q I ⟨w₀,H₀,w,σ,st,g,h⟩
 have h:aa0 G X σV w H ((ev C a' .v σ st).bind fun x s1=>onO (x.locI s1 c) fun _=>(evr C es' σ s1).bind fun rs s2=>C.cf fi (x::rs++dts.map .val) s2) Q:=h
 refine PySem.W.methodCall_KW (pl:=pl) (thn (ho pins s σV H _ I ⟨w₀,H₀,w,σ,st,g,aa0.bind h⟩) fun u s1 ⟨xv,H1,I1,rx,q⟩=>?_) ht
 obtain⟨w1,r,st1,L1,S1,R1,h1⟩:=q
 obtain⟨pp,hp,h1⟩:=aoa h1
 obtain⟨er,ev',hl,hs,dx,kvs,z1,z2,z3⟩:=afk S1 R1 hp
 subst ev'
 cases rx
 refine adq I1 z1 hcl hmt (ae8 z2 hnm) ?_
 refine PySem.W.callWith_K (first:=[.ref (w1.io pp.1)]) (h₀:=X.base) I.ok.mod.kin hmt.kp (thn (ha pos pins s1 σV H1 _ I1 ⟨w₀,H₀,w1,σ,st1,g.step L1 S1,ack h1⟩) fun us s2 ⟨vs,H2,I2,rv,q2⟩=>⟨I2.kIn,?_⟩) hst hpl
 obtain⟨w2,rs,st2,L2,S2,R2,h2⟩:=q2
 exact acB (us:=.ref (w1.io pp.1)::us) (vs:=.ref (w1.io pp.1)::vs) F hr hb hd I2 (.cons rfl rv) (agm hf L2 S2 (acS (R1.mono L2 S1) (aa9 R2 (abj hdt))) h2) (abh I2)
theorem aiQ{pl:Sem Bool}(hf:C.fr fi=false)(hcl:Cls X.K (G.iA c))(hmt:Meth X.K (G.iA c) m fa)(hnm:m∉G.nm c)(F:FnOk X.prog X.w X.K X.mg X.base (CXE G X.prog X.w X.base) k fa fd ps (spG G C.cf C.fr fi))(hr:Room k X.A)(hb:Binds X.K fd ps ds)(hd:Vals dvs ds)(hdt:dts.mapM cstV=some dvs)
  (ho:PE X o (tV G X C a'))
  (ht:eval (.Call (.Attribute o m apos) [] [] pos) X.env=(do
   let ov ←eval o X.env
   standAt apos.atName
   let (f,first) ←holding [ov] (getMethod ov m pl)
   callWith pos f first (backTo pos (starEach [] X.env)) (backToKw pos (keywordEach [] X.env)))):PE X (.Call (.Attribute o m apos) [] [] pos) (tV G X C (.meth a' c fi [] dts)):=by
 rintro pins s σV H Q I ⟨w₀,H₀,w,σ,st,g,h⟩
 have h:aa0 G X σV w H ((ev C a' .v σ st).bind fun x s1=>onO (x.locI s1 c) fun _=>C.cf fi (x::([]++dts.map .val)) s1) Q:=h
 refine PySem.W.methodCall_KW (pl:=pl) (thn (ho pins s σV H _ I ⟨w₀,H₀,w,σ,st,g,aa0.bind h⟩) fun u s1 ⟨xv,H1,I1,rx,q⟩=>?_) ht
 obtain⟨w1,r,st1,L1,S1,R1,h1⟩:=q
 obtain⟨pp,hp,h1⟩:=aoa h1
 obtain⟨er,ev',hl,hs,dx,kvs,z1,z2,z3⟩:=afk S1 R1 hp
 subst ev'
 cases rx
 refine adq I1 z1 hcl hmt (ae8 z2 hnm) ?_
 exact PySem.W.callWith_K0 (first:=[.ref (w1.io pp.1)]) I1.kIn hmt.kp (acB (us:=[.ref (w1.io pp.1)]) (vs:=[.ref (w1.io pp.1)]) F hr hb hd I1 (.cons rfl .nil) (agm hf (Le.refl _ _) S1 (acS R1 (aa9 (rs:=[]) (vs:=[]) rfl (abj hdt))) h1) (abh I1))
theorem an4{Ca:Addr}{n:Nat}{s1:Sto}{xx dx:Addr}(S:StoOk G w H s1)(hx:H xx=none)(hdx:H dx=none)(hne:dx≠xx):
  Le w (w.addL xx) H (upd (upd H dx (.own xx)) xx (.ins (G.iA c) dx []))∧StoOk G (w.addL xx) (upd (upd H dx (.own xx)) xx (.ins (G.iA c) dx [])) (s1++[.ins c (List.replicate n none)]):=by
 have L1:Le w w H (upd H dx (.own xx)):=Le.new hdx _
 have hx1:upd H dx (.own xx) xx=none:=by rw[aah hne.symm];exact hx
 have L2:Le w w H (upd (upd H dx (.own xx)) xx (.ins (G.iA c) dx [])):=L1.trans (Le.new hx1 _)
 have S1:=(S.new hdx (.own xx)).new hx1 (.ins (G.iA c) dx [])
 refine⟨L2.addL hx,S1.addL ⟨dx,[],aaq,⟨List.nodup_nil,fun y hy=>by simp at hy⟩,fun i y t h1 h2=>?_⟩ (S.fresh hx).1 (S.fresh hx).2⟩
 rw[List.getElem?_replicate]at h2
 split at h2<;>cases h2
theorem aeo{CX:CXT}{sp:Sp}{E:XK}{Ca:Addr}{pins:List (Addr×Obj)}{σV:St}{H:Hp}{s:Shared}{us:List Value}(M:Mk X.K Ca fa)(F:FnOk X.prog X.w X.K X.mg X.base CX k fa fd ps sp)(hr:Room (k+1) X.A)(hb:Binds X.K fd ps ds)(hd:Vals dvs ds)
  (I:Inv X pins σV H s) (r:Vals vs us) (h:∀x dx,H x=none→H dx=none→dx≠x→sp (.ref x::(vs++dvs)) (upd (upd H dx (.own x)) x (.ins Ca dx [])) (fun v H2=>v=.non∧Q (.ref x) H2) E)
  (hx:∀H2 s2 e s',Inv X pins σV H2 s2→CX X.stack H2 s2 E e s'→X.xe e s'):wpAny (model X.prog X.w) X.A (call (.ref Ca) us) (EP X pins σV Q) X.xe s:=by
 have hq:=h (s.heap.objs.size+1) s.heap.objs.size (I.hok.fresh (Nat.le_succ _)) (I.hok.fresh (Nat.le_refl _)) (Nat.ne_of_lt (Nat.lt_succ_self _))
 have I2:=Inv.made (C:=Ca) I
 have r2:Vals (V.ref (s.heap.objs.size+1)::(vs++dvs)) (Value.ref (s.heap.objs.size+1)::(us++ds)):=.cons rfl (r.append hd)
 have hl:(Value.ref (s.heap.objs.size+1)::us++ds).length=ps.length:=by
  have e:=r2.length
  rw[F.len _ _ _ _ hq]at e
  exact e.symm
 refine wpAny_call (akq (f:=fa) I.kIn M.makes M.init (beq_iff_eq.mp M.fn) (codeAny_mono (F.run _ X.stack _ _ ⟨Value.ref (s.heap.objs.size+1)::us,[]⟩ (Value.ref (s.heap.objs.size+1)::(us++ds)) _ _ E (hr.make Ca us [])
  (I2.env0.make Ca us []) (hb _ (Value.ref (s.heap.objs.size+1)::us) I2.kIn hl) r2 hq) fun r s' hq'=>?_))
 cases r with
 | error e=>exact hx _ _ e s' I2 hq'
 | ok fl=>
  cases fl with
  | ret u=>
   obtain⟨v,H',I3,rv,ev,q3⟩:=I2.after hq'
   subst ev
   exact⟨rv,⟨V.ref (s.heap.objs.size+1),H',I3,rfl,q3⟩⟩
  | next=>exact False.elim hq'
  | brk=>exact False.elim hq'
  | cont=>exact False.elim hq'
theorem ald{n:Nat}{st:Sto}{σV:St}(hf:C.fr fi=false)(hdt:dts.mapM cstV=some dvs)(S:StoOk G w H st)(R1:aaP G w H rs vs)(h:aa0 G X σV w H ((C.cf fi (.val (.loc st.length)::(rs++dts.map .val)) (st++[.ins c (List.replicate n none)])).bind fun r s2=>onN r (.ok (.val (.loc st.length)) s2)) Q)(x dx:Addr)(hx:H x=none)(hdx:H dx=none)(hne:dx≠x):
  spG G C.cf C.fr fi (.ref x::(vs++dvs)) (upd (upd H dx (.own x)) x (.ins (G.iA c) dx [])) (fun v H2=>v=.non∧Q (.ref x) H2) (EX G X σV):=by
 obtain⟨LL,SS⟩:=an4 (c:=c) (Ca:=G.iA c) (n:=n) S hx hdx hne
 have hloc:aaM G (w.addL x) (upd (upd H dx (.own x)) x (.ins (G.iA c) dx [])) (.val (.loc st.length)) (.ref x):=by
  refine⟨?_,?_⟩
  ·rw[S.len];exact Nat.lt_succ_self _
  ·rw[S.len,abp]
 refine agm hf (Le.refl _ _) SS (acS hloc (aa9 (R1.mono LL S) (abj hdt))) ((aa0.bind (aa0.mono LL h)).imp ?_)
 rintro v H1 ⟨w1,r,s1,L1,S1,R1,h1⟩
 match r,h1 with
 | .val .non,h1=>exact⟨R1,h1 w1 H1 (.ref x) (Le.refl _ _) S1 (hloc.mono L1 SS)⟩
 | .val (.bl _),h1=>exact h1.elim
 | .val (.int _),h1=>exact h1.elim
 | .val (.str _),h1=>exact h1.elim
 | .val (.tup _),h1=>exact h1.elim
 | .val (.lst _),h1=>exact h1.elim
 | .val (.loc _),h1=>exact h1.elim
 | .val (.exc _),h1=>exact h1.elim
 | .bor _,h1=>exact h1.elim
theorem ajN{n:Nat}(hf:C.fr fi=false)(M:Mk X.K (G.iA c) fa)(F:FnOk X.prog X.w X.K X.mg X.base (CXE G X.prog X.w X.base) k fa fd ps (spG G C.cf C.fr fi))(hr:Room (k+1) X.A)(hg:Gl X x)(hm:X.mg x=some (.ref (G.iA c)))(hb:Binds X.K fd ps ds)(hd:Vals dvs ds)(hdt:dts.mapM cstV=some dvs)
  (hdb:(x==("__debug__":Str))=false):PE X (.Call (.Name x p) [] [] pos) (tV G X C (.new c fi n [] dts)):=by
 rintro pins s σV H Q I ⟨w₀,H₀,w,σ,st,g,h⟩
 refine wpAny_Call_Name_kw (abG I hg hm ?_ hdb)
 exact PySem.W.callWith_K0 I.kIn M.kp (aeo (us:=[]) (vs:=[]) M F hr hb hd I .nil (ald (rs:=[]) (vs:=[]) hf hdt g.sto rfl h) fun H2 s2 e s' I2 q=>abh I2 e s' q)
theorem amh{n:Nat}(hf:C.fr fi=false)(M:Mk X.K (G.iA c) fa)(F:FnOk X.prog X.w X.K X.mg X.base (CXE G X.prog X.w X.base) k fa fd ps (spG G C.cf C.fr fi))(hr:Room (k+1) X.A)(hg:Gl X x)(hm:X.mg x=some (.ref (G.iA c)))(hb:Binds X.K fd ps ds)(hd:Vals dvs ds)(hdt:dts.mapM cstV=some dvs)
  (ha:PA X (e₀::es) (tR G X C es')) (hdb:(x==("__debug__":Str))=false) (he:starEach (e₀::es) X.env=(false,eval e₀ X.env)::starEach es X.env) (hpl:(backTo pos (starEach es X.env)).any (·.1)=false):PE X (.Call (.Name x p) (e₀::es) [] pos) (tV G X C (.new c fi n es' dts)):=by
 rintro pins s σV H Q I ⟨w₀,H₀,w,σ,st,g,h⟩
 have h:aa0 G X σV w H ((evr C es' σ st).bind fun rs s1=>(C.cf fi (.val (.loc s1.length)::(rs++dts.map .val)) (s1++[.ins c (List.replicate n none)])).bind fun r s2=>onN r (.ok (.val (.loc s1.length)) s2)) Q:=h
 refine wpAny_Call_Name_kw (abG I hg hm ?_ hdb)
 refine PySem.W.callWith_K (h₀:=X.base) I.ok.mod.kin M.kp (thn (ha pos pins s σV H _ I ⟨w₀,H₀,w,σ,st,g,ack h⟩) fun us s1 ⟨vs,H1,I1,r,q⟩=>⟨I1.kIn,?_⟩) he hpl
 obtain⟨w1,rs,st1,L1,S1,R1,h1⟩:=q
 exact aeo M F hr hb hd I1 r (ald hf hdt S1 R1 (aa0.mono L1 h1)) fun H2 s2 e s' I2 q=>abh I2 e s' q
theorem amb(he:PE X e (tV G X C e'))(ha:PE X a (tV G X C a'))(hj:PE X j (tV G X C j'))
  (hs:swapsWithSole [.Subscript a j p2] e pos.line X.env=pure false) (hw:swappedStores [.Subscript a j p2] e X.env=pure none) (h1:(assignEach [.Subscript a j p2] X.env).map (·.2)=[assign (.Subscript a j p2) X.env])
  (hag:∀v,assign (.Subscript a j p2) X.env v=(do
   let ov ←holding [v] (eval a X.env)
   let iv ←holding [v,ov] (eval j X.env)
   standAt p2
   holding [v,ov,iv] (setItem ov iv v)
   release [v,ov,iv] [])):PS X (.Assign [.Subscript a j p2] e pos) (tS G X C (.putL a' j' e')):=by
 refine PS.imp (alB he (apz ha hj aj4 hag) hs hw h1) ?_
 rintro D σV H ⟨w₀,H₀,w,σ,s,g,h⟩
 refine⟨w₀,H₀,w,σ,s,g,(abW g h).imp ?_⟩
 rintro v H1 ⟨w1,r,s1,L1,S1,R1,g1,q1⟩
 obtain⟨t,ht,q1⟩:=abf q1
 cases adj ht
 refine⟨w₀,H₀,w1,σ,s1,g1,(abW g1 q1).imp ?_⟩
 rintro o H2 ⟨w2,r2,s2,L2,S2,R2,g2,q2⟩
 refine⟨w₀,H₀,w2,σ,s2,g2,(abW g2 q2).imp ?_⟩
 rintro y H3 ⟨w3,r3,s3,L3,S3,R3,g3,q3⟩
 obtain⟨pp,hp,q3⟩:=abf q3
 obtain⟨kk,hk,q3⟩:=abf q3
 obtain⟨n,hn,q3⟩:=abf q3
 obtain⟨er,ev',hl,xs,z1,z2⟩:=afz S3 (R2.mono L3 S2) hp
 subst ev'
 cases R3.int hk
 have rt:Rep G w3 H3 t v:=Rep.mono L3 S2 t v (Rep.mono L2 S1 t v R1)
 refine⟨w3.io pp.1,xs,kk,n,rfl,rfl,z1,by rw[←z2.length];exact hn,?_⟩
 obtain⟨g4,l4⟩:=g3.setC (o':=.lst (xs.set n v)) (c:=.lst (pp.2.set n t)) hl z1 (by intro _ z;cases z) (by intro _ z;cases z) ⟨_,aaq,aak.updC z1 (S3.nz _ hl) (by intro _ z;cases z) (by intro _ z;cases z) _ _ (z2.set rt n)⟩
 exact q3 w3 _ σV g4 l4
theorem amZ{cpos:Pos}(ha:PE X a (tV G X C a'))(he:PE X e (tV G X C e'))(hst:starEach [e] X.env=[(false,eval e X.env)])
  (hline:(p2.endLine==cpos.line)=true) (hbase:attributeBase a "append" X.env (eval a X.env)=eval a X.env)
  (hfew:((backTo cpos (starEach [e] X.env)).all (fun x=>!x.1)&&(backToKw cpos (keywordEach [] X.env)).all (fun x=>x.1.isSome)&&decide ([e].length+([]:List Keyword).length+(if([]:List Keyword).isEmpty then 0 else 1)<30))=true)
  (hs:swapsWith (.Call (.Attribute a "append" p2) [e] [] cpos) none pos.line X.env=pure false):
  PS X (.Expr (.Call (.Attribute a "append" p2) [e] [] cpos) pos) (tS G X C (.appL a' e')):=by
 refine PS.imp (afe (apT PySem.F.plainAttrs_list PySem.F.slot_list_append PySem.F.type_list_append acQ ha (aa2 he aaZ hst) hbase hfew hline hst rfl) hs) ?_
 rintro D σV H ⟨w₀,H₀,w,σ,s,g,h⟩
 refine⟨w₀,H₀,w,σ,s,g,(abW g h).imp ?_⟩
 rintro o H1 ⟨w1,r,s1,L1,S1,R1,g1,q1⟩
 obtain⟨p0,hp0,q1⟩:=abf q1
 obtain⟨er,ev',hl,xs,z1,z2⟩:=afz S1 R1 hp0
 subst er ev'
 refine⟨.inl ⟨rfl,xs,SqL.of z1⟩,w₀,H₀,w1,σ,s1,g1,(abW g1 q1).imp ?_⟩
 rintro v H2 ⟨w2,r2,s2,L2,S2,R2,g2,q2⟩
 obtain⟨t,ht,qa⟩:=abf q2
 obtain⟨pp,hp,qb⟩:=abf qa
 cases adj ht
 obtain⟨er2,ev2,hl2,ys,y1,y2⟩:=afz S2 (R1.mono L2 S1) hp
 split at qb
 ·rename_i hlim
  have ea:w1.io p0.1=w2.io pp.1:=by injection ev2
  have e0:p0.1=pp.1:=by injection er2 with e;injection e
  rw[ea]
  refine⟨w2.io pp.1,ys,v,rfl,rfl,y1,by rw[←y2.length];have:=agd;omega,?_⟩
  obtain⟨g4,l4⟩:=g2.setC (o':=.lst (ys++[v])) (c:=.lst (pp.2++[t])) hl2 y1 (by intro _ z;cases z) (by intro _ z;cases z) ⟨_,aaq,aak.updC y1 (S2.nz _ hl2) (by intro _ z;cases z) (by intro _ z;cases z) _ _ (y2.append (show aak G w2 H2 [t] [v]from⟨v,[],rfl,R2,rfl⟩))⟩
  exact qb w2 _ σV g4 l4
 ·exact qb.elim
theorem aeR{α:Type}[DecidableEq α]:∀(l m:List α),l.Nodup→(∀x∈l,x∈m)→l.length≤m.length
 | [],m,_,_=>Nat.zero_le _
 | x::l,m,hn,hs=>by
  obtain⟨h1,h2⟩:=List.nodup_cons.mp hn
  have hx:=hs x List.mem_cons_self
  have:=aeR l (m.erase x) h2 fun y hy=>(List.mem_erase_of_ne (a:=y) (b:=x) (fun e=>h1 (by rw[←e];exact hy))).mpr (hs y (List.mem_cons_of_mem _ hy))
  rw[List.length_erase_of_mem hx]at this
  have hp:0<m.length:=List.length_pos_of_mem hx
  rw[List.length_cons]
  omega
theorem ahB{nm:List Str}{y:V}:∀{kvs:List (Str×V)},arm nm kvs→x∈nm→arm nm (abX x y kvs)
 | [],_,hx=>⟨by simp[abX],fun z hz=>by simp[abX]at hz;rw[hz];exact hx⟩
 | (g,v)::r,⟨h1,h2⟩,hx=>by
  rw[List.map_cons,List.nodup_cons]at h1
  obtain⟨i1,i2⟩:=ahB (y:=y) (kvs:=r) ⟨h1.2,fun z hz=>h2 z (List.mem_cons_of_mem _ hz)⟩ hx
  rw[show abX x y ((g,v)::r)=(if g=x then(g,y)::r else(g,v)::abX x y r)from rfl]
  split
  ·exact⟨List.nodup_cons.mpr h1,h2⟩
  ·rename_i hg
   refine⟨List.nodup_cons.mpr ⟨fun hz=>?_,i1⟩,fun z hz=>?_⟩
   ·have:g∈r.map (·.1):=by
     have key:∀(q:List (Str×V)),g∈(abX x y q).map (·.1)→g∈q.map (·.1):=by
      intro q
      induction q with
      | nil=>intro hq;simp[abX]at hq;exact absurd hq hg
      | cons u q ih=>
       obtain⟨u1,u2⟩:=u
       intro hq
       rw[show abX x y ((u1,u2)::q)=(if u1=x then(u1,y)::q else(u1,u2)::abX x y q)from rfl]at hq
       split at hq
       ·exact hq
       ·rw[List.map_cons,List.mem_cons]at hq ⊢
        exact hq.imp (fun z=>z) ih
     exact key r hz
    exact h1.1 this
   ·rw[List.map_cons,List.mem_cons]at hz
    rcases hz with rfl|hz
    ·exact h2 _ List.mem_cons_self
    ·exact i2 z hz
theorem an0(hcl:Cls X.K (G.iA c))(hn:(G.nm c)[f]?=some x)(hnd:(G.nm c).Nodup)(hlen:(G.nm c).length≤100)(hna:abb X.K (G.iA c) x)(ha:PE X o (tV G X C a'))(he:PE X e (tV G X C e'))
  (hs:swapsWith e (some (.Attribute o x pos')) pos.line X.env=pure false):PS X (.Assign [.Attribute o x pos'] e pos) (tS G X C (.setF a' c f e')):=by
 refine PS.imp (aqC ha he hs) ?_
 rintro D σV H ⟨w₀,H₀,w,σ,s,g,h⟩
 refine⟨w₀,H₀,w,σ,s,g,(abW g h).imp ?_⟩
 rintro v H1 ⟨w1,r,s1,L1,S1,R1,g1,q1⟩
 obtain⟨t,ht,q1⟩:=abf q1
 cases adj ht
 refine⟨w₀,H₀,w1,σ,s1,g1,(abW g1 q1).imp ?_⟩
 rintro y H2 ⟨w2,r2,s2,L2,S2,R2,g2,q2⟩
 obtain⟨pp,hp,q2⟩:=abf q2
 obtain⟨er,ev',hl,hs2,dx,kvs,z1,z2,z3⟩:=afk S2 R2 hp
 subst ev'
 split at q2
 ·rename_i hfl
  have hx:x∈G.nm c:=List.mem_of_getElem? hn
  have rt:Rep G w2 H2 t v:=Rep.mono L2 S1 t v R1
  have nz:=S2.nz _ hl
  refine⟨w2.io pp.1,_,dx,kvs,rfl,z1,hcl,hna,?_,?_⟩
  ·have:=aeR _ _ z2.1 z2.2
   rw[List.length_map]at this
   omega
  ·have afB:abc G w2 (upd H2 (w2.io pp.1) (.ins (G.iA c) dx (abX x v kvs))) (w2.io pp.1) (.ins c (pp.2.set f (some t))):=by
    refine⟨dx,abX x v kvs,aaq,ahB z2 hx,fun i y u h1 h2=>?_⟩
    rw[abA]
    by_cases hi:f=i
    ·subst hi
     rw[hn]at h1
     cases h1
     rw[List.getElem?_set_self hfl]at h2
     cases h2
     exact⟨v,if_pos rfl,Rep.updC z1 nz (by intro _ z;cases z) (by intro _ z;cases z) t v rt⟩
    ·rw[List.getElem?_set_ne hi]at h2
     obtain⟨u',y1,y2⟩:=z3 i y u h1 h2
     have ne:y≠x:=fun e=>hi (ac3 hnd hn (e▸h1))
     exact⟨u',by rw[if_neg ne];exact y1,Rep.updC z1 nz (by intro _ z;cases z) (by intro _ z;cases z) u u' y2⟩
   obtain⟨g4,l4⟩:=g2.setC (o':=.ins (G.iA c) dx (abX x v kvs)) (c:=.ins c (pp.2.set f (some t))) hl z1 (by intro _ z;cases z) (by intro _ z;cases z) afB
   exact q2 w2 _ σV g4 l4
 ·exact q2.elim
end
end IP
end
noncomputable section
namespace IP
open PySem PySem.Spec L2
abbrev hnd(X:Cx)(e:Addr):Cx:={ X with A:=X.A.mark (some (.ref e)),calm:=false,xe:=fun _ _=>False }
section
variable{G:Gx}{X:Cx}{C:Cf}{pins:List (Addr×Obj)}{σV:St}{H:Hp}{c:Nat}{u:Value}{sh s:Shared}{e:Addr}
theorem aqe(ok:X.Ok):(hnd X e).Ok:=
 ⟨ok.mod,ok.kind,ok.glob,ok.blt,ok.above,ok.inj,ok.has,ok.cab,fun z=>(by cases z),ok.frames,ok.stk,ok.exf,ok.bs,ok.bsz,ok.noex,ok.exfs,ok.funs,ok.frf⟩
theorem afg(I:Inv X pins σV H s):Inv (hnd X e) pins σV H s:=⟨aqe I.ok,I.os,I.bare,I.base,I.loc,I.cell,I.free,I.freeC,I.pin,I.hok,I.len⟩
theorem abR(ok:X.Ok)(I:Inv (hnd X e) pins σV H s):Inv X pins σV H s:=⟨ok,I.os,I.bare,I.base,I.loc,I.cell,I.free,I.freeC,I.pin,I.hok,I.len⟩
theorem aet{P:Program}{w:World}{h:Heap}{a:Addr}{o:HO}(x:abi P w H h a o):∃q,h.get? a=some q:=by
 cases o with
 | lst xs=>obtain⟨_,_,_,_,e⟩:=x;exact⟨_,e⟩
 | tup xs=>obtain⟨_,_,_,ob,e,_⟩:=x;exact⟨_,e⟩
 | dK kvs=>obtain⟨_,_,_,_,o,_,_,e,_⟩:=x;exact⟨_,e⟩
 | dT kvs=>obtain⟨_,_,_,_,o,_,_,e,_⟩:=x;exact⟨_,e⟩
 | set S n=>obtain⟨o,_,_,_,e,_⟩:=x;exact⟨_,e⟩
 | ins C dx fs=>obtain⟨_,_,_,e,_⟩:=x;exact⟨_,e⟩
 | own y=>obtain⟨_,e⟩:=x;exact⟨_,e⟩
 | xd fs=>obtain⟨_,⟨_,_,_,e,_⟩,_⟩:=x;exact⟨_,e⟩
 | rng lo hi=>obtain⟨_,_,_,e⟩:=x;exact⟨_,e⟩
 | frz ob v=>obtain⟨e,_⟩:=x;exact⟨_,e⟩
 | tbl ps=>exact⟨_,(show h.get? a=some _ from x)⟩
 | met f y=>exact⟨_,(show h.get? a=some _ from x)⟩
 | ext φ=>obtain⟨_,⟨_,e⟩,_⟩:=x;exact⟨_,e⟩
theorem agM{h B h':Heap}{Ca:Addr}{oe:Obj}(hex:X.ex=[])(I:Inv X pins σV H { sh with heap:=h })(F:Flt X.stack h B e h')(ho:h'.get? e=some oe)(hc:oe.cls=.ref Ca):
  H e=none∧Inv X pins σV (upd H e (.ext (agF e Ca))) { sh with heap:=h' }:=by
 have hn:H e=none:=by
  cases q:H e with
  | none=>rfl
  | some o=>obtain⟨z,hz⟩:=aet (I.hok e o q);rw[F.new]at hz;cases hz
 have J:=acb I F
 have new:∀b o,h.get? b=some o→b≠e:=fun b o q z=>by rw[z,F.new]at q;cases q
 have newc:∀{b:Addr}{v:Option Value},h.IsCell b v→b≠e:=fun {b v} ⟨o,q,_⟩=>new b o q
 refine⟨hn,J.ok,J.os,J.bare,⟨J.base.keep,J.base.slot,fun b o q n hx=>?_,J.base.there,fun b xs q=>?_,fun b o v q=>?_,fun b ps q=>?_⟩,J.loc,J.cell,?_,fun x cc q=>?_,fun p hp=>?_,fun a o q=>?_,J.len⟩
 ·obtain⟨o',z⟩:=I.base.there b o q hx
  rw[aah (new b o' z)]
  exact J.base.free b o q n hx
 ·have z:=J.base.tups b xs q
  rw[aah (fun y=>by rw[y,hn]at z;cases z)]
  exact z
 ·have z:=J.base.frzs b o v q
  rw[aah (fun y=>by rw[y,hn]at z;cases z)]
  exact z
 ·obtain⟨m,z⟩:=J.base.tbls b ps q
  exact⟨m,by rw[aah (fun y=>by rw[y,hn]at z;cases z)];exact z⟩
 ·obtain⟨m,⟨o,es,ep,q,_⟩,_⟩:=I.loc
  rw[aah (new _ o q)]
  exact J.free
 ·obtain⟨v,ic⟩:=I.cell x cc q
  rw[aah (newc ic)]
  exact J.freeC x cc q
 ·obtain⟨p1,p2,p3,p4,p5⟩:=J.pin p hp
  refine⟨p1,?_,p3,p4,p5⟩
  rw[aah (new _ _ (I.pin p hp).1)]
  exact p2
 ·by_cases ha:a=e
  ·subst ha
   rw[aaq]at q
   cases q
   exact⟨⟨oe,ho,hc⟩,⟨oe,ho⟩,fun h1 h2 ⟨o,q1,q2⟩ k=>⟨o,k o q1,q2⟩⟩
  ·rw[aah ha]at q
   refine(J.hok a o q).stay (fun _ _ _ r=>r) (fun b r=>?_) fun b xs r=>?_
   ·rw[aah (fun y=>by rw[y,hn]at r;cases r)];exact r
   ·rw[aah (fun y=>by rw[y,hn]at r;cases r)];exact r
theorem aht{M:Model}{A:Around}{E:Value→Shared→Prop}{i:Nat}{x:Str}{v:V}{Q:Unit→Shared→Prop}(I:Inv X pins σV H s)(hN:X.N.Nodup)(hi:X.N[i]?=some x)(hx:X.env.scope.names.lookup x=some .local)(hv:σV[i]?=some (some v))
  (h:∀s',Inv X pins (σV.set i none) H s'→Q () s'):wpAny M A (unbindName X.env x) Q E s:=by
 obtain⟨m,hn,hl⟩:=id I.loc
 have hcls:(X.env.scope.kind==.class||(X.env.scope.kind==.module&&X.env.locals != X.env.globals))=false:=by rw[I.ok.kind];rfl
 obtain⟨w,rw',lk⟩:=hl i x v hi hv (.inl hx)
 have hm:m x=some w:=by
  rcases lk with⟨_,z⟩|⟨z,_⟩
  ·exact z
  ·have z:X.env.scope.names.lookup x=some .cell∨X.env.scope.names.lookup x=some .free:=z
   rw[hx]at z
   rcases z with z|z<;>cases z
 obtain⟨oL,_,_,hoL,_⟩:=id hn
 have hne:∀{b:Addr}{o:Obj},X.s₀.heap.get? b=some o→b≠X.env.locals:=fun q z=>by
  rw[z]at q
  exact absurd (Heap.lt_size q) (Nat.not_lt.mpr I.ok.above)
 refine wpAny_unbindName_local hx hn hm hcls fun h' u' hn' hs=>?_
 refine h _ ⟨I.ok,I.os,I.bare,⟨fun b o q n hb hx=>?_,fun b o q n hb hx=>?_,I.base.free,fun b o q hx=>?_,I.base.tups,I.base.frzs,I.base.tbls⟩,⟨_,hn',fun j y z e1 e2 e3=>?_⟩,fun y cc q=>?_,I.free,I.freeC,fun p hp=>?_,fun a o q=>?_,?_⟩
 ·exact(hs.2 b (hne q)).trans (I.base.keep b o q n hb hx)
 ·obtain⟨sl,z⟩:=I.base.slot b o q n hb hx
  exact⟨sl,(hs.2 b (hne q)).trans z⟩
 ·obtain⟨o',z⟩:=I.base.there b o q hx
  exact⟨o',(hs.2 b (hne q)).trans z⟩
 ·by_cases hj:i=j
  ·subst hj
   have hlt:i<σV.length:=(List.getElem?_eq_some_iff.mp hv).1
   rw[List.getElem?_set_self hlt]at e2
   cases e2
  ·rw[List.getElem?_set_ne hj]at e2
   obtain⟨w2,r2,q⟩:=hl j y z e1 e2 e3
   refine⟨w2,r2,?_⟩
   have ny:y≠x:=fun e=>hj (ac3 hN hi (e▸e1))
   rcases q with⟨k,q⟩|⟨k,cc,q,ic⟩
   ·exact .inl ⟨k,(if_neg ny).trans q⟩
   ·exact .inr ⟨k,cc,q,ic.sameBut hs (I.cne y cc q)⟩
 ·obtain⟨w2,ic⟩:=I.cell y cc q
  exact⟨w2,ic.sameBut hs (I.cne y cc q)⟩
 ·obtain⟨p1,p2,p3,p4,p5⟩:=I.pin p hp
  exact⟨(hs.2 p.1 p3).trans p1,p2,p3,p4,p5⟩
 ·refine(I.hok a o q).stay (fun b r hb k=>(hs.2 b ?_).trans k) (fun _ r=>r) fun _ _ r=>r
  rintro rfl
  rcases hb with rfl|hb
  ·rw[I.free]at q;cases q
  ·rw[I.free]at hb;cases hb
 ·rw[List.length_set];exact I.len
end
end IP
end
noncomputable section
namespace IP
open PySem PySem.Spec L2
abbrev aeX(X:Cx)(E:Value→Shared→Prop)(pn:List (Addr×Obj)):Cx:={ X with xe:=E,pn:=pn }
section
variable{G:Gx}{X:Cx}{C:Cf}{pins pins':List (Addr×Obj)}{w w' w₀:Wo}{H H' H₀:Hp}{σ σ':Fr}{σV σV':St}{c:Nat}{u:Value}{sh s:Shared}{e:Addr}{E:Value→Shared→Prop}
theorem aob{pn:List (Addr×Obj)}(ok:X.Ok):(aeX X E pn).Ok:=
 ⟨ok.mod,ok.kind,ok.glob,ok.blt,ok.above,ok.inj,ok.has,ok.cab,ok.hd,ok.frames,ok.stk,ok.exf,ok.bs,ok.bsz,ok.noex,ok.exfs,ok.funs,ok.frf⟩
theorem aj8{pn:List (Addr×Obj)}(ok:(aeX X E pn).Ok):X.Ok:=
 ⟨ok.mod,ok.kind,ok.glob,ok.blt,ok.above,ok.inj,ok.has,ok.cab,ok.hd,ok.frames,ok.stk,ok.exf,ok.bs,ok.bsz,ok.noex,ok.exfs,ok.funs,ok.frf⟩
theorem ams(I:Inv X pins σV H s):Inv (aeX X E (X.pn++pins)) [] σV H s:=
 ⟨aob I.ok,I.os,I.bare,I.base,I.loc,I.cell,I.free,I.freeC,fun p hp=>I.pin p (by simpa using hp),I.hok,I.len⟩
theorem abx(I:Inv (aeX X E (X.pn++pins)) pins' σV H s):Inv X pins σV H s:=
 ⟨aj8 I.ok,I.os,I.bare,I.base,I.loc,I.cell,I.free,I.freeC,fun p hp=>I.pin p (List.mem_append_left _ hp),I.hok,I.len⟩
theorem ajB{D:Ends}{f:Flow}{s':Shared}(h:SP (aeX X E (X.pn++pins)) [] D f s'):SP X pins D f s':=by
 cases f with
 | next=>obtain⟨σ',H',I,q⟩:=h;exact⟨σ',H',abx I,q⟩
 | brk=>obtain⟨σ',H',I,q⟩:=h;exact⟨σ',H',abx I,q⟩
 | cont=>obtain⟨σ',H',I,q⟩:=h;exact⟨σ',H',abx I,q⟩
 | ret u=>obtain⟨v,σ',H',I,r,q⟩:=h;exact⟨v,σ',H',abx I,r,q⟩
theorem afT{D:Ends}{f:Flow}{s':Shared}(ok:X.Ok)(h:SP (hnd X e) pins D f s'):SP X pins D f s':=by
 cases f with
 | next=>obtain⟨σ',H',I,q⟩:=h;exact⟨σ',H',abR ok I,q⟩
 | brk=>obtain⟨σ',H',I,q⟩:=h;exact⟨σ',H',abR ok I,q⟩
 | cont=>obtain⟨σ',H',I,q⟩:=h;exact⟨σ',H',abR ok I,q⟩
 | ret u=>obtain⟨v,σ',H',I,r,q⟩:=h;exact⟨v,σ',H',abR ok I,r,q⟩
theorem aex{r:SR}{D:Ends}(h:aan G X w₀ H₀ w H σ σV r.nox D):aan G (hnd X e) w₀ H₀ w H σ σV r D:=by
 cases r with
 | stuck=>exact h
 | next σ1 s1=>exact h
 | ret r s1=>exact h
 | retO ts s1=>exact h
 | exc c σ1 s1=>exact h.elim
theorem FrOk.unset{i:Nat}(F:FrOk G w H H₀ σ σV):FrOk G w H H₀ (σ.set i none) (σV.set i none)where
 len:=by simp[F.len]
 val:=fun j t e=>by
  rcases aam e with⟨_,z,_⟩|⟨ne,z⟩
  ·cases z
  ·obtain⟨v,h1,h2⟩:=F.val j t z
   exact⟨v,by rw[List.getElem?_set_ne ne];exact h1,h2⟩
 own:=fun j b ts e eb=>by
  rcases aam e with⟨_,z,_⟩|⟨ne,z⟩
  ·cases z
  ·obtain⟨a,vs,h1,h2⟩:=F.own j b ts z eb
   exact⟨a,vs,by rw[List.getElem?_set_ne ne];exact h1,h2⟩
 apart:=fun j k b c ts us a hjk e1 eb e2 ec e3 e4=>by
  rcases aam e1 with⟨_,z,_⟩|⟨ne,z⟩
  ·cases z
  ·rcases aam e2 with⟨_,z',_⟩|⟨ne',z'⟩
   ·cases z'
   ·rw[List.getElem?_set_ne ne]at e3
    rw[List.getElem?_set_ne ne']at e4
    exact F.apart j k b c ts us a hjk z eb z' ec e3 e4
 bor:=fun j ts e=>by
  rcases aam e with⟨_,z,_⟩|⟨ne,z⟩
  ·cases z
  ·obtain⟨a,vs,h1,h2⟩:=F.bor j ts z
   exact⟨a,vs,by rw[List.getElem?_set_ne ne];exact h1,h2⟩
theorem akQ{body suite:List Stmt}{b':List S}{y:Str}{yp hpos pos:Pos}{nm:Option Str}{b₀:Stmt}(hst:X.stack=X.env::X.outer∧X.env.frame=some X.env.locals)(hg:Gl X y)(hm:X.mg y=some (.ref (G.cA c)))(hdb:(y==("__debug__":Str))=false)
  (hmt:∀d,PySem.W.exmOne X.K (.ref (G.cA d)) (.ref (G.cA c))=some (C.sub d c))
  (hbody:∀(E:Value→Shared→Prop) (pn:List (Addr×Obj)),PassesOwn (model X.prog X.w) X.A X.env E→PSs (aeX X E pn) body (tSs G (aeX X E pn) C b')) {st:Sto}{D:Ends}{k:Nat→Fr→Sto→SR}
  (I:Inv X pins σV H s) (g:Good G w₀ H₀ w H σ st σV)
  (h:aan G X w₀ H₀ w H σ σV (match exs C b' σ st with | .exc d σ1 s1=>if C.sub d c then k d σ1 s1 else .exc d σ1 s1|r=>r) D)
  (hk:∀(d:Nat) (σ1:Fr) (s1:Sto) (w1:Wo) (H1:Hp) (σV1:St) (e:Addr) (h B h1:Heap) (t:Value) (sh:Shared),Good G w₀ H₀ w1 H1 σ1 s1 σV1→aan G X w₀ H₀ w1 H1 σ1 σV1 (k d σ1 s1) D→Inv X pins σV1 H1 { sh with heap:=h }→Flt X.stack h B e h1→X.base.StaysIn B→Heap.FlyingW B X.stack e (.ref (G.cA d)) t h1→
   codeAny (model X.prog X.w) (X.A.mark (some (.ref e))) (.handlers (.ref e) [.ExceptHandler none nm (b₀::suite) hpos] X.env) (fun r s₂=>match r with
     | .ok f=>(match nm with
      | none=>SP X pins D f s₂
      | some n=>wpAny (model X.prog X.w) X.A (do bindName X.env n .none;unbindBehindTheSuite X.env n hpos) (fun _ s₃=>SP X pins D f s₃) X.xe s₂)
     | .error x=>cameBackBy (model X.prog X.w) X.A X.env X.xe x s₂) { sh with heap:=h1 }):
  wpAny (model X.prog X.w) X.A (exec (.Try body [.ExceptHandler (some (.Name y yp)) nm (b₀::suite) hpos] [] [] pos) X.env) (SP X pins D) X.xe s:=by
 rw[arm_exec_Try]
 refine wpAny_bind (wpAny_standAt (aiw ?_))
 generalize hE2:(fun(u:Value) (s₁:Shared)=>wpAny (model X.prog X.w) X.A (leaving X.env u) (fun _ s₃=>wpAny (model X.prog X.w) X.A (handleBy u X.env [.ExceptHandler (some (.Name y yp)) nm (b₀::suite) hpos]) (SP X pins D) X.xe s₃) X.xe s₁)=E2
 have hp:PassesOwn (model X.prog X.w) X.A X.env E2:=acu (X:=aeX X E2 []) (Q:=fun u _ s₃=>wpAny (model X.prog X.w) X.A (handleBy u X.env [.ExceptHandler (some (.Name y yp)) nm (b₀::suite) hpos]) (SP X pins D) X.xe s₃) (E₁:=fun _=>X.xe) hE2.symm
 refine wpAny_mono (hbody E2 (X.pn++pins) hp [] s σV H D (ams I) ⟨w₀,H₀,w,σ,st,g,?_⟩) (fun f s₁ q=>?_) fun u s₁ q=>?_
 ·cases hx:exs C b' σ st with
  | stuck=>rw[hx]at h;exact h
  | next σ1 s1=>rw[hx]at h;exact h
  | ret r s1=>rw[hx]at h;exact h
  | retO ts s1=>rw[hx]at h;exact h
  | exc d σ1 s1=>
   rw[hx]at h
   intro w1 H1 σV1 pins' u sh g1 L1 T
   show E2 u sh
   rw[←hE2]
   refine adv (acv (X:=aeX X E2 (X.pn++pins)) ⟨_,_,_,hst.1,hst.2,hst.2⟩ T fun e hh B h1 t eu I1 F sb fly=>?_)
   subst eu
   have J:=abx I1
   have JL:Inv X pins σV1 H1 { sh with heap:=h1 }:=acb J F
   obtain⟨ob,hob,hoc⟩:=fly.there
   have LT:PySem.W.Looks (model X.prog X.w) h1 (typeOf (.ref e)) (.ref (G.cA d)):=hoc▸(PySem.W.Looks.ld hob).andThen .now
   refine wpAny_handleBy_cons (codeAny_handlers_test (A:=X.A.mark (some (.ref e))) (abG (X:=hnd X e) (afg JL) hg hm ?_ hdb)) (by intro q;cases q)
   refine(PySem.W.exm_one (M:=model X.prog X.w) JL.kIn LT (hmt d)).at ?_
   cases hsb:C.sub d c with
   | true=>
    dsimp only at h
    rw[hsb]at h
    exact hk d σ1 s1 w1 H1 σV1 e hh B h1 t sh g1 (aan.mono L1 h) J F sb fly
   | false=>
    dsimp only at h
    rw[hsb]at h
    have h:aan G X w₀ H₀ w H σ σV (.exc d σ1 s1) D:=h
    show wpAny _ _ (handleBy (.ref e) X.env []) _ _ _
    refine wpAny_handleBy_nil ?_
    obtain⟨f1,f2,f3,oe,vs,Tb,oT,ts,he,hcl,hd,hv,hnT,hTe,hT,hdT,h3⟩:=id fly
    unfold passOn
    refine wpAny_bind (wpAny_field he hd hv ?_)
    rw[if_neg (show ¬((Value.ref Tb==Value.none)=true)from by simp)]
    have step:wpAny (model X.prog X.w) X.A (setFlight (.ref e) X.env.frame >>= fun _=>(throw (Value.ref e):Sem Flow)) (SP X pins D) X.xe { sh with heap:=h1 }:=by
     rw[hst.2]
     refine wpAny_bind (PySem.W.setFlight_onW (s:={ sh with heap:=h1 }) fly fun h2 hh2 sm=>?_)
     refine wpAny_throw ?_
     have F2:Flt X.stack hh B e h2:=F.next J.stack hh2.1 sm
     exact h w1 H1 σV1 pins (.ref e) { sh with heap:=h2 } g1 L1 ⟨e,hh,B,rfl,J,F2,sb,.inr (.inr ⟨t,_,hh2⟩)⟩
    first
     | exact wpAny_bind (wpAny_pure step)
     | exact step
 ·have q:=ajB q
  cases f with
  | next=>exact wpAny_execs_nil q
  | brk=>exact q
  | cont=>exact q
  | ret v=>exact q
 ·exact q
end
section
variable{G:Gx}{X:Cx}{C:Cf}{pins pins':List (Addr×Obj)}{w w' w₀:Wo}{H H' H₀:Hp}{σ σ':Fr}{σV σV':St}{c i:Nat}{u:Value}{sh s:Shared}{e:Addr}{E:Value→Shared→Prop}
variable{body suite:List Stmt}{b' h':List S}{y n:Str}{yp hpos pos:Pos}{b₀:Stmt}
theorem ame(hst:X.stack=X.env::X.outer∧X.env.frame=some X.env.locals)(hg:Gl X y)(hm:X.mg y=some (.ref (G.cA c)))(hdb:(y==("__debug__":Str))=false)
  (hmt:∀d,PySem.W.exmOne X.K (.ref (G.cA d)) (.ref (G.cA c))=some (C.sub d c))
  (hbody:∀(E:Value→Shared→Prop) (pn:List (Addr×Obj)),PassesOwn (model X.prog X.w) X.A X.env E→PSs (aeX X E pn) body (tSs G (aeX X E pn) C b'))
  (hsuite:∀e,PSs (hnd X e) (b₀::suite) (tSs G (hnd X e) C h')):PS X (.Try body [.ExceptHandler (some (.Name y yp)) none (b₀::suite) hpos] [] [] pos) (tS G X C (.try_ b' c none h')):=by
 rintro pins s σV H D I ⟨w₀,H₀,w,σ,st,g,h⟩
 refine akQ (C:=C) (c:=c) (k:=fun d σ1 s1=>(exs C h' σ1 s1).nox) hst hg hm hdb hmt hbody I g h fun d σ1 s1 w1 H1 σV1 e hh B h1 t sh g1 q J F sb fly=>?_
 refine codeAny_handlers_suite (PyProof.Rows.lands_againW (s:={ sh with heap:=h1 }) fly fun h2 fly2 sm=>?_)
 have J2:Inv X pins σV1 H1 { sh with heap:=h2 }:=acb J (F.next J.stack fly2.1 sm)
 exact wpAny_mono (hsuite e pins _ σV1 H1 D (afg J2) ⟨w₀,H₀,w1,σ1,s1,g1,aex q⟩) (fun f s₂ q=>afT J2.ok q) fun _ _ z=>z.elim
theorem anf(hst:X.stack=X.env::X.outer∧X.env.frame=some X.env.locals)(hex:X.ex=[])(hN:X.N.Nodup)(hi:X.N[i]?=some n)(hl:X.env.scope.names.lookup n=some .local)(hg:Gl X y)(hm:X.mg y=some (.ref (G.cA c)))(hdb:(y==("__debug__":Str))=false)
  (hmt:∀d,PySem.W.exmOne X.K (.ref (G.cA d)) (.ref (G.cA c))=some (C.sub d c))
  (hbody:∀(E:Value→Shared→Prop) (pn:List (Addr×Obj)),PassesOwn (model X.prog X.w) X.A X.env E→PSs (aeX X E pn) body (tSs G (aeX X E pn) C b'))
  (hsuite:∀e,PSs (hnd X e) (b₀::suite) (tSs G (hnd X e) C h')):PS X (.Try body [.ExceptHandler (some (.Name y yp)) (some n) (b₀::suite) hpos] [] [] pos) (tS G X C (.try_ b' c (some i) h')):=by
 rintro pins s σV H D I ⟨w₀,H₀,w,σ,st,g,h⟩
 refine akQ (C:=C) (c:=c) (k:=fun d σ1 s1=>(exs C h' (put σ1 i (.exc d)) s1).nox.bind fun σ2 s2=>.next (σ2.set i none) s2) hst hg hm hdb hmt hbody I g h fun d σ1 s1 w1 H1 σV1 e hh B h1 t sh g1 q J F sb fly=>?_
 refine codeAny_handlers_suite_as (PyProof.Rows.lands_againW (s:={ sh with heap:=h1 }) fly fun h2 fly2 sm=>?_)
 obtain⟨ob,hob,hoc⟩:=fly2.there
 obtain⟨hne,J2⟩:=agM hex J (F.next J.stack fly2.1 sm) hob hoc
 have L2:Le w1 w1 H1 (upd H1 e (.ext (agF e (G.cA d)))):=Le.new hne _
 have S2:=g1.sto.new hne (.ext (agF e (G.cA d)))
 have g2:Good G w₀ H₀ w1 (upd H1 e (.ext (agF e (G.cA d)))) (put σ1 i (.exc d)) s1 (σV1.set i (some (.ref e))):=(g1.step L2 S2).put ⟨e,rfl,aaq⟩
 have l2:LeS w1 w1 H1 (upd H1 e (.ext (agF e (G.cA d)))) σ1 (put σ1 i (.exc d)) σV1 (σV1.set i (some (.ref e))):=(LeS.of L2).trans LeS.put
 have hiσ:i<σV1.length:=by rw[J.len];exact(List.getElem?_eq_some_iff.mp hi).1
 refine ac4 (v:=.ref e) J2 hN hi (.inl hl) rfl (fun s3 J3=>?_) (.inr hl)
 refine wpAny_mono (hsuite e pins s3 (σV1.set i (some (.ref e))) _ { D with nx:=fun σ2 H2=>D.nx (σ2.set i none) H2,rt:=D.rt,bk:=fun _ _=>False,ct:=fun _ _=>False } (afg J3) ⟨w₀,H₀,w1,put σ1 i (.exc d),s1,g2,?_⟩) (fun f s₂ z=>?_) fun _ _ z=>z.elim
 ·refine aex ?_
  have q:=aan.mono l2 q
  generalize hr:(exs C h' (put σ1 i (.exc d)) s1).nox=r at q
  cases r with
  | stuck=>exact q
  | next σ2 s2=>exact fun w3 H3 σV3 g3 l3=>q w3 H3 (σV3.set i none) ⟨g3.sto,g3.fr.unset,g3.ent⟩ (l3.trans (LeS.set (by intro ts z;cases z) (by intro ts z;cases z)))
  | ret r s2=>exact q
  | retO ts s2=>exact q
  | exc cc σ2 s2=>exact q
 ·have z:=afT J2.ok z
  have go:∀(σ2:St) (H2:Hp),Inv X pins σ2 H2 s₂→∀Q:Shared→Prop,(∀s4,Inv X pins (σ2.set i none) H2 s4→Q s4)→wpAny (model X.prog X.w) X.A (do bindName X.env n .none;unbindBehindTheSuite X.env n hpos) (fun _ s₃=>Q s₃) X.xe s₂:=fun σ2 H2 K Q hQ=>by
   have hi2:i<σ2.length:=by rw[K.len];exact(List.getElem?_eq_some_iff.mp hi).1
   refine wpAny_bind (PySem.wpAny_bindName (ac4 (v:=.non) K hN hi (.inl hl) rfl (fun s4 K4=>?_) (.inr hl)))
   unfold unbindBehindTheSuite
   refine wpAny_onRaise (aht (v:=.non) K4 hN hi hl (List.getElem?_set_self hi2) fun s5 K5=>?_)
   rw[List.set_set]at K5
   exact hQ s5 K5
  cases f with
  | next=>
   obtain⟨σ2,H2,K,z⟩:=z
   exact go σ2 H2 K _ fun s4 K4=>⟨σ2.set i none,H2,K4,z⟩
  | brk=>obtain⟨σ2,H2,K,z⟩:=z;exact z.elim
  | cont=>obtain⟨σ2,H2,K,z⟩:=z;exact z.elim
  | ret v=>
   obtain⟨x,σ2,H2,K,r,z⟩:=z
   exact go σ2 H2 K _ fun s4 K4=>⟨x,σ2.set i none,H2,K4,r,z⟩
end
end IP
end
noncomputable section
namespace IP
open PySem PySem.W PySem.Spec PySem.Calls PyProof.Rows Builtin Builtin.ObjectAttr Builtin.Getset_descriptor
def Err(x D:Addr)(hp:Heap):Prop:=∃ob,hp.get? x=some ob∧ob.cls=.ref D
section
variable{KK:Frag}{x D:Addr}
theorem alH(M:Model)(hp:Heap)(p:Err x D hp):Looks M hp (typeOf (.ref x)) (.ref D):=by
 obtain⟨ob,k1,k2⟩:=p
 exact k2▸(Looks.ld k1).andThen .now
end
end IP
namespace IP
open PySem PySem.W PySem.Spec PySem.Calls PyProof.Rows Builtin Builtin.ObjectAttr Builtin.Getset_descriptor
section
variable{KK:Frag}{x D:Addr}{prog:Program}{w:World}{A:Around}{E:Value→Shared→Prop}
theorem ai0{Q:Option Value→Shared→Prop}{s:Shared}
  (hga:findIn KK (.ref D) "__getattribute__"=some (some (.builtin "BaseException.__getattribute__")))
  (hgn:findIn KK (.ref D) "__getattr__"=some none)
  (ha:findIn KK (.ref D) "__class__"=some (some (.builtin "object.__class__")))
  (hn:specialIn KK (.builtin "object.__class__") "__get__"=some (some (.builtin "getset_descriptor.__get__")))
  (htk:takesIn KK (.builtin "object.__class__")=some true)
  (hm:mroIn KK D (.type "object")=some true) (hb:mroIn KK D (.type "BaseException")=some true)
  (X:KK.In s.heap) (p:Err x D s.heap) (k:Q (some (.ref D)) { s with toks:=s.toks+1 }):
  wpAny (model prog w) A (getAttr? (.ref x) "__class__") Q E s:=by
 obtain⟨hp,gg,dd,tt,oo⟩:=s
 have T0:=alH (model prog w) hp p
 have T1:=looks_findIn (M:=model prog w) X hga
 have T2:=looks_findIn (M:=model prog w) X hgn
 have TF:Looks (model prog w) hp (find (.ref x) (.ref D) "__class__") (.bind (.builtin "getset_descriptor.__get__") (.builtin "object.__class__")):=by
  have a1:=looks_findIn (M:=model prog w) X ha
  have a2:=looks_specialIn (M:=model prog w) X hn
  have a3:=looks_takesIn (M:=model prog w) X htk
  refine a1.andThen ?_
  refine Looks.andThen (show Looks (model prog w) hp (getOf (some (.builtin "object.__class__"))) (some (.builtin "getset_descriptor.__get__"))from a2) ?_
  refine Looks.andThen (show Looks (model prog w) hp (dataDescriptor? (some (.builtin "object.__class__")) (some (.builtin "getset_descriptor.__get__"))) (some (.builtin "getset_descriptor.__get__",.builtin "object.__class__"))from a3.andThen .now) ?_
  exact Looks.tag .now
 have T3:=looks_mroIn (M:=model prog w) X hm
 have T4:=looks_mroIn (M:=model prog w) X hb
 have TI:Looks (model prog w) hp (isInstance (.ref x) (.type "BaseException")) true:=T0.andThen T4
 have f3:=F.excAttr_ValueError.ga.bind (.ref x)
 unfold getAttr? getAttrBy? getAttrBy
 refine wpAny_bind (wpAny_mkText ?_)
 refine wpAny_bind (wpAny_attempt ?_)
 refine wpAny_holding ?_
 refine wpAny_bind (T0.at ?_)
 refine wpAny_bind (T1.at ?_)
 have c0:(onTheHeap (Value.ref D)&&Value.builtin "BaseException.__getattribute__"==Value.builtin "object.__getattribute__")=false:=by
  have:(Value.builtin "BaseException.__getattribute__"==Value.builtin "object.__getattribute__")=false:=by decide +kernel
  rw[this];rfl
 dsimp only
 rw[c0]
 simp only[Bool.false_eq_true,if_false]
 unfold getAttrByItsOwn
 refine wpAny_bind (Looks.at (show Looks (model prog w) hp (hookBefore (.ref D)) none from T2) ?_)
 refine wpAny_bind (wpAny_attempt ?_)
 refine wpAny_holding ?_
 unfold callGetattribute boundAndCalled
 simp only[Bool.false_and,Bool.false_eq_true,if_false]
 rw[f3]
 refine wpAny_bind (wpAny_pure ?_)
 refine wpAny_call ?_
 refine codeAny_call_builtin F.excAttr_ValueError.ga.plain F.entry_bexc_ga ?_
 have hk:builtinKind "BaseException.__getattribute__"=some .slot:=by decide +kernel
 have hsplit:splitId "BaseException.__getattribute__"=some ("BaseException","__getattribute__"):=by decide +kernel
 have hargs:=F.args_bexc_ga (.ref x) (.str "__class__" tt)
 show wpAny _ _ (checkBuiltinCall "BaseException.__getattribute__" ⟨[.ref x,.str "__class__" tt],[]⟩) _ _ _
 simp only[checkBuiltinCall,hk,hsplit]
 refine wpAny_bind ?_
 refine TI.at ?_
 repeat (first|exact hargs|wp_step)
 obtain⟨ob,k1,k2⟩:=p
 refine wpAny_loadPart k1 ?_
 refine wpAny_pure ?_
 rw[k2]
 refine wpAny_bind (TF.at ?_)
 show wpAny _ _ (bindTo (.builtin "getset_descriptor.__get__") (.builtin "object.__class__") (.ref x) (.ref D)) _ _ _
 show wpAny _ _ (holding [Value.builtin "object.__class__"] (call (.builtin "getset_descriptor.__get__") [Value.builtin "object.__class__",.ref x,.ref D]) >>= ret) _ _ _
 refine wpAny_bind (wpAny_holding ?_)
 refine wpAny_call ?_
 refine codeAny_call_builtin KF.slot_gs.plain KF.entry_gs (KF.slot_gs.check _ _ _ _ _ _ _ _ KF.type_class (KF.args_gs _ _ _) ?_)
 unfold Builtin.«getset_descriptor.__get__» descrGet
 rw[dga_obj]
 refine wpAny_bind (wpAny_pure ?_)
 unfold descrGetter descrCheckInstance descrNameAndClass isInstance
 simp only[KF.owner_class]
 repeat lk
 refine⟨Code.quiet_builtin _ (by decide +kernel),?_⟩
 refine codeAny_builtin KF.entry_class ?_
 unfold Builtin.«object.__class__» shownTypeOf
 repeat lk
 exact k
theorem alS(hga:findIn KK (.ref D) "__getattribute__"=some (some (.builtin "BaseException.__getattribute__")))
  (hgn:findIn KK (.ref D) "__getattr__"=some none) (hdct:hasDictIn KK D=true)
  (ha:findIn KK (.ref D) "__class__"=some (some (.builtin "object.__class__")))
  (hn:specialIn KK (.builtin "object.__class__") "__get__"=some (some (.builtin "getset_descriptor.__get__")))
  (htk:takesIn KK (.builtin "object.__class__")=some true) (hm:mroIn KK D (.type "object")=some true)
  (hb:mroIn KK D (.type "BaseException")=some true):
  KitX KK (.ref x) (.ref D) (Err x D)where
 ty:=fun M hp _ p=>alH M hp p
 it:=fun _ _ X _=>by
  obtain⟨cdD,hcD,_⟩:=any_some hdct
  unfold clsIn at hcD
  split at hcD
  ·rename_i ho
   intro A' Q' E' s' kk q
   unfold isType loadHead
   refine wpAny_bind ?_
   exact wpAny_loadPart (kk _ _ (X _ _ ho)) (wpAny_pure q)
  ·cases hcD
 ne:=fun hp tp dd its n sl X htp=>by
  obtain⟨cdD,hcD,_⟩:=any_some hdct
  refine Bool.eq_false_iff.mpr fun q=>?_
  have e:D=tp:=Value.ref.inj (beq_iff_eq.mp q)
  subst e
  unfold clsIn at hcD
  split at hcD
  ·rename_i ho
   cases(X _ _ ho).symm.trans htp
  ·cases hcD
 ca:=fun X p k=>ai0 hga hgn ha hn htk hm hb X p k
end
end IP
namespace IP
open PySem PySem.Spec L2
structure ExcK(K:PySem.W.Frag)(D:Addr):Prop where
 ga:PySem.W.findIn K (.ref D) "__getattribute__"=some (some (.builtin "BaseException.__getattribute__"))
 gn:PySem.W.findIn K (.ref D) "__getattr__"=some none
 dct:PySem.W.hasDictIn K D=true
 ca:PySem.W.findIn K (.ref D) "__class__"=some (some (.builtin "object.__class__"))
 sp:PySem.W.specialIn K (.builtin "object.__class__") "__get__"=some (some (.builtin "getset_descriptor.__get__"))
 tk:PySem.W.takesIn K (.builtin "object.__class__")=some true
 mo:PySem.W.mroIn K D (.type "object")=some true
 mb:PySem.W.mroIn K D (.type "BaseException")=some true
section
variable{G:Gx}{X:Cx}{C:Cf}{a:Expr}{a':IP.E}{pos p py:Pos}{y:Str}{k:Nat}
theorem ajF{sub:Nat→Nat→Bool}{x:R}{b:Bool}(h:ael sub x (.cls k)=some b):∃d,x=.val (.exc d)∧b=sub d k:=by
 cases x with
 | bor ts=>cases h
 | val t=>cases t<;>first|(cases h;done)|(cases h;exact⟨_,rfl,rfl⟩)
theorem aq3(hkit:∀d,ExcK X.K (G.cA d))(hone:∀d,PySem.W.kitOne X.K (.ref (G.cA d)) (.ref (G.cA k))=some (C.sub d k))(hg:Gl X "isinstance")(hm:X.mg "isinstance"=none)(hgy:Gl X y)(hmy:X.mg y=some (.ref (G.cA k)))(hdy:(y==("__debug__":Str))=false)
  (ha:PE X a (tV G X C a')) (hs:starEach [a,.Name y py] X.env=[(false,eval a X.env),(false,eval (.Name y py) X.env)]):PE X (.Call (.Name "isinstance" p) [a,.Name y py] [] pos) (tV G X C (.isi a' (.cls k))):=by
 have hc:aa4 X (.builtin "isinstance") (fun xs H Q=>∃v,xs=[v,.ref (G.cA k)]∧r1 G (fun x=>(ael C.sub x (.cls k)).map fun b=>.val (.bl b)) v H Q):=by
  rintro pins s σ H xs us Q I rv ⟨v,rfl,w,st,rx,r,S,R1,e,q⟩
  obtain⟨u,u',rfl,r1,r2⟩:=rv.two
  cases r2
  obtain⟨b,hb,rfl⟩:=map_some e
  obtain⟨d,rfl,rfl⟩:=ajF hb
  obtain⟨ad,rfl,hH⟩:=R1
  cases r1
  obtain⟨hφ,_⟩:=I.hok ad _ hH
  have z:=hkit d
  exact PySem.W.kia_one (alS z.ga z.gn z.dct z.ca z.sp z.tk z.mo z.mb) I.kIn hφ (hone d) (by intro z;cases z) fun tk=>⟨.bl _,H,I.tok tk,rfl,q w H _ (Le.refl _ _) S rfl⟩
 refine PE.imp (ac6 hc hg hm (show bootBuiltins "isinstance"=some (.builtin "isinstance")by decide +kernel) (aa2 ha (aa2 (aiP (v:=.ref (G.cA k)) hgy hmy rfl hdy) aaZ rfl) (by rw[hs];rfl)) (by decide) (by decide) (by rw[hs];rfl) rfl) ?_
 rintro σV H Q ⟨w₀,H₀,w,σ,s,g,h⟩
 obtain⟨w₀,H₀,w,σ,s,g,h⟩:=akF (f:=fun x=>(ael C.sub x (.cls k)).map fun b=>.val (.bl b)) ⟨w₀,H₀,w,σ,s,g,h⟩
 exact⟨w₀,H₀,w,σ,s,g,h.imp fun v H1 q=>⟨v,rfl,q⟩⟩
end
end IP
end
noncomputable section
namespace IP
open PySem PySem.Spec L2
section
variable{G:Gx}{X:Cx}{C:Cf}{w w' w₀:Wo}{H H' H₀:Hp}{σ σ':Fr}{σV σV':St}{a b e:Expr}{a' b' e':IP.E}{pos p p2:Pos}{Q:VK}
theorem LeS.puts:∀{ks:List Nat}{us:List T}{vs:List V}{σ:Fr}{σV:St},IP.puts σ ks us=some σ'→vs.length=ks.length→LeS w w H H σ σ' σV (aaX σV ks vs)
 | [],[],vs,σ,σV,hp,hl=>by cases hp;cases vs<;>exact LeS.refl
 | [],_::_,vs,σ,σV,hp,hl=>by cases hp
 | _::_,[],vs,σ,σV,hp,hl=>by cases hp
 | k::ks,u::us,[],σ,σV,hp,hl=>by simp at hl
 | k::ks,u::us,v::vs,σ,σV,hp,hl=>LeS.trans (LeS.put (v:=v)) (LeS.puts (ks:=ks) (us:=us) (vs:=vs) (σ:=IP.put σ k u) (σV:=σV.set k (some v)) hp (by simpa using hl))
theorem aoM{x:R}{ts:List T}(h:x.tup?=some ts):x=.val (.tup ts)∨x=.val (.lst ts):=by
 unfold R.tup? at h
 split at h
 ·cases h;exact .inl rfl
 ·cases h;exact .inr rfl
 ·cases h
theorem am2{js:List Nat}{es:List Expr}{k:Nat}(hc:X.calm=true)(he:PE X e (tV G X C e'))(h:PGs X es (ag7 js))(hn:(assignEach es X.env).length=js.length)(hst:(assignEach es X.env).findIdx? (·.1)=none)
  (hs:swapsWithSole [.Tuple es k p] e pos.line X.env=pure false) (hw:swappedStores [.Tuple es k p] e X.env=pure none) (h1:(assignEach [.Tuple es k p] X.env).map (·.2)=[assign (.Tuple es k p) X.env]):
  PS X (.Assign [.Tuple es k p] e pos) (tS G X C (.asgT js e')):=by
 refine PS.imp (alB he (ah7 (G:=G) hc h hn hst) hs hw h1) ?_
 rintro D σV H ⟨w₀,H₀,w,σ,s,g,h⟩
 refine⟨w₀,H₀,w,σ,s,g,(abW g h).imp ?_⟩
 rintro v H1 ⟨w1,r,s1,L1,S1,R1,g1,q1⟩
 obtain⟨ts,ht,qa⟩:=abf q1
 obtain⟨σ2,hp,qb⟩:=abf qa
 rcases aoM ht with rfl|rfl
 ·exact⟨w1,s1,.tup ts,σ,σ2,S1,R1,hp,fun vs hf hl=>qb w1 H1 _ ⟨S1,hf H₀ σV g1.fr,g1.ent⟩ (LeS.puts hp hl)⟩
 ·exact⟨w1,s1,.lst ts,σ,σ2,S1,R1,hp,fun vs hf hl=>qb w1 H1 _ ⟨S1,hf H₀ σV g1.fr,g1.ent⟩ (LeS.puts hp hl)⟩
end
def Ite(a:Addr):It:=
 ⟨fun i H=>∃vs v,Rd H a (.lst vs)∧vs[i]?=some v,
  fun i H x H'=>∃T v,x=.ref T∧H T=none∧H'=upd H T (.tup [.int i,v])∧∀vs,Rd H a (.lst vs)→vs[i]?=some v,
  fun i H=>∃vs,Rd H a (.lst vs)∧vs.length≤i⟩
section
variable{G:Gx}{X:Cx}{C:Cf}{w w' w₀:Wo}{H H' H₀:Hp}{σ σ':Fr}{σV σV':St}{pos:Pos}
theorem aeY{pins:List (Addr×Obj)}{σ:St}{H:Hp}{s:Shared}{h':Heap}{t':Nat}{e it:Addr}(I:Inv X pins σ H s)(k:∀b o,b≠e→b≠it→s.heap.get? b=some o→h'.get? b=some o)(f1:aeb X pins H e)(f2:aeb X pins H it):
  Inv X pins σ H { s with heap:=h',toks:=t' }:=by
 have hf:∀b∈[e,it],aeb X pins H b:=fun b hb=>by
  rcases List.mem_cons.mp hb with rfl|hb
  ·exact f1
  ·have:b=it:=by simpa using hb
   subst this
   exact f2
 have k':∀b o,b∉[e,it]→s.heap.get? b=some o→h'.get? b=some o:=fun b o hb q=>k b o (fun z=>hb (by simp[z])) (fun z=>hb (by simp[z])) q
 have nit:∀b u,H b=some u→b∉[e,it]:=fun b u q z=>by rw[(hf b z).1]at q;cases q
 refine I.step (g':=s.gens) (d':=s.drawn) (ch:=[e,it]) (fun b hb=>?_) (fun b o _ _ hc e _=>k' b o hc e) (fun b o _ _ hc e _=>⟨o.slots,k' b o hc e⟩) (fun _ _ _ _ n=>n)
  (fun b o hc e=>⟨o,k' b o hc e⟩) (fun _ _ e=>e) (fun _ _ _ e=>e) (fun b ps e=>⟨#[],by rw[e];simp⟩) (fun m hm=>?_) (fun b u e=>?_) I.bare
 ·obtain⟨_,g1,g2,g3,g4,g5⟩:=hf b hb
  exact⟨g3,g1,g4,g5⟩
 ·obtain⟨o,es,ep,ho,r⟩:=hm
  exact⟨o,es,ep,k' _ o (fun z=>(hf _ z).2.1 rfl) ho,r⟩
 ·refine(I.hok b u e).stay (fun c v hc q=>k' c v ?_ q) (fun _ q=>q) fun _ _ q=>q
  rcases hc with z|z
  ·rw[z];exact nit b u e
  ·exact nit c _ z
theorem ai6{P:Program}{w:World}{K:PySem.W.Frag}{es:List Expr}{k:Nat}{p:Pos}(a e it:Addr)(hei:e≠it):Turn P w K (.Tuple es k p) (Ite a) [e,it] e (fun i h=>(∃old,IsEnum h e it i old)∧h.IsListIter it a i)where
 mem:=by simp
 obj:=fun i h ⟨⟨old,he⟩,hit⟩ b hb=>by
  rcases List.mem_cons.mp hb with rfl|hb
  ·exact⟨_,he,fun v z=>by cases z⟩
  ·have:b=it:=by simpa using hb
   subst this
   obtain⟨o,e1,c,d⟩:=hit
   exact⟨o,e1,fun v z=>by rw[d]at z;cases z⟩
 keep:=fun i h h' ⟨⟨old,he⟩,hit⟩ k=>⟨⟨old,k e (by simp) _ he⟩,hit.at fun o x=>k it (by simp) o x⟩
 item:=by
  intro X hP hw hK hc i pins s σ H E I hf ⟨⟨old,he⟩,hit⟩ ⟨vs,v,hr,hx⟩
  subst hP hw hK
  obtain⟨its,rv,p⟩:=aaF I hr
  obtain⟨u,hu,ru⟩:=rv.get hx
  have f1:=hf e (by simp)
  have f2:=hf it (by simp)
  have le:e<s.heap.objs.size:=Heap.lt_size he
  have li:it<s.heap.objs.size:=by obtain⟨o,q,_⟩:=hit;exact Heap.lt_size q
  refine wpAny_pyNext_enum_item he hit p (x:=u) (by simpa using hu) hei fun h1 ho hit1 hT hsz hk=>⟨_,rfl,?_⟩
  refine wpAny_letOwnedTupleGo_enum ho fun h2 he2 hs2=>?_
  have hn:H s.heap.objs.size=none:=I.hok.fresh (Nat.le_refl _)
  have I1:Inv X pins σ (upd H s.heap.objs.size (.tup [.int i,v])) { s with heap:=s.heap.push { cls:=.type "tuple",data:=.seq #[.int i s.toks,u] },toks:=s.toks+1 }:=by
   refine I.laid (fun b o q=>Heap.get?_push_of_some _ q) (Nat.le_refl _) ⟨show 2≤sizeLine by decide,[.int i s.toks,u],.cons ⟨_,rfl⟩ (.cons ru .nil),?_⟩
   exact⟨_,Heap.get?_push_size _ rfl,rfl,_,rfl⟩
  have fp:∀b∈[e,it],aeb X pins (upd H s.heap.objs.size (.tup [.int i,v])) b:=fun b hb=>by
   refine⟨?_,(hf b hb).2⟩
   have:b≠s.heap.objs.size:=by
    rcases List.mem_cons.mp hb with rfl|hb
    ·exact Nat.ne_of_lt le
    ·have:b=it:=by simpa using hb
     subst this
     exact Nat.ne_of_lt li
   rw[aah this]
   exact(hf b hb).1
  have I2:Inv X pins σ (upd H s.heap.objs.size (.tup [.int i,v])) { s with heap:=h2,toks:=s.toks+1 }:=by
   refine aeY (s:={ s with heap:=s.heap.push { cls:=.type "tuple",data:=.seq #[.int i s.toks,u] },toks:=s.toks+1 }) I1 (fun b o n1 n2 q=>?_) (fp e (by simp)) (fp it (by simp))
   rcases Heap.get?_push_cases q with⟨rfl,rfl⟩|q
   ·exact(hs2.2 _ (Nat.ne_of_gt le)).trans hT
   ·exact(hs2.2 b n1).trans (hk b o n1 n2 q)
  refine⟨.ref s.heap.objs.size,_,I2,rfl,⟨_,v,rfl,hn,rfl,fun ws hw=>?_⟩,⟨⟨u,by simpa using he2⟩,hit1.at fun o q=>(hs2.2 it hei.symm).trans q⟩,fun b hb=>(fp b hb).1⟩
  have:ws=vs:=by
   obtain⟨its2,rv2,p2⟩:=aaF I hw
   obtain⟨o1,e1,_,n1,d1⟩:=p
   obtain⟨o2,e2,_,n2,d2⟩:=p2
   rw[e1]at e2
   cases e2
   rw[d1]at d2
   injection d2 with d3 _
   have:its=its2:=by simpa using congrArg Array.toList d3
   subst this
   exact rv2.inj rv
  rw[this];exact hx
 done:=by
  intro X hP hw hK hc i pins s σ H E I hf ⟨⟨old,he⟩,hit⟩ ⟨vs,hr,hx⟩
  subst hP hw hK
  obtain⟨its,rv,p⟩:=aaF I hr
  have hl:=rv.length
  obtain⟨f0,f1,f2,f3,f4,f5⟩:=hf it (by simp)
  exact wpAny_pyNext_enum_end (I.ok.hd hc) he hit p (by simp;omega) fun h' eb=>⟨rfl,I.turned (t':=s.toks) (fun b o hb q=>eb b o hb q) f0 f1 f3 f4 f5⟩
 self:=fun _ _ _ _ _ ⟨⟨old,he⟩,_⟩ h=>wpAny_pyIter_enum he h
theorem adg:bootBuiltins "enumerate"=some (.type "enumerate"):=by decide +kernel
theorem amm{es:List Expr}{k:Nat}{p1:Pos}{a:Expr}{ta:TA}{p pos:Pos}(hg:Gl X "enumerate")(hm:X.mg "enumerate"=none)(ha:PA X [a] ta)(hs:starEach [a] X.env=[(false,eval a X.env)]):
  PI X (.Tuple es k p1) (.Call (.Name "enumerate" p) [a] [] pos) (fun σ H R=>ta σ H fun vs H1=>∃b,vs=[.ref b]∧(∃xs,Rd H1 b (.lst xs))∧R (Ite b) H1):=by
 intro pins s σ H R I h
 refine PyProof.Rows.Call_ (adm I hg hm adg (PyProof.Rows.callWith_type1 (thn (ha pos pins s σ H _ I h) fun us s1 ⟨vs,H1,I1,r1,q1⟩=>?_) hs rfl))
 obtain⟨b,e,⟨xs,hr⟩,q⟩:=q1
 subst e
 cases r1 with
 | cons r rr=>
  cases rr
  cases r
  obtain⟨_,its,n,rv,_,e⟩:=Rd.lst I1 hr
  refine call_enumerate_1 e fun h' he hit hsz hk=>wpAny_pyIter_enum he ?_
  have I2:Inv X pins σ H1 { s1 with heap:=h' }:=I1.kept (t':=s1.toks) hk
  refine⟨_,[s1.heap.objs.size+1,s1.heap.objs.size],_,_,H1,rfl,I2,ai6 b _ _ (Nat.succ_ne_self _),⟨⟨_,he⟩,hit⟩,fun c hc=>?_,q⟩
  have:s1.heap.objs.size≤c:=by
   rcases List.mem_cons.mp hc with rfl|hc
   ·exact Nat.le_succ _
   ·have:c=s1.heap.objs.size:=by simpa using hc
    exact Nat.le_of_eq this.symm
  exact I1.fpOk this (I1.hok.fresh this)
end
theorem afu:∀(ts:List T) (n i:Nat),(enT n ts)[i]?=ts[i]?.map fun t=>T.tup [.int ((n+i:Nat):Int),t]
 | [],n,i=>by simp[enT]
 | t::ts,n,0=>by simp[enT]
 | t::ts,n,i+1=>by
  have:=afu ts (n+1) i
  simp only[enT,List.getElem?_cons_succ,this]
  congr 1
  funext u
  have:n+1+i=n+(i+1):=by omega
  rw[this]
theorem adT:∀(ts:List T) (n:Nat),(enT n ts).length=ts.length
 | [],_=>rfl
 | t::ts,n=>by simp[enT,adT ts]
section
variable{G:Gx}{X:Cx}{C:Cf}{w w' w₀:Wo}{H H' H₀:Hp}{σ σ':Fr}{σV σV':St}{pos:Pos}
theorem akA{js:List Nat}{b':List S}{D:Ends}{a:Addr}{vs:List V}{ts:List T}{s:Sto}(gd:Good G w₀ H₀ w H σ s σV)(SO:aaT G w H true (.l a vs) ts)
  (h:aan G X w₀ H₀ w H σ σV (abH (.many js) (fun σ s=>exs C b' σ s) (enT 0 ts) σ s) D):
  ∃W:Nat→Nat→St→Hp→Prop,(∃m,W 0 m σV H)∧∀i m σV H,W i m σV H→
   ((Ite a).stop i H∧D.nx σV H)∨((Ite a).go i H∧∃N:St→Hp→Prop,(∀σ' H',N σ' H'→∃m',m'<m∧W (i+1) m' σ' H')∧∀x H',(Ite a).yld i H x H'→gTg G (.many js) x σV H' fun σ2 H2=>tSs G X C b' { D with nx:=N,ct:=N,bk:=D.nx } σ2 H2):=by
 refine⟨fun i m σV1 H1=>∃w1 σ1 s1,m=ts.length-i∧i≤ts.length∧Good G w₀ H₀ w1 H1 σ1 s1 σV1∧aaT G w1 H1 true (.l a vs) ts∧aan G X w₀ H₀ w1 H1 σ1 σV1 (abH (.many js) (fun σ s=>exs C b' σ s) ((enT 0 ts).drop i) σ1 s1) D,
  ⟨ts.length,w,σ,s,rfl,Nat.zero_le _,gd,SO,h⟩,?_⟩
 rintro i m σV1 H1 ⟨w1,σ1,s1,hm,hi,g1,SO1,h1⟩
 by_cases hlt:i<ts.length
 ·refine .inr ?_
  have et:ts[i]?=some ts[i]:=List.getElem?_eq_getElem hlt
  have hl2:i<(enT 0 ts).length:=by rw[adT];exact hlt
  have ed:(enT 0 ts).drop i=T.tup [.int (i:Int),ts[i]]::(enT 0 ts).drop (i+1):=by
   rw[List.drop_eq_getElem_cons hl2]
   congr 1
   have:=afu ts 0 i
   rw[et,List.getElem?_eq_getElem hl2]at this
   simpa using this
  rw[ed]at h1
  obtain⟨σ2,hb,h1⟩:=abf (show aan G X w₀ H₀ w1 H1 σ1 σV1 (onS (aal σ1 (.many js) (T.tup [.int (i:Int),ts[i]])) fun σ'=>(exs C b' σ' s1).bind fun σ2 s2=>abH (.many js) (fun σ s=>exs C b' σ s) ((enT 0 ts).drop (i+1)) σ2 s2) D from h1)
  obtain⟨r1,r2,r3,r4⟩:=id SO1
  obtain⟨v,ev,rv⟩:=r2.get et
  refine⟨⟨vs,v,r1,ev⟩,fun σV3 H3=>∃w3 σ3 s3,Good G w₀ H₀ w3 H3 σ3 s3 σV3∧aaT G w3 H3 true (.l a vs) ts∧aan G X w₀ H₀ w3 H3 σ3 σV3 (abH (.many js) (fun σ s=>exs C b' σ s) ((enT 0 ts).drop (i+1)) σ3 s3) D,fun σV3 H3 ⟨w3,σ3,s3,q1,q2,q3⟩=>⟨ts.length-(i+1),by omega,w3,σ3,s3,rfl,hlt,q1,q2,q3⟩,fun x H' hy=>?_⟩
  obtain⟨T₁,v',ex,hn,rfl,hv⟩:=hy
  subst ex
  have:v'=v:=by
   have:=hv vs r1
   rw[ev]at this
   exact(Option.some.inj this).symm
  subst this
  have L1:Le w1 w1 H1 (L2.upd H1 T₁ (.tup [.int i,v'])):=Le.new hn _
  have S1:=g1.sto.new hn (.tup [.int i,v'])
  have g1':=g1.step L1 S1
  have rT:Rep G w1 (L2.upd H1 T₁ (.tup [.int i,v'])) (T.tup [.int (i:Int),ts[i]]) (.ref T₁):=⟨T₁,_,rfl,aaq,⟨_,_,rfl,rfl,_,_,rfl,Rep.mono L1 g1.sto _ _ rv,rfl⟩⟩
  refine⟨w1,s1,_,σ1,σ2,S1,rT,hb,fun us hfr hl=>?_⟩
  have g2:Good G w₀ H₀ w1 (L2.upd H1 T₁ (.tup [.int i,v'])) σ2 s1 (aaX σV1 js us):=⟨S1,hfr H₀ σV1 g1'.fr,g1'.ent⟩
  have l2:LeS w1 w1 H1 (L2.upd H1 T₁ (.tup [.int i,v'])) σ1 σ2 σV1 (aaX σV1 js us):=(LeS.of L1).trans (LeS.puts (show puts σ1 js [.int (i:Int),ts[i]]=some σ2 from hb) hl)
  obtain⟨SO2,SF2⟩:=aaT.monoS (src:=.l a vs) l2 g1.sto g1.fr (g1.fr.notOwnZ (r4 rfl)) SO1
  refine⟨w₀,H₀,w1,σ2,s1,g2,?_⟩
  cases hx:exs C b' σ2 s1 with
  | stuck=>rw[hx]at h1;exact h1
  | ret r s3=>rw[hx]at h1;exact h1
  | retO ts s3=>rw[hx]at h1;exact h1
  | exc d σ3 s3=>rw[hx]at h1;exact fun w3 H3 σV3 pins u sh g3 L3 T=>h1 w3 H3 σV3 pins u sh g3 (l2.trans L3) T
  | next σ3 s3=>
   rw[hx]at h1
   intro w3 H3 σV3 g3 L3
   obtain⟨SO3,SF3⟩:=aaT.monoS (src:=.l a vs) L3 g2.sto g2.fr SF2 SO2
   exact⟨w3,σ3,s3,g3,SO3,aan.mono (l2.trans L3) h1⟩
 ·have ei:i=ts.length:=by omega
  subst ei
  have:(enT 0 ts).drop ts.length=[]:=List.drop_of_length_le (Nat.le_of_eq (adT ts 0))
  rw[this]at h1
  obtain⟨r1,r2,r3,r4⟩:=SO1
  exact .inl ⟨⟨vs,r1,by rw[r2.length];exact Nat.le_refl _⟩,h1 w1 H1 σV1 g1 LeS.refl⟩
theorem ao4{es:List Expr}{k:Nat}{p p1 p2:Pos}{a:Expr}{a':E}{js:List Nat}{b:List Stmt}{b':List S}(hp:PassesOwn (model X.prog X.w) X.A X.env X.xe)(hc:X.calm=true)(hgl:Gl X "enumerate")(hmg:X.mg "enumerate"=none)(ha:PE X a (tV G X C a'))
  (hst:starEach [a] X.env=[(false,eval a X.env)]) (hg:PG X (.Tuple es k p1) (gTg G (.many js))) (hb:PSs X b (tSs G X C b')) (hs:∀x,foldedSetIterable (.Call (.Name "enumerate" p) [a] [] p2) X.env x=pure x):
  PS X (.For (.Tuple es k p1) (.Call (.Name "enumerate" p) [a] [] p2) b [] pos) (tS G X C (.for_ (.many js) (.enm a') b')):=by
 refine PS.imp (alI hp hc (amm hgl hmg (aa2 ha aaZ hst) hst) hg hb hs) ?_
 rintro D σV H ⟨w₀,H₀,w,σ,s,gd,h⟩
 have h:aan G X w₀ H₀ w H σ σV (((ev C a' .v σ s).bind fun x s1=>onL x fun ts=>.ok (.val (.lst (enT 0 ts))) s1).st σ fun x s1=>onS x.lst? fun ts=>abH (.many js) (fun σ s=>exs C b' σ s) ts σ s1) D:=h
 refine⟨w₀,H₀,w,σ,s,gd,?_⟩
 cases he:ev C a' .v σ s with
 | stuck=>rw[he]at h;exact h.elim
 | exc c s1=>rw[he]at h;exact fun w1 H1 pins u sh L S T=>h w1 H1 σV pins u sh (gd.step L S) (LeS.of L) T
 | ok x s1=>
  rw[he]at h
  intro w1 H1 v L S R1
  match x,R1,h with
  | .val (.lst ts),⟨a,vs,e,z,r,q⟩,h=>
   subst e
   have h:aan G X w₀ H₀ w H σ σV (abH (.many js) (fun σ s=>exs C b' σ s) (enT 0 ts) σ s1) D:=h
   exact⟨a,rfl,⟨vs,r⟩,akA (gd.step L S) ⟨r,q,S.zLoc z,fun _=>z⟩ (aan.mono (LeS.of L) h)⟩
  | .val .non,_,h=>exact h.elim
  | .val (.bl _),_,h=>exact h.elim
  | .val (.str _),_,h=>exact h.elim
  | .val (.tup _),_,h=>exact h.elim
  | .val (.int _),_,h=>exact h.elim
  | .val (.loc _),_,h=>exact h.elim
  | .val (.exc _),_,h=>exact h.elim
  | .bor _,_,h=>exact h.elim
end
section
variable{G:Gx}{X:Cx}{C:Cf}{a b e:Expr}{a' b' e':IP.E}{pos p p2:Pos}
theorem amX{f:T→Sto→Res (Option T)}{m:Res R}{r:R}{s1:Sto}(h:(m.bind fun x s1=>onL x fun ts=>(aat f ts s1).bind fun q s2=>.ok (.val (.lst q)) s2)=.ok r s1):∃ts,r=.val (.lst ts):=by
 cases m with
 | stuck=>cases h
 | exc c s=>cases h
 | ok x s=>
  replace h:(onL x fun ts=>(aat f ts s).bind fun q s2=>.ok (.val (.lst q)) s2)=.ok r s1:=h
  unfold onL at h
  split at h
  ·rename_i ts
   replace h:((aat f ts s).bind fun q s2=>.ok (.val (.lst q)) s2)=.ok r s1:=h
   cases hm:aat f ts s with
   | stuck=>rw[hm]at h;cases h
   | exc c s=>rw[hm]at h;cases h
   | ok q s2=>rw[hm]at h;cases h;exact⟨q,rfl⟩
  ·cases h
theorem ah3{elt it:IP.E}{g:Tg}{σ:Fr}{s:Sto}{r:R}{s1:Sto}(h:ev C (.comp elt g it) .v σ s=.ok r s1):∃ts,r=.val (.lst ts):=amX h
theorem apn{σ:Fr}{s:Sto}{r:R}{s1:Sto}(h:ev C (.rev a') .v σ s=.ok r s1):∃ts,r=.val (.lst ts):=by
 have h:(ev C a' .v σ s).bind (fun x s1=>.of (x.seq.map fun ts=>.val (.lst ts.reverse)) s1)=.ok r s1:=h
 cases hq:ev C a' .v σ s with
 | stuck=>rw[hq]at h;cases h
 | exc c s2=>rw[hq]at h;cases h
 | ok rs s2=>
  rw[hq]at h
  have h:Res.of (rs.seq.map fun ts=>.val (.lst ts.reverse)) s2=.ok r s1:=h
  cases hs:rs.seq with
  | none=>rw[hs]at h;cases h
  | some ts=>rw[hs]at h;cases h;exact⟨_,rfl⟩
variable{i:Nat}{x:Str}{pos':Pos}
end
def nth{α:Type}:List α→α→Nat→α
 | [],z,_=>z
 | a::_,_,0=>a
 | _::r,z,n+1=>nth r z n
theorem aqa{G:Gx}{P:Program}{w:World}{K:PySem.W.Frag}{mg:Str→Option Value}{base:Heap}{k:Nat}{f:Addr}{fd:FuncData}{ps:List Str}{sp:Sp}(F:FnOk P w K mg base (CXE G P w base) k f fd ps sp):FnOk P w K mg base CX0 k f fd ps (fun vs H Q _=>sp vs H Q fun _ _ _=>False):=by
 refine⟨fun vs H Q E h=>F.len vs H Q _ h,fun A outer s H args us vs Q E hr e0 hb hv h=>codeAny_mono (F.run A outer s H args us vs Q (fun _ _ _=>False) hr e0 hb hv h) fun r s' q=>?_⟩
 cases r with
 | ok fl=>
  cases fl with
  | ret u=>exact q
  | next=>exact q
  | brk=>exact q
  | cont=>exact q
 | error e=>
  obtain⟨a,cls,t,H',h,B,_,_,_,_,_,_,_,_,z⟩:=q
  exact z
section
variable{G:Gx}{X:Cx}{C:Cf}
@[irreducible] def HE (X:Cx) (e:Expr) (t:TE):Prop:=PE X e t
theorem afB{a:Expr}{a':IP.E}(ha:HE X a (tO G X C a')):HE X a (tV G X C (.cell a')):=by
 unfold HE at *
 exact ai7 ha
end
theorem apP{G:Gx}{P:Program}{w:World}{K:PySem.W.Frag}{mg:Str→Option Value}{base:Heap}{fs:List Fn}{sub:Nat→Nat→Bool}{k fi:Nat}{x qual:Str}{st:Stmt}{f:Addr}{fd:FuncData}{N ps:List Str}{F:Fn}(Fu:FunD K x qual st f fd)(S:FnScope N ps (defScope st))(hF:fs[fi]?=some F)(hp:F.pars=ps.length)(hs:F.size=N.length)
  (hbody:∀(cdv:Value) (A:Around) (outer:List Env) (s:Shared) (H:Hp) (E:XK),Room (2*k+1) (A.deeper (PyProof.Rows.envOfC qual (defScope st) s.heap.objs.size f cdv))→(A.deeper (PyProof.Rows.envOfC qual (defScope st) s.heap.objs.size f cdv)).units+9<cLine→
   PassesOwn (model P w) (A.deeper (PyProof.Rows.envOfC qual (defScope st) s.heap.objs.size f cdv)) (PyProof.Rows.envOfC qual (defScope st) s.heap.objs.size f cdv) (aek (CXE G P w base) P w K mg base N qual (defScope st) f cdv A outer s H E).xe→
   PSs (aek (CXE G P w base) P w K mg base N qual (defScope st) f cdv A outer s H E) (defBody st) (tSs G (aek (CXE G P w base) P w K mg base N qual (defScope st) f cdv A outer s H E) (cfX fs sub k) F.body)):
  FnOk P w K mg base (CXE G P w base) (2*(k+1)) f fd ps (spG G (run true fs sub aac (k+1)) (adR fs) fi):=
 aqJ Fu S hF hp hs fun cdv A outer s H E hr=>hbody cdv A outer s H E hr (Nat.lt_of_le_of_lt (Nat.add_le_add_left (by decide:9≤64) _) hr.units) (acu (X:=aek (CXE G P w base) P w K mg base N qual (defScope st) f cdv A outer s H E) rfl)
def arl:Nat→(List Value→Prop)→Prop
 | 0,p=>p []
 | n+1,p=>∀a,arl n fun us=>p (a::us)
theorem atB:∀(n:Nat) {p:List Value→Prop},arl n p→∀us,us.length=n→p us
 | 0,p,h,us,hl=>by rw[List.length_eq_zero_iff.mp hl];exact h
 | n+1,p,h,us,hl=>by
  cases us with
  | nil=>cases hl
  | cons a us=>exact atB n (h a) us (Nat.succ.inj hl)
theorem lenB{K:PySem.W.Frag}{fd:FuncData}{ps:List Str}{ds:List Value}(n:Nat)(h:arl n fun us=>∀s:Shared,K.In s.heap→BindsTo s fd ⟨us,[]⟩ (ps.zip (us++ds)))(hn:n+ds.length=ps.length):Binds K fd ps ds:=fun s us X hl=>atB n (p:=fun us=>∀s:Shared,K.In s.heap→BindsTo s fd ⟨us,[]⟩ (ps.zip (us++ds))) h us (by rw[List.length_append]at hl;omega) s X
structure PV where
 (oc:Value) (od:Option Addr) (kV dc pm:Value) (an:Option Addr) (cd ct:Value) (sl:Array (Option Value))
structure FH(K:PySem.W.Frag)(x q:Str)(st:Stmt)(dv:Value)(f:Addr)(v:PV):Prop where
 a:PySem.W.nsIn K mainGlobals x=some (some (.ref f))
 l:K.lookup f=some ⟨v.oc,v.od,.func (PySem.W.fnOf x q (defArgs st) (defBody st) (defScope st) dv v.kV v.dc v.pm v.an v.cd v.ct),v.sl⟩
 c:PySem.W.codeIn K v.cd q=true
 k:PySem.W.keepIn K (.ref f)=true
structure FM(K:PySem.W.Frag)(C:Addr)(x q:Str)(st:Stmt)(dv:Value)(f:Addr)(v:PV):Prop where
 a:PySem.W.findIn K (.ref C) x=some (some (.ref f))
 i:PySem.W.isFn K (.ref f)=true
 l:K.lookup f=some ⟨v.oc,v.od,.func (PySem.W.fnOf x q (defArgs st) (defBody st) (defScope st) dv v.kV v.dc v.pm v.an v.cd v.ct),v.sl⟩
 c:PySem.W.codeIn K v.cd q=true
 k:PySem.W.keepIn K (.ref f)=true
theorem FH.of{K:PySem.W.Frag}{x q:Str}{st:Stmt}{dv:Value}{f:Addr}{oc:Value}{od:Option Addr}{kV dc pm:Value}{an:Option Addr}{cd ct:Value}{sl:Array (Option Value)}(a:PySem.W.nsIn K mainGlobals x=some (some (.ref f)))
  (l:K.lookup f=some ⟨oc,od,.func (PySem.W.fnOf x q (defArgs st) (defBody st) (defScope st) dv kV dc pm an cd ct),sl⟩) (c:PySem.W.codeIn K cd q=true) (k:PySem.W.keepIn K (.ref f)=true):FH K x q st dv f ⟨oc,od,kV,dc,pm,an,cd,ct,sl⟩:=⟨a,l,c,k⟩
theorem FM.of{K:PySem.W.Frag}{C:Addr}{x q:Str}{st:Stmt}{dv:Value}{f:Addr}{oc:Value}{od:Option Addr}{kV dc pm:Value}{an:Option Addr}{cd ct:Value}{sl:Array (Option Value)}(a:PySem.W.findIn K (.ref C) x=some (some (.ref f)))(i:PySem.W.isFn K (.ref f)=true)
  (l:K.lookup f=some ⟨oc,od,.func (PySem.W.fnOf x q (defArgs st) (defBody st) (defScope st) dv kV dc pm an cd ct),sl⟩) (c:PySem.W.codeIn K cd q=true) (k:PySem.W.keepIn K (.ref f)=true):FM K C x q st dv f ⟨oc,od,kV,dc,pm,an,cd,ct,sl⟩:=⟨a,i,l,c,k⟩
structure FD(K:PySem.W.Frag)(x q:Str)(st:Stmt)(ps:List Str)(E:Addr→Prop)where
 f:Addr
 d:FuncData
 t:FunD K x q st f d
 b:Binds K d ps []
 e:E f
abbrev Vv(G:Gx)(fs:List Fn)(sub:Nat→Nat→Bool)(k:Nat)(X:Cx)(e:Expr)(a:IP.E):Prop:=PE X e (tV G X (cfX fs sub k) a)
abbrev Vo(G:Gx)(fs:List Fn)(sub:Nat→Nat→Bool)(k:Nat)(X:Cx)(e:Expr)(a:IP.E):Prop:=PE X e (tO G X (cfX fs sub k) a)
abbrev Vt(G:Gx)(fs:List Fn)(sub:Nat→Nat→Bool)(k:Nat)(X:Cx)(e:Expr)(a:IP.E):Prop:=PT X e (tT G X (cfX fs sub k) a)
abbrev Vs(G:Gx)(fs:List Fn)(sub:Nat→Nat→Bool)(k:Nat)(X:Cx)(e:Stmt)(a:S):Prop:=PS X e (tS G X (cfX fs sub k) a)
abbrev Vz(G:Gx)(fs:List Fn)(sub:Nat→Nat→Bool)(k:Nat)(X:Cx)(e:List Stmt)(a:List S):Prop:=PSs X e (tSs G X (cfX fs sub k) a)
theorem nt{p:Prop}(h:false=true):p:=(Bool.false_ne_true h).elim
def keq(x y:Str):Bool:=x.cps.toList==y.cps.toList
theorem abg{x y:Str}(h:keq x y=true):x=y:=by
 cases x;cases y
 exact congrArg _ (Array.toList_inj.mp (eq_of_beq h))
theorem af5{x:Str}:keq x x=true:=beq_self_eq_true _
theorem acR{x y:Str}:(x==y)=keq x y:=by
 cases h:keq x y with
 | true=>rw[abg h];exact beq_self_eq_true _
 | false=>exact beq_false_of_ne fun e=>by rw[e,af5]at h;cases h
def lk{α:Type}:List (Str×α)→Str→Option α
 | [],_=>none
 | (y,a)::r,x=>bif keq x y then some a else lk r x
theorem aeS{α:Type}:∀(l:List (Str×α)) (x:Str),l.lookup x=lk l x
 | [],_=>rfl
 | (y,a)::r,x=>by
  rw[List.lookup_cons,lk,acR,aeS r x]
  cases keq x y<;>rfl
theorem ae0{α:Type}:∀{l:List (Str×α)}{x:Str}{a:α},lk l x=some a→(x,a)∈l
 | (y,b)::r,x,a,h=>by
  rw[lk]at h
  cases hk:keq x y with
  | true=>rw[hk]at h;cases h;rw[abg hk];exact List.mem_cons_self
  | false=>rw[hk]at h;exact List.mem_cons_of_mem _ (ae0 h)
def isK(o:Option NameKind)(k:NameKind):Bool:=match o with|some q=>decide (q=k)|none=>false
theorem ab1{o:Option NameKind}{k:NameKind}(h:isK o k=true):o=some k:=by
 cases o with
 | none=>cases h
 | some q=>rw[of_decide_eq_true h]
def ifS{α:Type}(o:Option α)(f:α→Bool):Bool:=match o with|some a=>f a|none=>false
theorem aa5{α:Type}{o:Option α}{f:α→Bool}(h:ifS o f=true):∃a,o=some a∧f a=true:=by
 cases o with
 | none=>cases h
 | some a=>exact⟨a,rfl,h⟩
theorem aae{a b:Bool}(h:(a&&b)=true):a=true∧b=true:=by
 rw[Bool.and_eq_true]at h;exact h
inductive Gk where
 | blt|fn (i:Nat)|cls (c i:Nat)|exc (c:Nat)|int (i:Int)
structure Tab where
 g:List (Str×Gk)
 m:List (Str×Nat×Nat)
 d:List (Nat×List (List T))
 nm:List (List Str)
 rs:List Nat
 ct:List Nat
 ix:List Nat
def dfl(tb:Tab)(i:Nat):List (List T):=match tb.d.lookup i with|some l=>l|none=>[]
def anH:T→T→Bool
 | .non,.non=>true
 | .bl a,.bl b=>a==b
 | .int a,.int b=>decide (a=b)
 | .str a,.str b=>keq a b
 | _,_=>false
theorem afK{a b:T}(h:anH a b=true):a=b:=by
 cases a<;>cases b<;>first|(cases h;done)|rfl|(rw[eq_of_beq (h:(_==_)=true)];done)|(rw[of_decide_eq_true (h:decide (_=_)=true)];done)|(rw[abg h];done)
def amn:List T→List T→Bool
 | [],[]=>true
 | a::r,b::q=>anH a b&&amn r q
 | _,_=>false
theorem ag2:∀{a b:List T},amn a b=true→a=b
 | [],[],_=>rfl
 | a::r,b::q,h=>by rw[afK (aae h).1,ag2 (aae h).2]
def akl:List (List T)→List T→Bool
 | [],_=>false
 | a::r,b=>amn a b||akl r b
theorem aen:∀{l:List (List T)}{b:List T},akl l b=true→b∈l
 | a::r,b,h=>by
  rw[akl,Bool.or_eq_true]at h
  rcases h with h|h
  ·rw[ag2 h];exact List.mem_cons_self
  ·exact List.mem_cons_of_mem _ (aen h)
def ave(P:Program)(w:World)(K:PySem.W.Frag)(mg:Str→Option Value)(base:Heap)(G:Gx)(fs:List Fn)(sub:Nat→Nat→Bool)(k:Nat)(tb:Tab)(i:Nat)(fa:Addr):Prop:=
 ∃fd ps,FnOk P w K mg base (CXE G P w base) (2*k) fa fd ps (spG G (cfX fs sub k).cf (cfX fs sub k).fr i)∧∀ts,ts=[]∨ts∈dfl tb i→∃(dvs:List V) (ds:List Value),ts.mapM cstV=some dvs∧Vals dvs ds∧Binds K fd ps ds
section
variable(K:PySem.W.Frag)(mg:Str→Option Value)(G:Gx)(sub:Nat→Nat→Bool)(tb:Tab)(F:Nat→Addr→Prop)
def avx(x:Str):Gk→Prop
 | .blt=>mg x=none
 | .fn i=>∃fa,mg x=some (.ref fa)∧PySem.W.keepIn K (.ref fa)=true∧F i fa
 | .cls c i=>mg x=some (.ref (G.iA c))∧∃fa,Mk K (G.iA c) fa∧F i fa
 | .exc c=>mg x=some (.ref (G.cA c))
 | .int i=>∃t,mg x=some (.int i t)
set_option genInjectivity false in
set_option genSizeOf false in
structure Hy:Prop where
 g:∀x q,lk tb.g x=some q→avx K mg G F x q
 db:∀x q,lk tb.g x=some q→(x==("__debug__":Str))=false
 m:∀x c i,lk tb.m x=some (c,i)→Cls K (G.iA c)∧∃fa,Meth K (G.iA c) x fa∧x∉G.nm c∧F i fa
 nm:∀c l,tb.nm[c]?=some l→G.nm c=l∧Cls K (G.iA c)∧l.Nodup∧l.length≤100∧∀x∈l,abb K (G.iA c) x
 rs:∀c∈tb.rs,PySem.W.excIn K (G.cA c) [.type "ValueError",.type "Exception",.type "BaseException",.type "object"] "ValueError.__new__"=true
 ct:∀c∈tb.ct,∀d,PySem.W.exmOne K (.ref (G.cA d)) (.ref (G.cA c))=some (sub d c)
 ix:∀c∈tb.ix,(∀d,ExcK K (G.cA d))∧∀d,PySem.W.kitOne K (.ref (G.cA d)) (.ref (G.cA c))=some (sub d c)
variable{K mg G sub tb F}
theorem Hy.mono{F':Nat→Addr→Prop}(h:Hy K mg G sub tb F)(H:∀i fa,F i fa→F' i fa):Hy K mg G sub tb F':=
 ⟨fun x q e=>by
  have z:=h.g x q e
  cases q with
  | fn i=>obtain⟨fa,a,b,c⟩:=z;exact⟨fa,a,b,H i fa c⟩
  | cls c i=>obtain⟨a,fa,b,d⟩:=z;exact⟨a,fa,b,H i fa d⟩
  | _=>exact z,h.db,fun x c i e=>let ⟨a,fa,b,c,d⟩:=h.m x c i e;⟨a,fa,b,c,H i fa d⟩,h.nm,h.rs,h.ct,h.ix⟩
end
structure Ga where
 N:List Str
 sc:List (Str×NameKind)
 fl:Bool
 calm:Bool
 top:Bool
set_option genInjectivity false in
set_option genSizeOf false in
structure In(G:Gx)(fs:List Fn)(sub:Nat→Nat→Bool)(k:Nat)(tb:Tab)(X:Cx)(g:Ga):Prop where
 N:X.N=g.N
 nd:g.N.Nodup
 dn:∀x∈g.N,(x==("__debug__":Str))=false∧(x==("__classdict__":Str))=false
 sc:X.env.scope.names=g.sc
 kd:X.env.scope.kind=.function
 fl:g.fl=true→∀x,X.fn x=true
 cm:g.calm=true→X.calm=true
 hu:X.A.units+9<cLine
 hr:g.calm=true→Room (2*k+1) X.A
 fr:af9 X
 hp:g.top=true→PassesOwn (model X.prog X.w) X.A X.env X.xe
 st:g.top=true→X.stack=X.env::X.outer∧X.env.frame=some X.env.locals
 ex:g.top=true→X.ex=[]
 hy:Hy X.K X.mg G sub tb (ave X.prog X.w X.K X.mg X.base G fs sub k tb)
def ajs(f:Str→Pos→Bool):Expr→Bool | .Name x p=>f x p | _=>false
theorem acp{e:Expr}{f:Str→Pos→Bool}(h:ajs f e=true):∃x p,e=.Name x p∧f x p=true:=by cases e<;>first|exact⟨_,_,rfl,h⟩|exact nt h
def amg(f:Const→Nat→Pos→Bool):Expr→Bool | .Constant c j p=>f c j p | _=>false
theorem aeZ{e:Expr}{f:Const→Nat→Pos→Bool}(h:amg f e=true):∃c j p,e=.Constant c j p∧f c j p=true:=by cases e<;>first|exact⟨_,_,_,rfl,h⟩|exact nt h
def aox(f:Expr→Operator→Expr→Pos→Bool):Expr→Bool | .BinOp l o r p=>f l o r p | _=>false
theorem ahD{e:Expr}{f:Expr→Operator→Expr→Pos→Bool}(h:aox f e=true):∃l o r p,e=.BinOp l o r p∧f l o r p=true:=by cases e<;>first|exact⟨_,_,_,_,rfl,h⟩|exact nt h
def arh(f:UnaryOp→Expr→Pos→Bool):Expr→Bool | .UnaryOp o l p=>f o l p | _=>false
theorem agr{e:Expr}{f:UnaryOp→Expr→Pos→Bool}(h:arh f e=true):∃o l p,e=.UnaryOp o l p∧f o l p=true:=by cases e<;>first|exact⟨_,_,_,rfl,h⟩|exact nt h
def awi(f:Expr→List CmpOp→List Expr→Pos→Bool):Expr→Bool | .Compare l o r p=>f l o r p | _=>false
theorem aoR{e:Expr}{f:Expr→List CmpOp→List Expr→Pos→Bool}(h:awi f e=true):∃l o r p,e=.Compare l o r p∧f l o r p=true:=by cases e<;>first|exact⟨_,_,_,_,rfl,h⟩|exact nt h
def awg(f:BoolOp→List Expr→Pos→Bool):Expr→Bool | .BoolOp o l p=>f o l p | _=>false
theorem als{e:Expr}{f:BoolOp→List Expr→Pos→Bool}(h:awg f e=true):∃o l p,e=.BoolOp o l p∧f o l p=true:=by cases e<;>first|exact⟨_,_,_,rfl,h⟩|exact nt h
def awC(f:Expr→Expr→Expr→Pos→Bool):Expr→Bool | .IfExp c a b p=>f c a b p | _=>false
theorem apK{e:Expr}{f:Expr→Expr→Expr→Pos→Bool}(h:awC f e=true):∃c a b p,e=.IfExp c a b p∧f c a b p=true:=by cases e<;>first|exact⟨_,_,_,_,rfl,h⟩|exact nt h
def anG(f:List Expr→Nat→Pos→Bool):Expr→Bool | .Tuple l j p=>f l j p | _=>false
theorem agc{e:Expr}{f:List Expr→Nat→Pos→Bool}(h:anG f e=true):∃l j p,e=.Tuple l j p∧f l j p=true:=by cases e<;>first|exact⟨_,_,_,rfl,h⟩|exact nt h
def avm(f:List Expr→Pos→Bool):Expr→Bool | .List l p=>f l p | _=>false
theorem aqB{e:Expr}{f:List Expr→Pos→Bool}(h:avm f e=true):∃l p,e=.List l p∧f l p=true:=by cases e<;>first|exact⟨_,_,rfl,h⟩|exact nt h
def arz(f:Expr→Expr→Pos→Bool):Expr→Bool | .Subscript a b p=>f a b p | _=>false
theorem ajn{e:Expr}{f:Expr→Expr→Pos→Bool}(h:arz f e=true):∃a b p,e=.Subscript a b p∧f a b p=true:=by cases e<;>first|exact⟨_,_,_,rfl,h⟩|exact nt h
def auE(f:Option Expr→Option Expr→Option Expr→Pos→Bool):Expr→Bool | .Slice a b c p=>f a b c p | _=>false
theorem anV{e:Expr}{f:Option Expr→Option Expr→Option Expr→Pos→Bool}(h:auE f e=true):∃a b c p,e=.Slice a b c p∧f a b c p=true:=by cases e<;>first|exact⟨_,_,_,_,rfl,h⟩|exact nt h
def atv(f:Expr→List Expr→List Keyword→Pos→Bool):Expr→Bool | .Call d l m p=>f d l m p | _=>false
theorem alz{e:Expr}{f:Expr→List Expr→List Keyword→Pos→Bool}(h:atv f e=true):∃d l m p,e=.Call d l m p∧f d l m p=true:=by cases e<;>first|exact⟨_,_,_,_,rfl,h⟩|exact nt h
def aqX(f:Expr→Str→Pos→Bool):Expr→Bool | .Attribute a x p=>f a x p | _=>false
theorem ahU{e:Expr}{f:Expr→Str→Pos→Bool}(h:aqX f e=true):∃a x p,e=.Attribute a x p∧f a x p=true:=by cases e<;>first|exact⟨_,_,_,rfl,h⟩|exact nt h
def ao3(f:Expr→List Comprehension→Scope→Pos→Bool):Expr→Bool | .ListComp a l s p=>f a l s p | _=>false
theorem ah0{e:Expr}{f:Expr→List Comprehension→Scope→Pos→Bool}(h:ao3 f e=true):∃a l s p,e=.ListComp a l s p∧f a l s p=true:=by cases e<;>first|exact⟨_,_,_,_,rfl,h⟩|exact nt h
def on1{α:Type}(f:α→Bool):List α→Bool | [x]=>f x | _=>false
theorem acG{α:Type}{l:List α}{f:α→Bool}(h:on1 f l=true):∃x,l=[x]∧f x=true:=by
 cases l with
 | nil=>exact nt h
 | cons x l=>cases l with
  | nil=>exact⟨x,rfl,h⟩
  | cons y l=>exact nt h
def on2{α:Type}(f:α→α→Bool):List α→Bool | [x,y]=>f x y | _=>false
theorem aqh{α:Type}{l:List α}{f:α→α→Bool}(h:on2 f l=true):∃x y,l=[x,y]∧f x y=true:=by
 cases l with
 | nil=>exact nt h
 | cons x l=>cases l with
  | nil=>exact nt h
  | cons y l=>cases l with
   | nil=>exact⟨x,y,rfl,h⟩
   | cons z l=>exact nt h
theorem abT{α:Type}{o:Option α}(h:o.isNone=true):o=none:=by cases o with
 | none=>rfl
 | some a=>exact nt h
theorem aef{α:Type}{l:List α}(h:l.isEmpty=true):l=[]:=by cases l with
 | nil=>rfl
 | cons a l=>exact nt h
def aaE:Expr→Bool | .Starred _ _=>false | _=>true
theorem aar{e:Expr}{r:List Expr}{v:Env}(h:aaE e=true):starEach (e::r) v=(false,eval e v)::starEach r v:=by cases e<;>first|rfl|exact(Bool.false_ne_true h.symm).elim|exact nt h
theorem ac1{pos:Pos}{v:Env}:∀{es:List Expr},es.all aaE=true→(backTo pos (starEach es v)).any (·.1)=false
 | [],_=>rfl
 | e::r,h=>by
  rw[List.all_cons]at h
  rw[aar (aae h).1]
  exact ac1 (aae h).2
section
variable{G:Gx}{fs:List Fn}{sub:Nat→Nat→Bool}{k:Nat}{tb:Tab}{X:Cx}{g:Ga}
def aiB(g:Ga)(x:Str):Bool:=match lk g.sc x with|some .local=>true|some .cell=>true|some .free=>true | _=>false
def akJ(g:Ga)(x:Str):Bool:=match lk g.sc x with|some .local=>true|some .cell=>g.fl | _=>false
def at? (g:Ga)(i:Nat)(x:Str):Bool:=match g.N[i]? with|some y=>keq y x|none=>false
section
variable(I:In G fs sub k tb X g)
include I
theorem aiL{i:Nat}{x:Str}(h:at? g i x=true):X.N[i]?=some x:=by
 rw[I.N]
 unfold at? at h
 cases e:g.N[i]? with
 | none=>rw[e]at h;cases h
 | some y=>rw[e]at h;rw[abg h]
theorem ajz{i:Nat}{x:Str}(h:X.N[i]?=some x):(x==("__debug__":Str))=false∧(x==("__classdict__":Str))=false:=by
 rw[I.N]at h
 exact I.dn x (List.mem_of_getElem? h)
theorem acN{x:Str}:X.env.scope.names.lookup x=lk g.sc x:=by rw[I.sc,aeS]
theorem alm{x:Str}(h:aiB g x=true):Vis X.env.scope x:=by
 unfold Vis
 rw[acN I]
 unfold aiB at h
 split at h<;>first|exact .inl ‹_› | exact .inr (.inl ‹_›)|exact .inr (.inr ‹_›)|cases h
theorem akW{x:Str}(h:akJ g x=true):L2.Loc X.env.scope x∧(X.fn x=true∨X.env.scope.names.lookup x=some .local):=by
 unfold L2.Loc
 rw[acN I]
 unfold akJ at h
 split at h
 ·exact⟨.inl ‹_›,.inr ‹_›⟩
 ·exact⟨.inr ‹_›,.inl (I.fl h x)⟩
 ·cases h
def ak4(tb:Tab)(g:Ga)(x:Str):Option Gk:=bif isK (lk g.sc x) .globalImplicit then lk tb.g x else none
theorem aeU{x:Str}{q:Gk}(h:ak4 tb g x=some q):Gl X x∧avx X.K X.mg G (ave X.prog X.w X.K X.mg X.base G fs sub k tb) x q∧(x==("__debug__":Str))=false:=by
 unfold ak4 at h
 cases hk:isK (lk g.sc x) .globalImplicit with
 | false=>rw[hk]at h;cases h
 | true=>
  rw[hk]at h
  exact⟨by unfold Gl Env.kindOf;rw[acN I,ab1 hk],I.hy.g x q h,I.hy.db x q h⟩
def isB(tb:Tab)(g:Ga)(x:Str):Bool:=match ak4 tb g x with|some .blt=>true | _=>false
theorem agy{x:Str}(h:isB tb g x=true):Gl X x∧X.mg x=none:=by
 unfold isB at h
 split at h
 ·rename_i e;exact⟨(aeU I e).1,(aeU I e).2.1⟩
 ·cases h
end
end
structure Rc where
 v:Ga→Expr→E→Bool
 t:Ga→Expr→E→Bool
 o:Ga→Expr→E→Bool
 s:Ga→List Stmt→List S→Bool
structure Sd(G:Gx)(fs:List Fn)(sub:Nat→Nat→Bool)(k:Nat)(tb:Tab)(r:Rc):Prop where
 v:∀{X g e e'},In G fs sub k tb X g→r.v g e e'=true→Vv G fs sub k X e e'
 t:∀{X g e e'},In G fs sub k tb X g→r.t g e e'=true→Vt G fs sub k X e e'
 o:∀{X g e e'},In G fs sub k tb X g→r.o g e e'=true→Vo G fs sub k X e e'
 s:∀{X g e e'},In G fs sub k tb X g→r.s g e e'=true→Vz G fs sub k X e e'
section
variable{G:Gx}{fs:List Fn}{sub:Nat→Nat→Bool}{k:Nat}{tb:Tab}{X:Cx}{g:Ga}{r:Rc}{e:Expr}{es:List Expr}
variable{a b c d:IP.E}{as:List IP.E}
def awb(g:Ga)(e:Expr)(i:Nat):Bool:=ajs (fun x _=>at? g i x&&aiB g x) e
section
variable(I:In G fs sub k tb X g)
include I
theorem axc{C:Cf}{i:Nat}(h:awb g e i=true):PE X e (tV G X C (.var i)):=by
 obtain⟨x,p,rfl,h⟩:=acp h
 have q:=aiL I (aae h).1
 exact api q (alm I (aae h).2) (ajz I q).1 (ajz I q).2
def kCs:Const→T→Bool
 | .int i,t=>anH (.int i) t
 | .bool i,t=>anH (.bl i) t
 | .none,t=>anH .non t
 | .str i,t=>anH (.str i) t
 | _,_=>false
def aty(e:Expr)(t:T):Bool:=amg (fun c _ _=>kCs c t) e
end
theorem ayc{C:Cf}{t:T}(h:aty e t=true):PE X e (tV G X C (.cst t)):=by
 obtain⟨c,j,p,rfl,h⟩:=aeZ h
 cases c<;>first|exact nt h|cases afK h
 ·exact ap4
 ·exact asP
 ·exact akS
 ·exact anX
def isInt(i:Int):Option Gk→Bool|some (.int j)=>decide (j=i) | _=>false
theorem alP{i:Int}{o:Option Gk}(h:isInt i o=true):o=some (.int i):=by
 cases o with
 | none=>exact nt h
 | some q=>cases q<;>first|exact nt h|rw[of_decide_eq_true h]
def awy(tb:Tab)(g:Ga)(e:Expr)(x:Str)(i:Int):Bool:=ajs (fun y _=>keq x y&&isInt i (ak4 tb g y)) e
section
variable(I:In G fs sub k tb X g)
include I
theorem axM{C:Cf}{x:Str}{i:Int}(h:awy tb g e x i=true):PE X e (tV G X C (.glb x i)):=by
 obtain⟨y,p,rfl,h⟩:=acp h
 cases abg (aae h).1
 obtain⟨z1,⟨t,z2⟩,z3⟩:=aeU I (alP (aae h).2)
 exact aq0 z1 z2 z3
end
def aqT(r:Rc)(g:Ga)(e:Expr)(o:Op)(a b:IP.E):Bool:=aox (fun l p q _=>decide (p=an7 o)&&(r.v g l a&&r.v g q b)) e
section
variable(R:Sd G fs sub k tb r)(I:In G fs sub k tb X g)
include R I
theorem ayv{o:Op}(h:aqT r g e o a b=true):Vv G fs sub k X e (.bin o a b):=by
 obtain⟨l,p,q,_,rfl,h⟩:=ahD h
 rw[of_decide_eq_true (aae h).1]
 exact ao1 o (R.v I (aae (aae h).2).1) (R.v I (aae (aae h).2).2)
def avT(r:Rc)(g:Ga)(e:Expr)(a:IP.E):Bool:=arh (fun o l _=>decide (o=.USub)&&r.v g l a) e
theorem awQ(h:avT r g e a=true):Vv G fs sub k X e (.neg a):=by
 obtain⟨o,l,_,rfl,h⟩:=agr h
 rw[of_decide_eq_true (aae h).1]
 exact al1 (R.v I (aae h).2)
def arf(f:Expr→Bool)(e:Expr):Bool:=arh (fun o l _=>decide (o=.Not)&&f l) e
theorem ayw(h:arf (fun l=>r.v g l a) e=true):Vv G fs sub k X e (.not a):=by
 obtain⟨o,l,_,rfl,h⟩:=agr h
 rw[of_decide_eq_true (aae h).1]
 exact apV (R.v I (aae h).2)
theorem atK(h:arf (fun l=>r.t g l a) e=true):Vt G fs sub k X e (.not a):=by
 obtain⟨o,l,_,rfl,h⟩:=agr h
 rw[of_decide_eq_true (aae h).1]
 exact apg (R.t I (aae h).2)
def anQ(r:Rc)(g:Ga)(e:Expr)(c:Cm)(a b:IP.E):Bool:=awi (fun l o q _=>on1 (fun o=>decide (o=akL c)) o&&on1 (fun q=>!behindInMarks (akL c) q&&(r.v g l a&&r.v g q b)) q) e
end
theorem ag3{c:Cm}(h:anQ r g e c a b=true):∃l q p,e=.Compare l [akL c] [q] p∧behindInMarks (akL c) q=false∧r.v g l a=true∧r.v g q b=true:=by
 obtain⟨l,o,q,p,rfl,h⟩:=aoR h
 obtain⟨o,rfl,h1⟩:=acG (aae h).1
 obtain⟨q,rfl,h2⟩:=acG (aae h).2
 rw[of_decide_eq_true h1]
 exact⟨l,q,p,rfl,(Bool.not_eq_true' _).mp (aae h2).1,aae (aae h2).2⟩
section
variable(R:Sd G fs sub k tb r)(I:In G fs sub k tb X g)
include R I
theorem axw{c:Cm}(h:anQ r g e c a b=true):Vv G fs sub k X e (.cmp c a b):=by
 obtain⟨l,q,p,rfl,hm,h1,h2⟩:=ag3 h
 exact aq1 I.hu c (R.v I h1) (R.v I h2) hm
theorem atx{c:Cm}(h:anQ r g e c a b=true):Vt G fs sub k X e (.cmp c a b):=by
 obtain⟨l,q,p,rfl,hm,h1,h2⟩:=ag3 h
 exact apt I.hu c (R.v I h1) (R.v I h2) hm
end
section
variable(R:Sd G fs sub k tb r)(I:In G fs sub k tb X g)
include R I
def kBo(f:Expr→IP.E→Bool)(op:BoolOp):List Expr→IP.E→Bool
 | [],_=>false
 | x::q,e'=>match q with
  | []=>f x e'
  | _::_=>match e' with
   | .and a b=>decide (op=.And)&&(f x a&&kBo f op q b)
   | .or a b=>decide (op=.Or)&&(f x a&&kBo f op q b)
   | _=>false
theorem awS{op:BoolOp}{pos:Pos}(es:List Expr):∀(e':IP.E),kBo (r.v g) op es e'=true→Vv G fs sub k X (.BoolOp op es pos) e':=by
 induction es with
 | nil=>exact fun _ h=>nt h
 | cons x q ih=>
  intro e' h
  cases q with
  | nil=>exact apI (R.v I h)
  | cons y q=>
   cases e'<;>first|exact nt h|(obtain⟨h1,h2⟩:=aae h;cases of_decide_eq_true h1)
   ·exact aqn (R.v I (aae h2).1) (ih _ (aae h2).2)
   ·exact asF (R.v I (aae h2).1) (ih _ (aae h2).2)
theorem ayt{op:BoolOp}{pos:Pos}(es:List Expr):∀(e':IP.E),kBo (r.t g) op es e'=true→PTb X op es pos (tT G X (cfX fs sub k) e'):=by
 induction es with
 | nil=>exact fun _ h=>nt h
 | cons x q ih=>
  intro e' h
  cases q with
  | nil=>
   cases op
   ·exact afw (R.t I h)
   ·exact ahk (R.t I h)
  | cons y q=>
   cases e'<;>first|exact nt h|(obtain⟨h1,h2⟩:=aae h;cases of_decide_eq_true h1)
   ·exact am3 (R.t I (aae h2).1) (ih _ (aae h2).2)
   ·exact aoz (R.t I (aae h2).1) (ih _ (aae h2).2)
def anK(f:Expr→IP.E→Bool)(e:Expr)(e':IP.E):Bool:=awg (fun op l _=>kBo f op l e') e
theorem rBo{e':IP.E}(h:anK (r.v g) e e'=true):Vv G fs sub k X e e':=by
 obtain⟨op,l,p,rfl,z⟩:=als h
 exact awS R I l e' z
theorem awx{e':IP.E}(h:anK (r.t g) e e'=true):Vt G fs sub k X e e':=by
 obtain⟨op,l,p,rfl,z⟩:=als h
 exact PW.pt (ayt R I l e' z)
def auF(r:Rc)(g:Ga)(e:Expr)(c a b:IP.E):Bool:=awC (fun x y z _=>r.t g x c&&(r.v g y a&&r.v g z b)) e
theorem ayn(h:auF r g e c a b=true):Vv G fs sub k X e (.ife c a b):=by
 obtain⟨x,y,z,p,rfl,h⟩:=apK h
 exact apr (R.t I (aae h).1) (R.v I (aae (aae h).2).1) (R.v I (aae (aae h).2).2)
end
def alA:Expr→Bool | .UnaryOp .Not _ _=>false | .BoolOp _ _ _=>false | .IfExp _ _ _ _=>false | .Compare _ _ _ _=>false | _=>true
def aim:IP.E→Bool | .not _=>false | .and _ _=>false | .or _ _=>false | .rng1 _=>false | .rng2 _ _=>false | .enm _=>false | .zip _ _=>false | .sok _ _ _=>false | _=>true
section
variable(R:Sd G fs sub k tb r)(I:In G fs sub k tb X g)
include R I
theorem ayp{e':IP.E}(h:(alA e&&aim e'&&r.v g e e')=true):Vt G fs sub k X e e':=by
 obtain⟨h1,h⟩:=aae h
 obtain⟨h1,h2⟩:=aae h1
 refine ajW (R.v I h) ?_ ?_
 ·intro w
  cases e with
  | UnaryOp o _ _=>cases o<;>first|rfl|exact nt h1
  | _=>first|rfl|exact nt h1
 ·intro σ s
  cases e'<;>first|rfl|exact nt h2
end
def kA(f:Expr→IP.E→Bool):List Expr→List IP.E→Bool
 | [],[]=>true
 | x::q,a::p=>aaE x&&(f x a&&kA f q p)
 | _,_=>false
theorem ad9{f:Expr→IP.E→Bool}:∀{es:List Expr}{as:List IP.E},kA f es as=true→es.all aaE=true
 | [],_,_=>rfl
 | x::q,a::p,h=>by
  obtain⟨h1,h⟩:=aae h
  rw[List.all_cons,h1,ad9 (aae h).2];rfl
section
variable(R:Sd G fs sub k tb r)(I:In G fs sub k tb X g)
include R I
theorem asr:∀(es:List Expr) (as:List IP.E),kA (r.v g) es as=true→PA X es (tA G X (cfX fs sub k) as)
 | [],[],_=>aqf
 | x::q,a::p,h=>by
  obtain⟨h1,h⟩:=aae h
  exact anr (R.v I (aae h).1) (asr q p (aae h).2) (aar h1)
theorem ark:∀(es:List Expr) (as:List IP.E),kA (r.v g) es as=true→PA X es (tR G X (cfX fs sub k) as)
 | [],[],_=>aop
 | x::q,a::p,h=>by
  obtain⟨h1,h⟩:=aae h
  exact alY (R.v I (aae h).1) (ark q p (aae h).2) (aar h1)
def auH(r:Rc)(g:Ga)(e:Expr)(as:List IP.E):Bool:=anG (fun l _ _=>decide (as.length≤1000)&&kA (r.v g) l as) e
theorem axb(h:auH r g e as=true):Vv G fs sub k X e (.tup as):=by
 obtain⟨l,_,_,rfl,h⟩:=agc h
 exact ap3 (asr R I _ _ (aae h).2) (Nat.le_trans (of_decide_eq_true (aae h).1) (by decide))
def apa(r:Rc)(g:Ga)(e:Expr)(as:List IP.E):Bool:=avm (fun l _=>decide (as.length≤1000)&&kA (r.v g) l as) e
theorem ala(h:apa r g e as=true):∃l p,e=.List l p∧PA X l (tA G X (cfX fs sub k) as)∧as.length≤sizeLine:=by
 obtain⟨l,p,rfl,h⟩:=aqB h
 exact⟨l,p,rfl,asr R I _ _ (aae h).2,Nat.le_trans (of_decide_eq_true (aae h).1) (by decide)⟩
theorem axV(h:apa r g e as=true):Vv G fs sub k X e (.lst as):=by
 obtain⟨l,p,rfl,z1,z2⟩:=ala R I h
 exact ao2 z1 z2
theorem atV(h:apa r g e as=true):Vo G fs sub k X e (.lst as):=by
 obtain⟨l,p,rfl,z1,z2⟩:=ala R I h
 exact aoX z1 z2
end
def acV:Expr→Bool | .Slice _ _ _ _=>false | .Constant _ _ _=>true | .Name _ _=>true | .BinOp _ _ _ _=>true | .UnaryOp _ _ _=>true | .Subscript _ _ _=>true | .Call _ _ _ _=>true | .Attribute _ _ _=>true | _=>false
theorem agO(h:acV e=true):afP e:=by cases e<;>first|exact nt h|exact fun _ _=>rfl
def awo(r:Rc)(g:Ga)(e:Expr)(a b:IP.E):Bool:=arz (fun x y _=>acV y&&(r.v g x a&&r.v g y b)) e
section
variable(R:Sd G fs sub k tb r)(I:In G fs sub k tb X g)
include R I
theorem aw4(h:awo r g e a b=true):Vv G fs sub k X e (.sub a b):=by
 obtain⟨x,y,_,rfl,h⟩:=ajn h
 exact aoh (R.v I (aae (aae h).2).1) (R.v I (aae (aae h).2).2) (agO (aae h).1)
def aoJ(e:Expr)(f:Expr→Option Expr→Option Expr→Option Expr→Bool):Bool:=arz (fun x y _=>auE (fun l u s _=>f x l u s) y) e
end
theorem ag4{f:Expr→Option Expr→Option Expr→Option Expr→Bool}(h:aoJ e f=true):∃x l u s p q,e=.Subscript x (.Slice l u s p) q∧f x l u s=true:=by
 obtain⟨x,y,q,rfl,h⟩:=ajn h
 obtain⟨l,u,s,p,rfl,h⟩:=anV h
 exact⟨x,l,u,s,p,q,rfl,h⟩
def anY(r:Rc)(g:Ga)(e:Expr)(a b:IP.E):Bool:=aoJ e fun x l u s=>u.isNone&&s.isNone&&ifS l fun y=>r.v g x a&&r.v g y b
section
variable(R:Sd G fs sub k tb r)(I:In G fs sub k tb X g)
include R I
theorem atf(h:anY r g e a b=true):Vv G fs sub k X e (.cutL a b):=by
 obtain⟨x,l,u,s,p,q,rfl,z⟩:=ag4 h
 clear h
 cases abT (aae (aae z).1).1;cases abT (aae (aae z).1).2
 obtain⟨y,rfl,z1⟩:=aa5 (aae z).2
 exact am7 (R.v I (aae z1).1) (R.v I (aae z1).2)
def aoo(r:Rc)(g:Ga)(e:Expr)(a b:IP.E):Bool:=aoJ e fun x l u s=>l.isNone&&s.isNone&&ifS u fun y=>r.v g x a&&r.v g y b
theorem at3(h:aoo r g e a b=true):Vv G fs sub k X e (.cutU a b):=by
 obtain⟨x,l,u,s,p,q,rfl,z⟩:=ag4 h
 clear h
 cases abT (aae (aae z).1).1;cases abT (aae (aae z).1).2
 obtain⟨y,rfl,z1⟩:=aa5 (aae z).2
 exact ang (R.v I (aae z1).1) (R.v I (aae z1).2)
def ale(r:Rc)(g:Ga)(e:Expr)(a b c:IP.E):Bool:=aoJ e fun x l u s=>s.isNone&&ifS l fun y=>ifS u fun z=>r.v g x a&&(r.v g y b&&r.v g z c)
theorem anT(h:ale r g e a b c=true):Vv G fs sub k X e (.cutLU a b c):=by
 obtain⟨x,l,u,s,p,q,rfl,z⟩:=ag4 h
 clear h
 cases abT (aae z).1
 obtain⟨y,rfl,z1⟩:=aa5 (aae z).2
 obtain⟨yy,rfl,z2⟩:=aa5 z1
 exact ajY (R.v I (aae z2).1) (R.v I (aae (aae z2).2).1) (R.v I (aae (aae z2).2).2)
def ay8(e:Expr):Bool:=arh (fun o l _=>decide (o=.USub)&&aty l (.int 1)) e
def arv(r:Rc)(g:Ga)(e:Expr)(a:IP.E):Bool:=aoJ e fun x l u s=>l.isNone&&u.isNone&&(ifS s ay8&&r.v g x a)
theorem apW(h:arv r g e a=true):Vo G fs sub k X e (.rev a):=by
 obtain⟨x,l,u,s,p,q,rfl,z⟩:=ag4 h
 clear h
 cases abT (aae (aae z).1).1;cases abT (aae (aae z).1).2
 obtain⟨y,rfl,h1⟩:=aa5 (aae (aae z).2).1
 obtain⟨o,l,_,rfl,h1⟩:=agr h1
 obtain⟨c,j,p,rfl,h2⟩:=aeZ (aae h1).2
 cases of_decide_eq_true (aae h1).1
 cases c<;>first|exact nt h2|cases afK (a:=.int _) (b:=.int 1) h2
 exact anS (R.v I (aae (aae z).2).2)
theorem atN(h:aqT r g e .add a b=true):Vo G fs sub k X e (.bin .add a b):=by
 obtain⟨l,p,q,_,rfl,h⟩:=ahD h
 rw[of_decide_eq_true (aae h).1]
 exact apb (R.v I (aae (aae h).2).1) (R.v I (aae (aae h).2).2)
end
def af4(f:Str→List Expr→Bool)(e:Expr):Bool:=atv (fun d l m _=>m.isEmpty&&ajs (fun x _=>f x l) d) e
theorem acl{f:Str→List Expr→Bool}(h:af4 f e=true):∃x p l q,e=.Call (.Name x p) l [] q∧f x l=true:=by
 obtain⟨d,l,m,q,rfl,h⟩:=alz h
 obtain⟨x,p,rfl,z⟩:=acp (aae h).2
 cases aef (aae h).1
 exact⟨x,p,l,q,rfl,z⟩
def kB1(r:Rc)(tb:Tab)(g:Ga)(n:Str)(e:Expr)(a:IP.E):Bool:=af4 (fun x l=>keq x n&&isB tb g x&&on1 (fun x=>aaE x&&r.v g x a) l) e
section
variable(R:Sd G fs sub k tb r)(I:In G fs sub k tb X g)
include R I
theorem abd{n:Str}(h:kB1 r tb g n e a=true):∃x p q,e=.Call (.Name n p) [x] [] q∧Vv G fs sub k X x a∧Gl X n∧X.mg n=none∧starEach [x] X.env=[(false,eval x X.env)]:=by
 obtain⟨y,p,l,q,rfl,h⟩:=acl h
 obtain⟨h,h3⟩:=aae h
 obtain⟨h,h2⟩:=aae h
 cases abg h
 obtain⟨z1,z2⟩:=agy I h2
 obtain⟨x,rfl,h3⟩:=acG h3
 exact⟨x,p,q,rfl,R.v I (aae h3).2,z1,z2,aar (aae h3).1⟩
theorem awX(h:kB1 r tb g "len" e a=true):Vv G fs sub k X e (.b1 .len a):=by
 obtain⟨x,p,q,rfl,z,hg,hm,hs⟩:=abd R I h
 exact sB1 at2 hg hm (by rfl) (by decide) (by decide) z hs fun _ _=>rfl
theorem ax4(h:kB1 r tb g "abs" e a=true):Vv G fs sub k X e (.b1 .abs a):=by
 obtain⟨x,p,q,rfl,z,hg,hm,hs⟩:=abd R I h
 exact sB1 arA hg hm (by rfl) (by decide) (by decide) z hs fun _ _=>rfl
theorem axo(h:kB1 r tb g "int" e a=true):Vv G fs sub k X e (.b1 .int a):=by
 obtain⟨x,p,q,rfl,z,hg,hm,hs⟩:=abd R I h
 exact aws arU hg hm (by rfl) (by decide) (by decide) z hs fun _ _=>rfl
theorem ati(h:kB1 r tb g "list" e a=true):Vv G fs sub k X e (.b1 .list a):=by
 obtain⟨x,p,q,rfl,z,hg,hm,hs⟩:=abd R I h
 exact aws apB hg hm (by rfl) (by decide) (by decide) z hs fun _ _=>rfl
theorem aoA(h:kB1 r tb g "list" e a=true):Vo G fs sub k X e (.b1 .list a):=by
 obtain⟨x,p,q,rfl,z,hg,hm,hs⟩:=abd R I h
 exact alX hg hm z hs
theorem ax2(h:(g.calm&&kB1 r tb g "any" e a)=true):Vv G fs sub k X e (.b1 .any a):=by
 obtain⟨x,p,q,rfl,z,hg,hm,hs⟩:=abd R I (aae h).2
 exact sB1 (au0 (I.cm (aae h).1)) hg hm (by rfl) (by decide) (by decide) z hs fun _ _=>rfl
theorem axz(h:(g.calm&&kB1 r tb g "all" e a)=true):Vv G fs sub k X e (.b1 .all a):=by
 obtain⟨x,p,q,rfl,z,hg,hm,hs⟩:=abd R I (aae h).2
 exact sB1 (aup (I.cm (aae h).1)) hg hm (by rfl) (by decide) (by decide) z hs fun _ _=>rfl
theorem anl(h:kB1 r tb g "sorted" e a=true):Vv G fs sub k X e (.b1 .sorted a):=by
 obtain⟨x,p,q,rfl,z,hg,hm,hs⟩:=abd R I h
 exact sB1 ajx hg hm (by rfl) (by decide) (by decide) z hs fun _ _=>rfl
def kB2(r:Rc)(tb:Tab)(g:Ga)(n:Str)(e:Expr)(a b:IP.E):Bool:=af4 (fun x l=>keq x n&&isB tb g x&&on2 (fun x y=>aaE x&&aaE y&&(r.v g x a&&r.v g y b)) l) e
theorem ajk{n:Str}(h:kB2 r tb g n e a b=true):∃x y p q,e=.Call (.Name n p) [x,y] [] q∧Vv G fs sub k X x a∧Vv G fs sub k X y b∧Gl X n∧X.mg n=none∧starEach [x,y] X.env=[(false,eval x X.env),(false,eval y X.env)]∧starEach [y] X.env=[(false,eval y X.env)]:=by
 obtain⟨y,p,l,q,rfl,h⟩:=acl h
 obtain⟨h,h3⟩:=aae h
 obtain⟨h,h2⟩:=aae h
 cases abg h
 obtain⟨z1,z2⟩:=agy I h2
 obtain⟨x,y,rfl,h3⟩:=aqh h3
 obtain⟨n,v⟩:=aae h3
 exact⟨x,y,p,q,rfl,R.v I (aae v).1,R.v I (aae v).2,z1,z2,(aar (aae n).1).trans (congrArg _ (aar (aae n).2)),aar (aae n).2⟩
theorem atR(h:(g.calm&&kB2 r tb g "max" e a b)=true):Vv G fs sub k X e (.mx2 a b):=by
 obtain⟨x,y,p,q,rfl,za,zb,hg,hm,hs,hs2⟩:=ajk R I (aae h).2
 exact sB2 (aq5 (I.cm (aae h).1)) hg hm (by rfl) (by decide) (by decide) za zb hs hs2 fun _ _=>rfl
end
end
def adz:Expr→Bool | .Call _ _ _ _=>false | _=>true
theorem ac9{o:Expr}{m:Str}{v:Env}{t:Sem Value}(h:adz o=true):attributeBase o m v t=t:=by
 cases o<;>first|rfl|exact nt h
theorem agf{pos:Pos}{v:Env}:∀{es:List Expr},es.all aaE=true→(backTo pos (starEach es v)).all (fun x=>!x.1)=true
 | [],_=>rfl
 | e::r,h=>by
  rw[List.all_cons]at h
  rw[aar (aae h).1]
  exact agf (aae h).2
theorem aiR{pos:Pos}{v:Env}{es:List Expr}(h:es.all aaE=true)(hl:es.length<30):methodCallForm (es.length+([]:List Keyword).length) (backTo pos (starEach es v)) (backToKw pos (keywordEach [] v))=true:=by
 unfold methodCallForm
 rw[agf h]
 exact decide_eq_true hl
theorem alW{o:Expr}{m:Str}{v:Env}{es:List Expr}{apos pos:Pos}(h0:adz o=true)(h:es.all aaE=true)(hl:es.length<30)(hp:(apos.endLine==pos.line)=true):
  eval (.Call (.Attribute o m apos) es [] pos) v=(do
   let ov ←eval o v
   standAt apos.atName
   let (f,first) ←holding [ov] (getMethod ov m (do return (←importBound o v).getD true))
   callWith pos f first (backTo pos (starEach es v)) (backToKw pos (keywordEach [] v))):=by
 show(do
  let ov ←attributeBase o m v (eval o v)
  standAt apos.atName
  methodCall o m apos pos v ov (es.length+([]:List Keyword).length) (backTo pos (starEach es v)) (backToKw pos (keywordEach [] v)))=_
 rw[ac9 h0]
 unfold methodCall
 rw[aiR h hl]
 unfold methodCallPos
 rw[hp]
 rfl
section
variable{G:Gx}{fs:List Fn}{sub:Nat→Nat→Bool}{k:Nat}{tb:Tab}{X:Cx}{g:Ga}{r:Rc}{e:Expr}{es:List Expr}
variable{a b c d:IP.E}{as:List IP.E}
def okD(tb:Tab)(i:Nat)(ds:List T):Bool:=ds.isEmpty||akl (dfl tb i) ds
theorem amS{i:Nat}{ds:List T}(h:okD tb i ds=true):ds=[]∨ds∈dfl tb i:=by
 rcases(Bool.or_eq_true _ _).mp h with h|h
 ·exact .inl (aef h)
 ·exact .inr (aen h)
def isFn(i:Nat):Option Gk→Bool|some (.fn j)=>decide (j=i) | _=>false
theorem aqE{i:Nat}{o:Option Gk}(h:isFn i o=true):o=some (.fn i):=by
 cases o with
 | none=>exact nt h
 | some q=>cases q<;>first|exact nt h|rw[of_decide_eq_true h]
def kFn(r:Rc)(tb:Tab)(g:Ga)(e:Expr)(i:Nat)(as:List IP.E)(ds:List T):Bool:=g.calm&&(okD tb i ds&&af4 (fun x l=>isFn i (ak4 tb g x)&&!as.isEmpty&&kA (r.v g) l as) e)
section
variable(R:Sd G fs sub k tb r)(I:In G fs sub k tb X g)
include R I
theorem apH{i:Nat}{ds:List T}(h:kFn r tb g e i as ds=true):
  ∃x p e₀ l q fa fd ps dvs dss,e=.Call (.Name x p) (e₀::l) [] q∧FnOk X.prog X.w X.K X.mg X.base (CXE G X.prog X.w X.base) (2*k) fa fd ps (spG G (cfX fs sub k).cf (cfX fs sub k).fr i)∧Room (2*k) X.A∧Gl X x∧X.mg x=some (.ref fa)∧PySem.W.keepIn X.K (.ref fa)=true∧
   Binds X.K fd ps dss∧Vals dvs dss∧ds.mapM cstV=some dvs∧PA X (e₀::l) (tR G X (cfX fs sub k) as)∧(x==("__debug__":Str))=false∧starEach (e₀::l) X.env=(false,eval e₀ X.env)::starEach l X.env∧(backTo q (starEach l X.env)).any (·.1)=false:=by
 obtain⟨h0,h⟩:=aae h
 obtain⟨h1,h⟩:=aae h
 obtain⟨x,p,l,q,rfl,h2⟩:=acl h
 obtain⟨h2,h4⟩:=aae h2
 obtain⟨h2,h3⟩:=aae h2
 obtain⟨z1,⟨fa,z2,z3,fd,ps,F,B⟩,z4⟩:=aeU I (aqE h2)
 obtain⟨dvs,dss,b1,b2,b3⟩:=B ds (amS h1)
 have st:=ad9 h4
 have ra:=ark R I l as h4
 cases l with
 | nil=>cases as with
  | nil=>exact nt h3
  | cons a as=>exact nt h4
 | cons e₀ l=>
  rw[List.all_cons]at st
  exact⟨x,p,e₀,l,q,fa,fd,ps,dvs,dss,rfl,F,(I.hr h0).mono (Nat.le_succ _),z1,z2,z3,b3,b2,b1,ra,z4,aar (aae st).1,ac1 (aae st).2⟩
theorem rFn{i:Nat}{ds:List T}(h:kFn r tb g e i as ds=true):Vv G fs sub k X e (.call i as ds):=by
 obtain⟨x,p,e₀,l,q,fa,fd,ps,dvs,dss,rfl,F,hr,z1,z2,z3,b3,b2,b1,ra,z4,s1,s2⟩:=apH R I h
 cases hf:adR fs i with
 | false=>exact akb hf F hr z1 z2 z3 b3 b2 b1 ra z4 s1 s2
 | true=>exact ahL hf (akG hf k) F hr z1 z2 z3 b3 b2 b1 ra z4 s1 s2
theorem ayk{i:Nat}{ds:List T}(h:(adR fs i&&kFn r tb g e i as ds)=true):Vo G fs sub k X e (.call i as ds):=by
 obtain⟨x,p,e₀,l,q,fa,fd,ps,dvs,dss,rfl,F,hr,z1,z2,z3,b3,b2,b1,ra,z4,s1,s2⟩:=apH R I (aae h).2
 exact agt (aae h).1 F hr z1 z2 z3 b3 b2 b1 ra z4 s1 s2
def at4(f:Expr→Str→Pos→List Expr→Pos→Bool)(e:Expr):Bool:=atv (fun d l m q=>m.isEmpty&&aqX (fun o x p=>f o x p l q) d) e
end
theorem alK{f:Expr→Str→Pos→List Expr→Pos→Bool}(h:at4 f e=true):∃o x p l q,e=.Call (.Attribute o x p) l [] q∧f o x p l q=true:=by
 obtain⟨d,l,m,q,rfl,h⟩:=alz h
 obtain⟨o,x,p,rfl,z⟩:=ahU (aae h).2
 cases aef (aae h).1
 exact⟨o,x,p,l,q,rfl,z⟩
def av5(c i:Nat):Option (Nat×Nat)→Bool|some q=>decide (q=(c,i))|none=>false
theorem aqi{c i:Nat}{o:Option (Nat×Nat)}(h:av5 c i o=true):o=some (c,i):=by
 cases o with
 | none=>exact nt h
 | some q=>rw[of_decide_eq_true h]
def ap8(r:Rc)(fs:List Fn)(tb:Tab)(g:Ga)(e:Expr)(a:IP.E)(c i:Nat)(as:List IP.E)(ds:List T):Bool:=g.calm&&!adR fs i&&(okD tb i ds&&at4 (fun o m p l q=>av5 c i (lk tb.m m)&&adz o&&(p.endLine==q.line)&&decide (l.length<30)&&(r.v g o a&&kA (r.v g) l as)) e)
section
variable(R:Sd G fs sub k tb r)(I:In G fs sub k tb X g)
include R I
theorem atP{c i:Nat}{ds:List T}(h:ap8 r fs tb g e a c i as ds=true):Vv G fs sub k X e (.meth a c i as ds):=by
 obtain⟨h0,h⟩:=aae h
 obtain⟨h1,h⟩:=aae h
 obtain⟨o,m,p,l,q,rfl,h2⟩:=alK h
 obtain⟨h2,hh⟩:=aae h2
 obtain⟨h7,h8⟩:=aae hh
 obtain⟨h2,h6⟩:=aae h2
 obtain⟨h2,h5⟩:=aae h2
 obtain⟨h2,h4⟩:=aae h2
 obtain⟨hcl,fa,hmt,hnm,fd,ps,F,B⟩:=I.hy.m m c i (aqi h2)
 obtain⟨dvs,dss,b1,b2,b3⟩:=B ds (amS h1)
 have st:=ad9 h8
 have ra:=ark R I l as h8
 have hf:adR fs i=false:=(Bool.not_eq_true' _).mp (aae h0).2
 have hr:=(I.hr (aae h0).1).mono (Nat.le_succ _)
 have me:=alW (v:=X.env) (m:=m) h4 st (of_decide_eq_true h6) h5
 cases l with
 | nil=>cases as with
  | nil=>exact aiQ hf hcl hmt hnm F hr b3 b2 b1 (R.v I h7) me
  | cons a as=>exact nt h8
 | cons e₀ l=>
  rw[List.all_cons]at st
  exact akk hf hcl hmt hnm F hr b3 b2 b1 (R.v I h7) ra (aar (aae st).1) (ac1 (aae st).2) me
def aqN(c i:Nat):Option Gk→Bool|some (.cls d j)=>decide (d=c)&&decide (j=i) | _=>false
end
theorem ane{c i:Nat}{o:Option Gk}(h:aqN c i o=true):o=some (.cls c i):=by
 cases o with
 | none=>exact nt h
 | some q=>cases q<;>first|exact nt h|rw[of_decide_eq_true (aae h).1,of_decide_eq_true (aae h).2]
def avz(r:Rc)(fs:List Fn)(tb:Tab)(g:Ga)(e:Expr)(c i:Nat)(as:List IP.E)(ds:List T):Bool:=g.calm&&!adR fs i&&(okD tb i ds&&af4 (fun x l=>aqN c i (ak4 tb g x)&&kA (r.v g) l as) e)
section
variable(R:Sd G fs sub k tb r)(I:In G fs sub k tb X g)
include R I
theorem ay2{c i n:Nat}{ds:List T}(h:avz r fs tb g e c i as ds=true):Vv G fs sub k X e (.new c i n as ds):=by
 obtain⟨h0,h⟩:=aae h
 obtain⟨h1,h⟩:=aae h
 obtain⟨x,p,l,q,rfl,h2⟩:=acl h
 obtain⟨h2,h4⟩:=aae h2
 obtain⟨z1,⟨z2,fa,M,fd,ps,F,B⟩,z4⟩:=aeU I (ane h2)
 obtain⟨dvs,dss,b1,b2,b3⟩:=B ds (amS h1)
 have st:=ad9 h4
 have ra:=ark R I l as h4
 have hf:adR fs i=false:=(Bool.not_eq_true' _).mp (aae h0).2
 have hr:=I.hr (aae h0).1
 cases l with
 | nil=>cases as with
  | nil=>exact ajN hf M F hr z1 z2 b3 b2 b1 z4
  | cons a as=>exact nt h4
 | cons e₀ l=>
  rw[List.all_cons]at st
  exact amh hf M F hr z1 z2 b3 b2 b1 ra z4 (aar (aae st).1) (ac1 (aae st).2)
end
def aml(tb:Tab)(c f:Nat)(x:Str):Bool:=ifS tb.nm[c]? fun l=>ifS l[f]? fun y=>keq y x
section
variable(I:In G fs sub k tb X g)
include I
theorem ahT{c f:Nat}{x:Str}(h:aml tb c f x=true):Cls X.K (G.iA c)∧(G.nm c)[f]?=some x∧abb X.K (G.iA c) x∧(G.nm c).Nodup∧(G.nm c).length≤100:=by
 obtain⟨l,h1,h⟩:=aa5 h
 obtain⟨y,h2,h⟩:=aa5 h
 cases abg h
 obtain⟨e,q1,q2,q3,q4⟩:=I.hy.nm c l h1
 rw[e]
 exact⟨q1,h2,q4 _ (List.mem_of_getElem? h2),q2,q3⟩
def av6(r:Rc)(tb:Tab)(g:Ga)(e:Expr)(a:IP.E)(c f:Nat):Bool:=aqX (fun o x _=>aml tb c f x&&adz o&&r.v g o a) e
end
section
variable(R:Sd G fs sub k tb r)(I:In G fs sub k tb X g)
include R I
theorem awY{c f:Nat}(h:av6 r tb g e a c f=true):Vv G fs sub k X e (.fld a c f):=by
 obtain⟨o,x,p,rfl,h⟩:=ahU h
 obtain⟨q1,q2,q3,_⟩:=ahT I (aae (aae h).1).1
 exact aoG q1 q2 q3 (R.v I (aae h).2) (ac9 (aae (aae h).1).2)
theorem auj(h:r.o g e a=true):Vv G fs sub k X e (.cell a):=ai7 (R.o I h)
end
def tyN:Ty→Option Str | .int=>some "int" | .bool=>some "bool" | .tuple=>some "tuple" | .list=>some "list" | .str=>some "str" | .cls _=>none
def as6(r:Rc)(tb:Tab)(g:Ga)(e:Expr)(a:IP.E)(f:Str→Bool):Bool:=af4 (fun x l=>keq x "isinstance"&&isB tb g x&&on2 (fun x y=>aaE x&&r.v g x a&&ajs (fun z _=>f z) y) l) e
section
variable(R:Sd G fs sub k tb r)(I:In G fs sub k tb X g)
include R I
theorem al2{f:Str→Bool}(h:as6 r tb g e a f=true):∃x y py p q,e=.Call (.Name "isinstance" p) [x,.Name y py] [] q∧Vv G fs sub k X x a∧f y=true∧Gl X "isinstance"∧X.mg "isinstance"=none∧starEach [x,.Name y py] X.env=[(false,eval x X.env),(false,eval (.Name y py) X.env)]:=by
 obtain⟨y,p,l,q,rfl,h⟩:=acl h
 obtain⟨h,h3⟩:=aae h
 obtain⟨h,h2⟩:=aae h
 cases abg h
 obtain⟨z1,z2⟩:=agy I h2
 obtain⟨x,y,rfl,h3⟩:=aqh h3
 obtain⟨y,py,rfl,h4⟩:=acp (aae h3).2
 exact⟨x,y,py,p,q,rfl,R.v I (aae (aae h3).1).2,h4,z1,z2,aar (aae (aae h3).1).1⟩
def ao5(r:Rc)(tb:Tab)(g:Ga)(e:Expr)(a:IP.E)(c:Ty):Bool:=ifS (tyN c) fun n=>as6 r tb g e a fun y=>keq y n&&isB tb g y
theorem axs{c:Ty}(h:ao5 r tb g e a c=true):Vv G fs sub k X e (.isi a c):=by
 obtain⟨n,hn,h⟩:=aa5 h
 obtain⟨x,y,py,p,q,rfl,v,h1,hg,hm,st⟩:=al2 R I h
 obtain⟨h1,h2⟩:=aae h1
 cases abg h1
 obtain⟨z1,z2⟩:=agy I h2
 cases c<;>cases hn
 ·exact aeF (n:="int") rfl hg hm z1 z2 (by rfl) (by decide) (by decide) v st
 ·exact aeF (n:="bool") rfl hg hm z1 z2 (by rfl) (by decide) (by decide) v st
 ·exact aeF (n:="tuple") rfl hg hm z1 z2 (by rfl) (by decide) (by decide) v st
 ·exact aeF (n:="list") rfl hg hm z1 z2 (by rfl) (by decide) (by decide) v st
 ·exact aeF (n:="str") rfl hg hm z1 z2 (by rfl) (by decide) (by decide) v st
def ajA(c:Nat):Option Gk→Bool|some (.exc d)=>decide (d=c) | _=>false
end
theorem afA{c:Nat}{o:Option Gk}(h:ajA c o=true):o=some (.exc c):=by
 cases o with
 | none=>exact nt h
 | some q=>cases q<;>first|exact nt h|rw[of_decide_eq_true h]
def av1(r:Rc)(tb:Tab)(g:Ga)(e:Expr)(a:IP.E)(c:Nat):Bool:=tb.ix.contains c&&as6 r tb g e a fun y=>ajA c (ak4 tb g y)
section
variable(R:Sd G fs sub k tb r)(I:In G fs sub k tb X g)
include R I
theorem axK{c:Nat}(h:av1 r tb g e a c=true):Vv G fs sub k X e (.isi a (.cls c)):=by
 obtain⟨h0,h⟩:=aae h
 obtain⟨x,y,py,p,q,rfl,v,h1,hg,hm,st⟩:=al2 R I h
 obtain⟨z1,z2,z3⟩:=aeU I (afA h1)
 obtain⟨q1,q2⟩:=I.hy.ix c (List.contains_iff_mem.mp h0)
 exact aq3 q1 q2 hg hm z1 z2 z3 v st
end
end
def aiK:Expr→Bool | .Set _ _ _=>false | _=>true
theorem aez{e:Expr}{v:Env}(h:aiK e=true):∀x,foldedSetIterable e v x=pure x:=by
 intro x
 cases e<;>first|rfl|exact nt h
def ajG{α β:Type}(f:α→β→Bool):List α→List β→Bool
 | [],[]=>true
 | x::q,y::p=>f x y&&ajG f q p
 | _,_=>false
section
variable{G:Gx}{fs:List Fn}{sub:Nat→Nat→Bool}{k:Nat}{tb:Tab}{X:Cx}{g:Ga}{r:Rc}{e:Expr}{es:List Expr}
variable{a b c d:IP.E}{as:List IP.E}
def kNm(g:Ga)(e:Expr)(i:Nat):Bool:=ajs (fun x _=>at? g i x&&akJ g x) e
section
variable(I:In G fs sub k tb X g)
include I
theorem aqA{i:Nat}(h:kNm g e i=true):∃x p,e=.Name x p∧X.N.Nodup∧X.N[i]?=some x∧L2.Loc X.env.scope x∧(X.fn x=true∨X.env.scope.names.lookup x=some .local):=by
 obtain⟨x,p,rfl,h⟩:=acp h
 exact⟨x,p,rfl,by rw[I.N];exact I.nd,aiL I (aae h).1,akW I (aae h).2⟩
theorem ahE:∀(es:List Expr) (js:List Nat),ajG (kNm g) es js=true→PGs X es (ag7 js)∧(assignEach es X.env).length=js.length∧(assignEach es X.env).findIdx? (·.1)=none
 | [],[],_=>⟨anW,rfl,rfl⟩
 | e::es,j::js,h=>by
  obtain⟨x,p,rfl,h1,h2,h3,h4⟩:=aqA I (aae h).1
  obtain⟨q1,q2,q3⟩:=ahE es js (aae h).2
  refine⟨amW h1 h2 h3 h4 q1,congrArg (·+1) q2,?_⟩
  show List.findIdx? (·.1) ((false,assign (.Name x p) X.env)::assignEach es X.env)=none
  rw[List.findIdx?_cons,q3]
  rfl
def kTg(g:Ga)(e:Expr):Tg→Bool
 | .one i=>kNm g e i
 | .many js=>g.calm&&anG (fun l _ _=>ajG (kNm g) l js) e
theorem aqd{t:Tg}(h:kTg g e t=true):PG X e (gTg G t):=by
 cases t with
 | one i=>
  obtain⟨x,p,rfl,h1,h2,h3,h4⟩:=aqA I h
  exact aoL h1 h2 h3 h4
 | many js=>
  obtain⟨l,j,p,rfl,z⟩:=agc (aae h).2
  obtain⟨q1,q2,q3⟩:=ahE I l js z
  exact ah7 (I.cm (aae h).1) q1 q2 q3
end
def ah4:IP.E→Bool | .rng1 _=>false | .rng2 _ _=>false | .enm _=>false | .zip _ _=>false | .sok _ _ _=>false | _=>true
theorem aj5{C:Cf}(h:ah4 a=true)(σ:Fr)(s:Sto):ev C a .i σ s=fin .i (ev C a .v σ s):=by cases a<;>first|rfl|exact nt h
theorem ajV{C:Cf}(h:ah4 a=true)(σ:Fr)(s:Sto):ev C a .j σ s=fin .j (ev C a .v σ s):=by cases a<;>first|rfl|exact nt h
def kIt(r:Rc)(tb:Tab)(g:Ga)(e:Expr)(a:IP.E):Bool:=(ah4 a&&r.v g e a)||match a with
 | .rng1 a=>kB1 r tb g "range" e a
 | .rng2 a b=>kB2 r tb g "range" e a b
 | _=>false
section
variable(R:Sd G fs sub k tb r)(I:In G fs sub k tb X g)
include R I
theorem anj{tg:Expr}{m:Md}{z:Bool}(hm:m=.i∧z=false∨m=.j∧z=true)(h:kIt r tb g e a=true):PI X tg e (tI G X (cfX fs sub k) a m z):=by
 have hm':m=.i∨m=.j:=hm.elim (fun q=>.inl q.1) fun q=>.inr q.1
 rcases(Bool.or_eq_true _ _).mp h with h|h
 ·refine akK (R.v I (aae h).2) hm ?_
  rcases hm' with rfl|rfl
  ·exact aj5 (aae h).1
  ·exact ajV (aae h).1
 ·cases a<;>first|exact nt h|skip
  ·obtain⟨x,p,q,rfl,v,hg,hmg,hs⟩:=abd R I h
   exact am5 hm' hg hmg v hs
  ·obtain⟨x,y,p,q,rfl,va,vb,hg,hmg,hs,hs2⟩:=ajk R I h
   exact ant hm' hg hmg va vb hs hs2
end
def ars(sc:List (Str×NameKind))(x:Str×NameKind):Str×NameKind:=bif decide (x.2=.free)&&isK (lk sc x.1) .cell then(x.1,.cell)else x
theorem aiT{o:Option NameKind}{q:NameKind}:(o==some q)=isK o q:=by
 cases o with
 | none=>rfl
 | some p=>cases p<;>cases q<;>rfl
section
variable(I:In G fs sub k tb X g)
include I
theorem alu{scope:Scope}:(relabel scope X.env).names=scope.names.map (ars g.sc):=by
 unfold relabel Env.kindOf
 rw[I.kd,I.sc]
 refine List.map_congr_left fun x _=>?_
 obtain⟨n,q⟩:=x
 unfold ars
 simp only[aeS,aiT]
 cases hq:isK (lk g.sc n) .cell<;>cases q<;>simp[hq]
def asG(l:List (Str×NameKind))(x:Str):Bool:=isK (lk l x) .local||isK (lk l x) .cell||isK (lk l x) .free
def ckS(js:List Nat)(rel names:List (Str×NameKind)):Nat→List Str→List Str→Bool
 | _,[],[]=>true
 | i,x::p,y::q=>(js.contains i||!asG rel x||(keq y x&&isK (lk names x) .free&&(isK (lk rel x) .cell||isK (lk rel x) .free)))&&ckS js rel names (i+1) p q
 | _,_,_=>false
end
theorem aov{o:Option NameKind}{q:NameKind}(h:o=some q):isK o q=true:=by rw[h];exact decide_eq_true rfl
theorem akR{js:List Nat}{rel names:List (Str×NameKind)}:∀(p q:List Str) (i:Nat),ckS js rel names i p q=true→p.length=q.length∧∀(n:Nat) (x:Str),p[n]?=some x→i+n∉js→(lk rel x=some .local∨lk rel x=some .cell∨lk rel x=some .free)→q[n]?=some x∧(x,NameKind.free)∈names∧(lk rel x=some .cell∨lk rel x=some .free)
 | [],[],i,_=>⟨rfl,fun n x h=>by simp at h⟩
 | x::p,y::q,i,h=>by
  obtain⟨h1,h2⟩:=aae h
  obtain⟨q1,q2⟩:=akR p q (i+1) h2
  refine⟨congrArg (·+1) q1,fun n z hz hj hv=>?_⟩
  cases n with
  | succ n=>exact q2 n z (by simpa using hz) (by rw[Nat.add_assoc,Nat.add_comm 1];exact hj) hv
  | zero=>
   cases(Option.some.inj hz:x=z)
   rcases(Bool.or_eq_true _ _).mp h1 with h1|h1
   ·rcases(Bool.or_eq_true _ _).mp h1 with h1|h1
    ·exact absurd (List.contains_iff_mem.mp h1) hj
    ·have:asG rel x=true:=by
      unfold asG
      rcases hv with v|v|v<;>rw[aov v]<;>simp
     rw[this]at h1
     exact nt h1
   ·obtain⟨h1,h3⟩:=aae h1
    cases abg (aae h1).1
    refine⟨rfl,ae0 (ab1 (aae h1).2),?_⟩
    rcases(Bool.or_eq_true _ _).mp h3 with v|v
    ·exact .inl (ab1 v)
    ·exact .inr (ab1 v)
def ndB:List Str→Bool
 | []=>true
 | x::q=>!q.any (keq x)&&ndB q
theorem ags:∀{l:List Str},ndB l=true→l.Nodup
 | [],_=>List.nodup_nil
 | x::q,h=>by
  obtain⟨h1,h2⟩:=aae h
  refine List.nodup_cons.mpr ⟨fun m=>?_,ags h2⟩
  have:q.any (keq x)=true:=List.any_eq_true.mpr ⟨x,m,af5⟩
  rw[this]at h1
  exact nt h1
def okN(x:Str):Bool:=!keq x "__debug__"&&!keq x "__classdict__"
theorem alE{l:List Str}(h:l.all okN=true):∀x∈l,(x==("__debug__":Str))=false∧(x==("__classdict__":Str))=false:=fun x hx=>by
 obtain⟨h1,h2⟩:=aae (List.all_eq_true.mp h x hx)
 rw[acR,acR]
 exact⟨(Bool.not_eq_true' _).mp h1,(Bool.not_eq_true' _).mp h2⟩
def ckN(g:Ga)(sc:Scope)(N':List Str)(js:List Nat):Bool:=
 decide (sc.kind=.function)&&(sc.names.all fun x=>!decide (x.2=.cell)&&(!decide (x.2=.free)||isK (lk g.sc x.1) .cell||isK (lk g.sc x.1) .free)&&(!decide (x.2=.local)||isK (lk sc.names x.1) .local)) &&
 (ndB N'&&N'.all okN&&ckS js (sc.names.map (ars g.sc)) sc.names 0 N' g.N)
section
variable(I:In G fs sub k tb X g)
include I
theorem aqq{sc:Scope}{N':List Str}{js:List Nat}(h:ckN g sc N' js=true):CompN X sc N' js∧N'.Nodup∧N'.all okN=true:=by
 obtain⟨h1,h2⟩:=aae h
 obtain⟨h0,h1⟩:=aae h1
 obtain⟨h3,h2⟩:=aae h2
 obtain⟨h3,h4⟩:=aae h3
 obtain⟨q1,q2⟩:=akR _ _ _ h2
 have q3:=ags h3
 have al:=List.all_eq_true.mp h1
 have no:∀{b c:Bool}{p:Prop} [Decidable p],p→(!decide p||b)=true→b=true:=fun hp hb=>by
  rw[decide_eq_true hp]at hb
  exact hb
 refine⟨⟨of_decide_eq_true h0,fun x hx e=>?_,fun x hx e=>?_,by rw[I.N];exact q1,q3,fun i x hx hj hv=>?_,fun x hx e=>?_⟩,q3,h4⟩
 ·have z:=(aae (aae (al x hx)).1).1
  rw[decide_eq_true e]at z
  exact nt z
 ·have z:=(aae (aae (al x hx)).1).2
  unfold Env.kindOf
  rw[acN I]
  rw[Bool.or_assoc]at z
  rcases(Bool.or_eq_true _ _).mp (no (c:=true) e z)with z|z
  ·exact .inl (ab1 z)
  ·exact .inr (ab1 z)
 ·unfold Vis at hv
  rw[alu I,aeS]at hv ⊢
  rw[I.N]
  exact q2 i x hx (by rw[Nat.zero_add];exact hj) hv
 ·rw[aeS]
  exact ab1 (no (c:=true) e (aae (al x hx)).2)
def nmO:Expr→Option Str | .Name x _=>some x | _=>none
def tgN:Expr→List Str | .Name x _=>[x] | .Tuple l _ _=>l.filterMap nmO | _=>[]
def hid(tn:List Str):Nat→List Str→List Str
 | _,[]=>[]
 | i,x::q=>(bif tn.any (keq x)then⟨#[1,i]⟩else x)::hid tn (i+1) q
def awq:List Str→List Nat→List Str→List Str
 | N,j::js,x::xs=>awq (N.set j x) js xs
 | N,_,_=>N
def gaC(g:Ga)(sc:Scope)(tg:Expr)(js:List Nat):Ga:=⟨awq (hid (tgN tg) 0 g.N) js (tgN tg),sc.names.map (ars g.sc),false,g.calm,false⟩
def apQ(g:Ga)(e:Expr)(t:Tg)(f:Ga→Expr→Expr→List Expr→Expr→Bool):Bool:=g.calm&&ao3 (fun elt gens sc _=>on1 (fun c=>decide (c.is_async=0)&&aiK c.iter&&decide ((slots t).Nodup) &&
 (ckN g sc (gaC g sc c.target (slots t)).N (slots t)&&kTg (gaC g sc c.target (slots t)) c.target t&&f (gaC g sc c.target (slots t)) elt c.iter c.ifs c.target)) gens) e
theorem aiZ{t:Tg}{f:Ga→Expr→Expr→List Expr→Expr→Bool}(h:apQ g e t f=true):X.calm=true∧∃elt tgx it ifs sc pos g2 N',e=.ListComp elt [⟨tgx,it,ifs,0⟩] sc pos∧CompN X sc N' (slots t)∧(slots t).Nodup∧(∀x,foldedSetIterable it X.env x=pure x)∧
  (∀A fp s2 H2 xe,In G fs sub k tb (cxC X N' sc A fp s2 H2 xe) g2)∧(∀A fp s2 H2 xe,PG (cxC X N' sc A fp s2 H2 xe) tgx (gTg G t))∧f g2 elt it ifs tgx=true:=by
 obtain⟨h0,h⟩:=aae h
 obtain⟨elt,gens,sc,pos,rfl,h⟩:=ah0 h
 obtain⟨⟨tgx,it,ifs,ia⟩,rfl,h⟩:=acG h
 obtain⟨h1,h2⟩:=aae h
 obtain⟨h1,h3⟩:=aae h1
 obtain⟨h1,h4⟩:=aae h1
 obtain⟨h2,h5⟩:=aae h2
 obtain⟨h2,h6⟩:=aae h2
 cases(of_decide_eq_true h1:ia=0)
 obtain⟨q1,q2,q3⟩:=aqq I h2
 have J:∀A fp s2 H2 xe,In G fs sub k tb (cxC X (gaC g sc tgx (slots t)).N sc A fp s2 H2 xe) (gaC g sc tgx (slots t)):=fun A fp s2 H2 xe=>
  ⟨rfl,q2,alE q3,alu I,q1.kind,fun z=>nt z,I.cm,I.hu,I.hr,I.fr,fun z=>nt z,fun z=>nt z,fun z=>nt z,I.hy⟩
 exact⟨I.cm h0,elt,tgx,it,ifs,sc,pos,gaC g sc tgx (slots t),(gaC g sc tgx (slots t)).N,rfl,q1,of_decide_eq_true h3,aez h4,J,fun A fp s2 H2 xe=>aqd (J A fp s2 H2 xe) h6,h5⟩
def ae7(r:Rc)(tb:Tab)(g:Ga)(e:Expr)(a:IP.E)(t:Tg)(b:IP.E):Bool:=apQ g e t fun g2 elt it ifs _=>ifs.isEmpty&&kIt r tb g it b&&r.v g2 elt a
end
section
variable(R:Sd G fs sub k tb r)(I:In G fs sub k tb X g)
include R I
theorem alD{t:Tg}(h:ae7 r tb g e a t b=true):Vo G fs sub k X e (.comp a t b):=by
 obtain⟨hc,elt,tgx,it,ifs,sc,pos,g2,N',rfl,q1,q2,q3,J,q4,h⟩:=aiZ I h
 obtain⟨h,h1⟩:=aae h
 cases aef (aae h).1
 exact akv (f:=fun σ st=>one (ev (cfX fs sub k) a .v σ st)) hc q1 q2 (anj R I (.inl ⟨rfl,rfl⟩) (aae h).2) q4 (fun A fp s2 H2 xe=>aiH (R.v (J A fp s2 H2 xe) h1)) q3 (fun _ _=>rfl) I.fr
theorem asU{t:Tg}(h:ae7 r tb g e a t b=true):Vv G fs sub k X e (.comp a t b):=am8 (alD R I h) fun _ _ _ _ h=>ah3 h
theorem awT(h:arv r g e a=true):Vv G fs sub k X e (.rev a):=am8 (apW R I h) fun _ _ _ _ h=>apn h
end
end
def aqG(f:List Expr→Expr→Pos→Bool):Stmt→Bool | .Assign l v p=>f l v p | _=>false
theorem agg{e:Stmt}{f:List Expr→Expr→Pos→Bool}(h:aqG f e=true):∃l v p,e=.Assign l v p∧f l v p=true:=by cases e<;>first|exact⟨_,_,_,rfl,h⟩|exact nt h
def awe(f:Option Expr→Pos→Bool):Stmt→Bool | .Return v p=>f v p | _=>false
theorem akU{e:Stmt}{f:Option Expr→Pos→Bool}(h:awe f e=true):∃v p,e=.Return v p∧f v p=true:=by cases e<;>first|exact⟨_,_,rfl,h⟩|exact nt h
def aqV(f:Expr→Pos→Bool):Stmt→Bool | .Expr v p=>f v p | _=>false
theorem al0{e:Stmt}{f:Expr→Pos→Bool}(h:aqV f e=true):∃v p,e=.Expr v p∧f v p=true:=by cases e<;>first|exact⟨_,_,rfl,h⟩|exact nt h
def amE(f:Expr→List Stmt→List Stmt→Pos→Bool):Stmt→Bool | .If c a b p=>f c a b p | _=>false
theorem amB{e:Stmt}{f:Expr→List Stmt→List Stmt→Pos→Bool}(h:amE f e=true):∃c a b p,e=.If c a b p∧f c a b p=true:=by cases e<;>first|exact⟨_,_,_,_,rfl,h⟩|exact nt h
def ata(f:Expr→List Stmt→List Stmt→Pos→Bool):Stmt→Bool | .While c a b p=>f c a b p | _=>false
theorem aq7{e:Stmt}{f:Expr→List Stmt→List Stmt→Pos→Bool}(h:ata f e=true):∃c a b p,e=.While c a b p∧f c a b p=true:=by cases e<;>first|exact⟨_,_,_,_,rfl,h⟩|exact nt h
def avL(f:Expr→Expr→List Stmt→List Stmt→Pos→Bool):Stmt→Bool | .For t c a b p=>f t c a b p | _=>false
theorem aoS{e:Stmt}{f:Expr→Expr→List Stmt→List Stmt→Pos→Bool}(h:avL f e=true):∃t c a b p,e=.For t c a b p∧f t c a b p=true:=by cases e<;>first|exact⟨_,_,_,_,_,rfl,h⟩|exact nt h
def auL(f:Option Expr→Option Expr→Pos→Bool):Stmt→Bool | .Raise a b p=>f a b p | _=>false
theorem apA{e:Stmt}{f:Option Expr→Option Expr→Pos→Bool}(h:auL f e=true):∃a b p,e=.Raise a b p∧f a b p=true:=by cases e<;>first|exact⟨_,_,_,rfl,h⟩|exact nt h
def awu(f:List Stmt→List ExceptHandler→List Stmt→List Stmt→Pos→Bool):Stmt→Bool | .Try a d b c p=>f a d b c p | _=>false
theorem aoE{e:Stmt}{f:List Stmt→List ExceptHandler→List Stmt→List Stmt→Pos→Bool}(h:awu f e=true):∃a d b c p,e=.Try a d b c p∧f a d b c p=true:=by cases e<;>first|exact⟨_,_,_,_,_,rfl,h⟩|exact nt h
def agT:Expr→Bool | .ListComp _ _ _ _=>false | .SetComp _ _ _ _=>false | .DictComp _ _ _ _ _=>false | _=>true
theorem aru{e:Expr}{t:Option Expr}{l:Nat}{v:Env}(h:agT e=true):swapsWith e t l v=pure false:=by
 cases e<;>first|rfl|exact nt h
theorem atF{e o:Expr}{x:Str}{p:Pos}{l:Nat}{v:Env}:swapsWith e (some (.Attribute o x p)) l v=pure false:=by cases e<;>rfl
theorem auq{e o j:Expr}{p:Pos}{l:Nat}{v:Env}:swapsWithSole [.Subscript o j p] e l v=pure false:=by cases e<;>rfl
theorem atl{e o j:Expr}{p:Pos}{v:Env}:swappedStores [.Subscript o j p] e v=pure none:=by cases e<;>rfl
theorem asp{e:Expr}{es:List Expr}{k:Nat}{p:Pos}{l:Nat}{v:Env}:swapsWithSole [.Tuple es k p] e l v=pure false:=by cases e<;>rfl
def apG:Expr→Bool | .Tuple _ _ _=>false | _=>true
theorem auh{e:Expr}{es:List Expr}{k:Nat}{p:Pos}{v:Env}(h:apG e=true):swappedStores [.Tuple es k p] e v=pure none:=by
 cases e<;>first|rfl|exact nt h
theorem atz{o j:Expr}{p:Pos}{v:Env}(h:acV j=true)(x:Value):assign (.Subscript o j p) v x=(do
   let ov ←holding [x] (eval o v)
   let iv ←holding [x,ov] (eval j v)
   standAt p
   holding [x,ov,iv] (setItem ov iv x)
   release [x,ov,iv] []):=by cases j<;>first|rfl|exact nt h
section
variable{G:Gx}{fs:List Fn}{sub:Nat→Nat→Bool}{k:Nat}{tb:Tab}{X:Cx}{g:Ga}{r:Rc}{st:Stmt}{sts:List Stmt}
variable{a b c d:IP.E}{as:List IP.E}{i:Nat}
def aus(q:NameKind):Bool:=decide (q=.local)||decide (q=.cell)
def swB(g:Ga)(t:Str)(tp:Pos)(e:Expr):Bool:=ao3 (fun _ _ sc vp=>isK (lk g.sc t) .local&&decide (tp.line=vp.line)&&!(sc.names.any fun x=>keq x.1 t&&aus x.2)) e
theorem apL{t:Str}{tp:Pos}{e:Expr}{l:Nat}(I:In G fs sub k tb X g)(h:agT e=false→ao3 (fun _ _ _ _=>true) e=true):swapsWith e (some (.Name t tp)) l X.env=pure (swB g t tp e):=by
 cases hc:agT e with
 | true=>
  rw[aru hc]
  cases e<;>first|rfl|exact nt hc
 | false=>
  obtain⟨elt,gens,sc,vp,rfl,_⟩:=ah0 (h hc)
  show(pure (X.env.blockKind==.function&&X.env.kindOf t==some .local&&tp.line==vp.line&&!(sc.names.any fun x=>x.1==t&&(x.2==.local||x.2==.cell))):Sem Bool)=pure (isK (lk g.sc t) .local&&decide (tp.line=vp.line)&&!(sc.names.any fun x=>keq x.1 t&&aus x.2))
  have e1:(sc.names.any fun x=>x.1==t&&(x.2==.local||x.2==.cell))=sc.names.any fun x=>keq x.1 t&&aus x.2:=by
   refine congrArg (sc.names.any) (funext fun x=>?_)
   rw[acR]
   obtain⟨n,q⟩:=x
   cases q<;>rfl
  have e2:(X.env.blockKind==ScopeKind.function)=true:=by
   unfold Env.blockKind
   rw[I.kd]
   rfl
  rw[e1,e2]
  unfold Env.kindOf
  rw[I.sc,aeS,aiT]
  rfl
def asw(g:Ga)(x:Str)(tp:Pos)(v:Expr):Bool:=agT v||ao3 (fun _ _ _ _=>true) v
theorem apl{x:Str}{tp:Pos}{v:Expr}{l:Nat}(I:In G fs sub k tb X g)(h:asw g x tp v=true):swapsWith v (some (.Name x tp)) l X.env=pure (swB g x tp v):=apL I fun z=>by
 unfold asw at h
 rw[z]at h
 exact h
end
structure Rs extends Rc where
 w:Ga→Expr→E→Bool
structure Ss(G:Gx)(fs:List Fn)(sub:Nat→Nat→Bool)(k:Nat)(tb:Tab)(r:Rs):Prop extends Sd G fs sub k tb r.toRc where
 w:∀{X g e e'},In G fs sub k tb X g→r.w g e e'=true→(∀(y:Str) (py spos:Pos) (i:Nat),X.N[i]?=some y→X.env.scope.names.lookup y=some .local→swapsWith e (some (.Name y py)) spos.line X.env=pure true→
  PS X (.Assign [.Name y py] e spos) (fun D σV H=>tO G X (cfX fs sub k) e' σV H fun v H1=>D.nx (σV.set i (some v)) H1))∧∀σ s r s1,ev (cfX fs sub k) e' .v σ s=.ok r s1→∃ts,r=.val (.lst ts)
section
variable{G:Gx}{fs:List Fn}{sub:Nat→Nat→Bool}{k:Nat}{tb:Tab}{X:Cx}{g:Ga}{r:Rs}{st:Stmt}{sts:List Stmt}{e:Expr}
variable{a b c d:IP.E}{as:List IP.E}{i:Nat}
section
variable(R:Sd G fs sub k tb r.toRc)(I:In G fs sub k tb X g)
include R I
theorem atg{t:Tg}(h:ae7 r.toRc tb g e a t b=true):(∀(y:Str) (py spos:Pos) (i:Nat),X.N[i]?=some y→X.env.scope.names.lookup y=some .local→swapsWith e (some (.Name y py)) spos.line X.env=pure true→
  PS X (.Assign [.Name y py] e spos) (fun D σV H=>tO G X (cfX fs sub k) (.comp a t b) σV H fun v H1=>D.nx (σV.set i (some v)) H1))∧∀σ s r s1,ev (cfX fs sub k) (.comp a t b) .v σ s=.ok r s1→∃ts,r=.val (.lst ts):=by
 refine⟨fun y py spos i hi hy hs=>?_,fun _ _ _ _ h=>ah3 h⟩
 obtain⟨hc,elt,tgx,it,ifs,sc,pos,g2,N',rfl,q1,q2,q3,J,q4,z⟩:=aiZ I h
 obtain⟨z,h1⟩:=aae z
 cases aef (aae z).1
 exact akt (f:=fun σ st=>one (ev (cfX fs sub k) a .v σ st)) hc q1 q2 (anj R I (.inl ⟨rfl,rfl⟩) (aae z).2) q4 (fun A fp s2 H2 xe=>aiH (R.v (J A fp s2 H2 xe) h1)) q3 (fun _ _=>rfl) hs (by rw[I.N];exact I.nd) hi hy I.fr
end
def kAs(g:Ga)(st:Stmt)(i:Nat)(f:Expr→Bool)(w:Expr→Bool):Bool:=aqG (fun l v _=>on1 (fun t=>ajs (fun x tp=>at? g i x&&akJ g x&&asw g x tp v&&(bif swB g x tp v then w v else f v)) t) l) st
section
variable(I:In G fs sub k tb X g)
include I
theorem apZ{f w:Expr→Bool}(h:kAs g st i f w=true):∃x tp v p,st=.Assign [.Name x tp] v p∧X.N.Nodup∧X.N[i]?=some x∧L2.Loc X.env.scope x∧(X.fn x=true∨X.env.scope.names.lookup x=some .local)∧
  ((f v=true∧swapsWith v (some (.Name x tp)) p.line X.env=pure false)∨(w v=true∧swapsWith v (some (.Name x tp)) p.line X.env=pure true∧X.env.scope.names.lookup x=some .local)):=by
 obtain⟨l,v,p,rfl,h⟩:=agg h
 obtain⟨t,rfl,h⟩:=acG h
 obtain⟨x,tp,rfl,h⟩:=acp h
 obtain⟨h,h4⟩:=aae h
 obtain⟨h,h3⟩:=aae h
 obtain⟨h1,h2⟩:=aae h
 obtain⟨q1,q2⟩:=akW I h2
 refine⟨x,tp,v,p,rfl,by rw[I.N];exact I.nd,aiL I h1,q1,q2,?_⟩
 rw[apl I h3]
 cases hs:swB g x tp v with
 | false=>rw[hs]at h4;exact .inl ⟨h4,rfl⟩
 | true=>
  rw[hs]at h4
  refine .inr ⟨h4,rfl,?_⟩
  obtain⟨_,_,sc,vp,rfl,z⟩:=ah0 hs
  rw[I.sc,aeS]
  exact ab1 (aae (aae z).1).1
def auP(r:Rs)(g:Ga)(st:Stmt)(i:Nat)(a:IP.E):Bool:=kAs g st i (fun v=>r.v g v a) fun v=>r.w g v a
end
section
variable(R:Ss G fs sub k tb r)(I:In G fs sub k tb X g)
include R I
theorem ayo(h:auP r g st i a=true):Vs G fs sub k X st (.asg i a):=by
 obtain⟨x,tp,v,p,rfl,nd,hi,hl,hf,⟨q1,q2⟩|⟨q1,q2,q3⟩⟩:=apZ I h
 ·exact anU nd hi hl (R.v I q1) q2 hf
 ·obtain⟨z1,z2⟩:=R.w I q1
  exact af0 z2 (z1 x tp p i hi q3 q2)
def kMk(r:Rs)(g:Ga)(st:Stmt)(i:Nat)(a:IP.E):Bool:=kAs g st i (fun v=>r.o g v a) fun v=>r.w g v a
theorem rMk(h:kMk r g st i a=true):Vs G fs sub k X st (.mk i a):=by
 obtain⟨x,tp,v,p,rfl,nd,hi,hl,hf,⟨q1,q2⟩|⟨q1,q2,q3⟩⟩:=apZ I h
 ·exact auy nd hi hl (R.o I q1) q2 hf
 ·obtain⟨z1,z2⟩:=R.w I q1
  exact agH (z1 x tp p i hi q3 q2)
def avB(r:Rs)(g:Ga)(st:Stmt)(js:List Nat)(a:IP.E):Bool:=g.calm&&aqG (fun l v _=>on1 (fun t=>anG (fun es _ _=>ajG (kNm g) es js&&apG v&&r.v g v a) t) l) st
theorem ay4{js:List Nat}(h:avB r g st js a=true):Vs G fs sub k X st (.asgT js a):=by
 obtain⟨h0,h⟩:=aae h
 obtain⟨l,v,p,rfl,h⟩:=agg h
 obtain⟨t,rfl,h⟩:=acG h
 obtain⟨es,_,_,rfl,h⟩:=agc h
 obtain⟨q1,q2,q3⟩:=ahE I es js (aae (aae h).1).1
 exact am2 (I.cm h0) (R.v I (aae h).2) q1 q2 q3 asp (auh (aae (aae h).1).2) rfl
end
section
variable(R:Ss G fs sub k tb r)(I:In G fs sub k tb X g)
include R I
def aub(f:Expr→Expr→Expr→Bool)(st:Stmt):Bool:=aqG (fun l v _=>on1 (fun t=>arz (fun o j _=>acV j&&f o j v) t) l) st
end
theorem aom{f:Expr→Expr→Expr→Bool}(h:aub f st=true):∃o j q v p,st=.Assign [.Subscript o j q] v p∧acV j=true∧f o j v=true:=by
 obtain⟨l,v,p,rfl,h⟩:=agg h
 obtain⟨t,rfl,h⟩:=acG h
 obtain⟨o,j,q,rfl,h⟩:=ajn h
 exact⟨o,j,q,v,p,rfl,aae h⟩
section
variable(R:Ss G fs sub k tb r)(I:In G fs sub k tb X g)
include R I
theorem ass(h:aub (fun o j v=>r.v g o a&&(r.v g j b&&r.v g v c)) st=true):Vs G fs sub k X st (.putL a b c):=by
 obtain⟨o,j,q,v,p,rfl,hj,h⟩:=aom h
 exact amb (R.v I (aae (aae h).2).2) (R.v I (aae h).1) (R.v I (aae (aae h).2).1) auq atl rfl (atz hj)
def apo(f:Expr→Expr→Bool)(st:Stmt):Bool:=aqV (fun e _=>at4 (fun o m p l q=>keq m "append"&&adz o&&(p.endLine==q.line)&&on1 (fun v=>aaE v&&f o v) l) e) st
end
theorem avV{v:Expr}{q:Pos}{w:Env}(h:aaE v=true):((backTo q (starEach [v] w)).all (fun x=>!x.1)&&(backToKw q (keywordEach [] w)).all (fun x=>x.1.isSome)&&decide ([v].length+([]:List Keyword).length+(if([]:List Keyword).isEmpty then 0 else 1)<30))=true:=by
 rw[aar h]
 rfl
theorem al9{f:Expr→Expr→Bool}(h:apo f st=true):∃o p v q pos,st=.Expr (.Call (.Attribute o "append" p) [v] [] q) pos∧adz o=true∧(p.endLine==q.line)=true∧aaE v=true∧f o v=true:=by
 obtain⟨e,pos,rfl,h⟩:=al0 h
 obtain⟨o,m,p,l,q,rfl,h⟩:=alK h
 obtain⟨h,h4⟩:=aae h
 obtain⟨h,h3⟩:=aae h
 obtain⟨h1,h2⟩:=aae h
 cases abg h1
 obtain⟨v,rfl,h4⟩:=acG h4
 exact⟨o,p,v,q,pos,rfl,h2,h3,aae h4⟩
section
variable(R:Ss G fs sub k tb r)(I:In G fs sub k tb X g)
include R I
theorem axg(h:apo (fun o v=>ajs (fun x _=>at? g i x&&aiB g x) o&&r.v g v a) st=true):Vs G fs sub k X st (.app i a):=by
 obtain⟨o,p,v,q,pos,rfl,h1,h2,h3,h4⟩:=al9 h
 obtain⟨h4,h5⟩:=aae h4
 obtain⟨x,xp,rfl,z⟩:=acp h4
 have hi:=aiL I (aae z).1
 exact aoe hi (alm I (aae z).2) (ajz I hi).1 (ajz I hi).2 (R.v I h5) (aar h3) h2 (ac9 h1) (avV h3) (aru rfl)
theorem asZ(h:apo (fun o v=>r.v g o a&&r.v g v b) st=true):Vs G fs sub k X st (.appL a b):=by
 obtain⟨o,p,v,q,pos,rfl,h1,h2,h3,h4⟩:=al9 h
 exact amZ (R.v I (aae h4).1) (R.v I (aae h4).2) (aar h3) h2 (ac9 h1) (avV h3) (aru rfl)
end
section
variable(I:In G fs sub k tb X g)
include I
def aq9(r:Rs)(tb:Tab)(g:Ga)(st:Stmt)(a:IP.E)(c f:Nat)(b:IP.E):Bool:=aqG (fun l v _=>on1 (fun t=>aqX (fun o x _=>aml tb c f x&&(r.v g o a&&r.v g v b)) t) l) st
end
section
variable(R:Ss G fs sub k tb r)(I:In G fs sub k tb X g)
include R I
theorem aug{c f:Nat}(h:aq9 r tb g st a c f b=true):Vs G fs sub k X st (.setF a c f b):=by
 obtain⟨l,v,p,rfl,h⟩:=agg h
 obtain⟨t,rfl,h⟩:=acG h
 obtain⟨o,x,q,rfl,h⟩:=ahU h
 obtain⟨h1,h2⟩:=aae h
 obtain⟨q1,q2,q3,q4,q5⟩:=ahT I h1
 exact an0 q1 q2 q4 q5 q3 (R.v I (aae h2).1) (R.v I (aae h2).2) atF
end
def arx(f:Expr→Bool)(st:Stmt):Bool:=awe (fun v _=>ifS v f) st
section
variable(R:Ss G fs sub k tb r)(I:In G fs sub k tb X g)
include R I
theorem axP(h:arx (fun v=>r.v g v a) st=true):Vs G fs sub k X st (.ret a):=by
 obtain⟨v,p,rfl,h⟩:=akU h
 obtain⟨v,rfl,h⟩:=aa5 h
 exact apw (R.v I h)
theorem asL(h:arx (fun v=>r.o g v a) st=true):Vs G fs sub k X st (.retO a):=by
 obtain⟨v,p,rfl,h⟩:=akU h
 obtain⟨v,rfl,h⟩:=aa5 h
 exact an6 (R.o I h)
end
section
variable(I:In G fs sub k tb X g)
include I
end
section
variable(R:Ss G fs sub k tb r)(I:In G fs sub k tb X g)
include R I
theorem axS(h:aqV (fun v _=>agT v&&r.v g v a) st=true):Vs G fs sub k X st (.exp a):=by
 obtain⟨v,p,rfl,h⟩:=al0 h
 exact anZ (R.v I (aae h).2) (aru (aae h).1)
theorem axL{as bs:List S}(h:amE (fun x p q _=>r.t g x c&&(r.s g p as&&r.s g q bs)) st=true):Vs G fs sub k X st (.ifs c as bs):=by
 obtain⟨x,p,q,_,rfl,h⟩:=amB h
 exact apC (R.t I (aae h).1) (R.s I (aae (aae h).2).1) (R.s I (aae (aae h).2).2)
theorem axf{as:List S}(h:(g.top&&ata (fun x p q _=>q.isEmpty&&(r.t g x c&&r.s g p as)) st)=true):Vs G fs sub k X st (.whl c as):=by
 obtain⟨h0,h⟩:=aae h
 obtain⟨x,p,q,_,rfl,h⟩:=aq7 h
 obtain⟨y0,y1⟩:=aae h
 obtain⟨y2,y3⟩:=aae y1
 cases aef y0
 exact aqk rfl (I.hp h0) (R.t I y2) (R.s I y3)
def apE(r:Rs)(g:Ga)(st:Stmt)(t:Tg)(as:List S)(f:Expr→Expr→Bool):Bool:=g.top&&g.calm&&avL (fun x e p q _=>q.isEmpty&&aiK e&&(kTg g x t&&r.s g p as&&f x e)) st
theorem alj{t:Tg}{as:List S}{f:Expr→Expr→Bool}(h:apE r g st t as f=true):X.calm=true∧PassesOwn (model X.prog X.w) X.A X.env X.xe∧∃x e p q,st=.For x e p [] q∧(∀y,foldedSetIterable e X.env y=pure y)∧PG X x (gTg G t)∧Vz G fs sub k X p as∧f x e=true:=by
 obtain⟨h0,h⟩:=aae h
 obtain⟨x,e,p,q,ps,rfl,h⟩:=aoS h
 obtain⟨h1,h2⟩:=aae h
 obtain⟨h2,h3⟩:=aae h2
 cases aef (aae h1).1
 exact⟨I.cm (aae h0).2,I.hp (aae h0).1,x,e,p,ps,rfl,aez (aae h1).2,aqd I (aae h2).1,R.s I (aae h2).2,h3⟩
def alt:IP.E→Bool | .var _=>false | _=>true
theorem ayd{t:Tg}{as:List S}(h:apE r g st t as (fun _ e=>alt a&&kIt r.toRc tb g e a)=true):Vs G fs sub k X st (.for_ t a as):=by
 obtain⟨hc,hp,x,e,p,q,rfl,h1,h2,h3,h4⟩:=alj R I h
 refine ap6 hp hc (anj R.toSd I (.inr ⟨rfl,rfl⟩) (aae h4).2) h2 h3 h1 fun i z=>?_
 have z2:=(aae h4).1
 rw[z]at z2
 exact nt z2
theorem axC{js:List Nat}{as:List S}(h:apE r g st (.many js) as (fun x e=>kB1 r.toRc tb g "enumerate" e a&&anG (fun _ _ _=>true) x)=true):Vs G fs sub k X st (.for_ (.many js) (.enm a) as):=by
 obtain⟨hc,hp,x,e,p,q,rfl,h1,h2,h3,h4⟩:=alj R I h
 obtain⟨es,kk,pp,rfl,_⟩:=agc (aae h4).2
 obtain⟨y,yp,q,rfl,v,hg,hm,hs⟩:=abd R.toSd I (aae h4).1
 exact ao4 hp hc hg hm v hs h2 h3 h1
end
def akY(tb:Tab)(g:Ga)(st:Stmt)(c:Nat):Bool:=g.calm&&tb.rs.contains c&&auL (fun e f _=>f.isNone&&ifS e (af4 fun x l=>ajA c (ak4 tb g x)&&on1 (amg fun s _ _=>match s with | .str _=>true | _=>false) l)) st
section
variable(I:In G fs sub k tb X g)
include I
theorem aoK{C:Cf}{c:Nat}(h:akY tb g st c=true):PS X st (tS G X C (.raise c)):=by
 obtain⟨h0,h⟩:=aae h
 obtain⟨e,f,p,rfl,y⟩:=apA h
 obtain⟨y0,y1⟩:=aae y
 obtain⟨e,rfl,y2⟩:=aa5 y1
 obtain⟨x,xp,l,q,rfl,y3⟩:=acl y2
 obtain⟨h1,h2⟩:=aae y3
 obtain⟨s,rfl,h3⟩:=acG h2
 obtain⟨s,j,p,rfl,h4⟩:=aeZ h3
 obtain⟨z1,z2,z3⟩:=aeU I (afA h1)
 cases abT y0
 cases s<;>first|exact nt h4|exact akc (I.cm (aae h0).1) z1 z2 (I.hy.rs c (List.contains_iff_mem.mp (aae h0).2)) PySem.F.excBase_ValueError z3 rfl
def ayb(f:Option Expr→Option Str→List Stmt→Bool):ExceptHandler→Bool | .ExceptHandler t n b _=>f t n b
def apc(r:Rs)(tb:Tab)(g:Ga)(st:Stmt)(as bs:List S)(c:Nat)(f:Option Str→Bool):Bool:=g.top&&tb.ct.contains c&&awu (fun p d q z _=>q.isEmpty&&z.isEmpty&&r.s g p as&&on1 (ayb fun t n u=>f n&&ifS t (ajs fun x _=>ajA c (ak4 tb g x))&&!u.isEmpty&&r.s { g with calm:=false,top:=false } u bs) d) st
end
section
variable(R:Ss G fs sub k tb r)(I:In G fs sub k tb X g)
include R I
theorem alo{as bs:List S}{c:Nat}{f:Option Str→Bool}(h:apc r tb g st as bs c f=true):∃body x xp n b₀ suite hp pos,st=.Try body [.ExceptHandler (some (.Name x xp)) n (b₀::suite) hp] [] [] pos∧f n=true∧
  (X.stack=X.env::X.outer∧X.env.frame=some X.env.locals)∧X.ex=[]∧Gl X x∧X.mg x=some (.ref (G.cA c))∧(x==("__debug__":Str))=false∧(∀d,PySem.W.exmOne X.K (.ref (G.cA d)) (.ref (G.cA c))=some ((cfX fs sub k).sub d c))∧
  (∀(E:Value→Shared→Prop) (pn:List (Addr×Obj)),PassesOwn (model X.prog X.w) X.A X.env E→PSs (aeX X E pn) body (tSs G (aeX X E pn) (cfX fs sub k) as))∧(∀e,PSs (hnd X e) (b₀::suite) (tSs G (hnd X e) (cfX fs sub k) bs)):=by
 obtain⟨h0,h⟩:=aae h
 obtain⟨body,d,q,z,pos,rfl,y⟩:=aoE h
 obtain⟨y1,y2⟩:=aae y
 obtain⟨y3,h3⟩:=aae y1
 obtain⟨y4,y5⟩:=aae y3
 obtain⟨⟨t,n,u,hp⟩,rfl,y6⟩:=acG y2
 obtain⟨y7,h4⟩:=aae y6
 obtain⟨y8,h5⟩:=aae y7
 obtain⟨h2,y9⟩:=aae y8
 obtain⟨t,rfl,ya⟩:=aa5 y9
 obtain⟨x,xp,rfl,yb⟩:=acp ya
 obtain⟨z1,z2,z3⟩:=aeU I (afA yb)
 cases aef y4
 cases aef y5
 cases u with
 | nil=>exact nt h5
 | cons b₀ suite=>
  refine⟨body,x,xp,n,b₀,suite,hp,pos,rfl,h2,I.st (aae h0).1,I.ex (aae h0).1,z1,z2,z3,I.hy.ct c (List.contains_iff_mem.mp (aae h0).2),fun E pn hE=>R.s (X:=aeX X E pn) ?_ h3,fun e=>R.s (X:=hnd X e) ?_ h4⟩
  ·exact⟨I.N,I.nd,I.dn,I.sc,I.kd,I.fl,I.cm,I.hu,I.hr,I.fr,fun _=>hE,I.st,I.ex,I.hy⟩
  ·exact⟨I.N,I.nd,I.dn,I.sc,I.kd,I.fl,fun z=>nt z,I.hu,fun z=>nt z,I.fr,fun z=>nt z,fun z=>nt z,fun z=>nt z,I.hy⟩
theorem asi{as bs:List S}{c:Nat}(h:apc r tb g st as bs c (fun n=>n.isNone)=true):Vs G fs sub k X st (.try_ as c none bs):=by
 obtain⟨body,x,xp,n,b₀,suite,hp,pos,rfl,h1,h2,h3,h4,h5,h6,h7,h8,h9⟩:=alo R I h
 cases abT h1
 exact ame h2 h4 h5 h6 h7 h8 h9
theorem at0{as bs:List S}{c:Nat}(h:apc r tb g st as bs c (fun n=>ifS n fun y=>at? g i y&&isK (lk g.sc y) .local)=true):Vs G fs sub k X st (.try_ as c (some i) bs):=by
 obtain⟨body,x,xp,n,b₀,suite,hp,pos,rfl,h1,h2,h3,h4,h5,h6,h7,h8,h9⟩:=alo R I h
 obtain⟨y,rfl,h1⟩:=aa5 h1
 exact anf h2 h3 (by rw[I.N];exact I.nd) (aiL I (aae h1).1) (by rw[acN I];exact ab1 (aae h1).2) h4 h5 h6 h7 h8 h9
end
def kSs(f:Ga→Stmt→S→Bool)(g:Ga):List Stmt→List S→Bool
 | [],[]=>true
 | sts,.frz _::as=>kSs f g sts as
 | st::sts,a::as=>f g st a&&kSs f g sts as
 | _,_=>false
theorem am0{C:Cf}{f:Ga→Stmt→S→Bool}(H:∀st a,f g st a=true→PS X st (tS G X C a)):∀(as:List S) (sts:List Stmt),kSs f g sts as=true→PSs X sts (tSs G X C as)
 | [],[],_=>amK
 | [],_::_,h=>nt h
 | a::as,sts,h=>by
  cases a with
  | frz i=>cases sts<;>exact ans (am0 H as _ h)
  | _=>
   cases sts with
   | nil=>exact nt h
   | cons st sts=>exact ajJ (H _ _ (aae h).1) (am0 H as sts (aae h).2)
end
structure DI where
 st:Stmt
 x:Str
 q:Str
 N:List Str
 ps:List Str
def Df(K:PySem.W.Frag)(tb:Tab)(dis:List DI)(i:Nat)(fa:Addr):Prop:=
 ∃fd d,dis[i]?=some d∧FunD K d.x d.q d.st fa fd∧∀ts,ts=[]∨ts∈dfl tb i→∃(dvs:List V) (ds:List Value),ts.mapM cstV=some dvs∧Vals dvs ds∧Binds K fd d.ps ds
def pre?:List Str→List Str→Bool
 | [],_=>true
 | x::p,y::q=>keq x y&&pre? p q
 | _,_=>false
theorem al3:∀{p q:List Str},pre? p q=true→q.take p.length=p
 | [],q,_=>by simp
 | x::p,y::q,h=>by
  rw[List.length_cons,List.take_succ_cons,abg (aae h).1,al3 (aae h).2]
def ga0(d:DI):Ga:=⟨d.N,(defScope d.st).names,true,true,true⟩
def ckF(d:DI):Bool:=decide ((defScope d.st).kind=.function)&&!(defScope d.st).isCoroutine&&!(defScope d.st).isGenerator&&(ndB d.N&&d.N.all okN&&pre? d.ps d.N) &&
 (d.ps.all (fun x=>isK (lk (defScope d.st).names x) .local||isK (lk (defScope d.st).names x) .cell))&&(defScope d.st).names.all fun y=>!decide (y.2=.free)
theorem aqx{d:DI}(h:ckF d=true):FnScope d.N d.ps (defScope d.st)∧d.N.all okN=true:=by
 obtain⟨h,h6⟩:=aae h
 obtain⟨h,h5⟩:=aae h
 obtain⟨h,h4⟩:=aae h
 obtain⟨h,h3⟩:=aae h
 obtain⟨h1,h2⟩:=aae h
 obtain⟨h7,h8⟩:=aae h4
 obtain⟨h7,h9⟩:=aae h7
 refine⟨⟨of_decide_eq_true h1,(Bool.not_eq_true' _).mp h2,(Bool.not_eq_true' _).mp h3,ags h7,al3 h8,fun x hx=>?_,fun y hy e=>?_⟩,h9⟩
 ·rw[aeS]
  exact((Bool.or_eq_true _ _).mp (List.all_eq_true.mp h5 x hx)).imp ab1 ab1
 ·have z:=List.all_eq_true.mp h6 y hy
  rw[decide_eq_true e]at z
  exact nt z
def ck1(r:Rs)(d:DI)(F:Fn):Bool:=ckF d&&decide (F.pars=d.ps.length)&&decide (F.size=d.N.length)&&r.s (ga0 d) (defBody d.st) F.body
def aiA(r:Rs):List DI→List Fn→Bool
 | [],[]=>true
 | d::ds,F::fs=>ck1 r d F&&aiA r ds fs
 | _,_=>false
theorem afZ{r:Rs}:∀{ds:List DI}{fs:List Fn},aiA r ds fs=true→∀(i:Nat) (d:DI),ds[i]?=some d→∃F,fs[i]?=some F∧ck1 r d F=true
 | [],[],_,i,d,e=>by simp at e
 | d::ds,F::fs,h,0,d',e=>by cases e;exact⟨F,rfl,(aae h).1⟩
 | d::ds,F::fs,h,i+1,d',e=>afZ (aae h).2 i d' e
section
variable{P:Program}{w:World}{K:PySem.W.Frag}{mg:Str→Option Value}{base:Heap}{G:Gx}{fs:List Fn}{sub:Nat→Nat→Bool}{tb:Tab}{dis:List DI}{r:Rs}
theorem aiS(R:∀k,Ss G fs sub k tb r)(T:Hy K mg G sub tb (Df K tb dis))(h:aiA r dis fs=true):∀(k i:Nat) (d:DI) (fa:Addr) (fd:FuncData),dis[i]?=some d→FunD K d.x d.q d.st fa fd→FnOk P w K mg base (CXE G P w base) (2*k) fa fd d.ps (spG G (cfX fs sub k).cf (cfX fs sub k).fr i)
 | 0,i,d,fa,fd,_,_=>afx (sub:=sub)
 | k+1,i,d,fa,fd,hd,Fu=>by
  obtain⟨F,hF,h1⟩:=afZ h i d hd
  obtain⟨h1,h5⟩:=aae h1
  obtain⟨h1,h4⟩:=aae h1
  obtain⟨h2,h3⟩:=aae h1
  obtain⟨S,no⟩:=aqx h2
  refine apP Fu S hF (of_decide_eq_true h3) (of_decide_eq_true h4) fun cdv A outer s H E hr hu hp=>(R k).s ?_ h5
  exact⟨rfl,S.nd,alE no,rfl,S.kind,fun _ _=>rfl,fun _=>rfl,hu,fun _=>hr,⟨_,_,_,rfl,rfl,rfl⟩,fun _=>hp,fun _=>⟨rfl,rfl⟩,fun _=>rfl,
   T.mono fun i fa ⟨fd,d,e,f,b⟩=>⟨fd,d.ps,aiS R T h k i d fa fd e f,b⟩⟩
end
def afq{α:Type}(p:α→Prop):List α→Prop
 | []=>True
 | a::r=>p a∧afq p r
theorem abo{α:Type}{p:α→Prop}:∀{l:List α},afq p l→∀a∈l,p a
 | _::_,h,_,.head _=>h.1
 | _::_,h,_,.tail _ m=>abo h.2 _ m
def bad:Rs:=⟨⟨fun _ _ _=>false,fun _ _ _=>false,fun _ _ _=>false,fun _ _ _=>false⟩,fun _ _ _=>false⟩
theorem aow{G:Gx}{fs:List Fn}{sub:Nat→Nat→Bool}{k:Nat}{tb:Tab}:Ss G fs sub k tb bad:=
 ⟨⟨fun _ h=>nt h,fun _ h=>nt h,fun _ h=>nt h,fun _ h=>nt h⟩,fun _ h=>nt h⟩
def auG(rows:List (List Bool))(d c:Nat):Bool:=nth (nth rows (rows.headD []) d) false c
abbrev nE(el:List Addr):Nat→Addr:=nth el (el.headD 0)
section
variable(K:PySem.W.Frag)(el il:List Addr)(tb:Tab)(dis:List DI)
def GkK:Str×Gk→Prop
 | (x,.blt)=>PySem.W.nsIn K mainGlobals x=some none
 | (x,.int i)=>∃t,PySem.W.nsIn K mainGlobals x=some (some (.int i t))
 | (x,.exc c)=>PySem.W.nsIn K mainGlobals x=some (some (.ref (nE el c)))
 | (x,.cls c i)=>PySem.W.nsIn K mainGlobals x=some (some (.ref (nE il c)))∧PySem.W.makesIn K (nE il c)=true∧PySem.W.keepIn K (.ref (nE il c))=true∧∃fa,PySem.W.findIn K (.ref (nE il c)) "__init__"=some (some (.ref fa))∧PySem.W.isFn K (.ref fa)=true∧Df K tb dis i fa
 | (x,.fn i)=>∃fa,PySem.W.nsIn K mainGlobals x=some (some (.ref fa))∧PySem.W.keepIn K (.ref fa)=true∧Df K tb dis i fa
def MkK(q:Str×Nat×Nat):Prop:=∃fa,PySem.W.findIn K (.ref (nE il q.2.1)) q.1=some (some (.ref fa))∧PySem.W.isFn K (.ref fa)=true∧PySem.W.keepIn K (.ref fa)=true∧Df K tb dis q.2.2 fa
def ClL:List Addr→List (List Str)→Prop
 | a::as,l::ls=>(Cls K a∧afq (abb K a) l)∧ClL as ls
 | [],[]=>True
 | _,_=>False
def ann{α β:Type}(p:α→β→Prop):List α→List β→Prop
 | a::as,b::bs=>p a b∧ann p as bs
 | [],[]=>True
 | _,_=>False
end
section
variable{K:PySem.W.Frag}{el il:List Addr}{tb:Tab}{dis:List DI}{rows:List (List Bool)}
theorem allP_cons{α:Type}{p:α→Prop}{a:α}{r:List α}(h:p a)(q:afq p r):afq p (a::r):=⟨h,q⟩
theorem AllZ_cons{α β:Type}{p:α→β→Prop}{a:α}{r:List α}{b:β}{s:List β}(h:p a b)(q:ann p r s):ann p (a::r) (b::s):=⟨h,q⟩
theorem aii{α β:Type}{p:α→β→Prop}{a0:α}{b0:β}(h0:p a0 b0):∀{as:List α}{bs:List β},ann p as bs→∀d,p (nth as a0 d) (nth bs b0 d)
 | [],[],_,_=>h0
 | a::as,b::bs,h,0=>h.1
 | a::as,b::bs,h,d+1=>aii h0 h.2 d
theorem ahS{a b:Nat}{p:Addr→List Bool→Prop}(h:ann p el rows)(ne:el≠[]):∀d,p (nE el d) (nth rows (rows.headD []) d):=by
 cases el with
 | nil=>exact absurd rfl ne
 | cons e er=>cases rows with
  | nil=>exact h.elim
  | cons r rr=>exact aii h.1 h
theorem atG{p:Addr→Prop}(ne:el≠[])(h:afq p el)(d:Nat):p (nE el d):=by
 cases el with
 | nil=>exact absurd rfl ne
 | cons e er=>
  have:∀(as:List Addr),afq p as→∀d,p (nth as e d):=by
   intro as
   induction as with
   | nil=>exact fun _ _=>h.1
   | cons a as ih=>exact fun q d=>by cases d with
    | zero=>exact q.1
    | succ d=>exact ih q.2 d
  exact this _ h d
theorem aih:∀{il:List Addr}{nm:List (List Str)}{z:Addr},ClL K il nm→∀(c:Nat) (l:List Str),nm[c]?=some l→nth nm [] c=l∧Cls K (nth il z c)∧afq (abb K (nth il z c)) l
 | [],[],_,_,c,l,e=>by simp at e
 | a::as,l::ls,z,h,0,l',e=>by cases e;exact⟨rfl,h.1⟩
 | a::as,l::ls,z,h,c+1,l',e=>aih (il:=as) (nm:=ls) h.2 c l' e
def ckT(tb:Tab):Bool:=tb.g.all (fun x=>!keq x.1 "__debug__")&&tb.nm.all (fun l=>ndB l&&decide (l.length≤100))&&tb.m.all fun q=>decide (q.2.1<tb.nm.length)&&!(nth tb.nm [] q.2.1).any (keq q.1)
def HyA(K:PySem.W.Frag)(el il:List Addr)(rows:List (List Bool))(tb:Tab)(dis:List DI):Prop:=
 afq (GkK K el il tb dis) tb.g∧afq (MkK K il tb dis) tb.m∧ClL K il tb.nm∧afq (fun c=>PySem.W.excIn K (nE el c) [.type "ValueError",.type "Exception",.type "BaseException",.type "object"] "ValueError.__new__"=true) tb.rs∧
  afq (fun c=>el≠[]∧ann (fun e row=>PySem.W.exmOne K (.ref e) (.ref (nE el c))=some (nth row false c)) el rows) tb.ct∧
  afq (fun c=>(el≠[]∧afq (ExcK K) el)∧ann (fun e row=>PySem.W.kitOne K (.ref e) (.ref (nE el c))=some (nth row false c)) el rows) tb.ix
theorem hy_mk{h:Heap}{mg:Str→Option Value}(X:K.In h)(Gn:h.Ns mainGlobals mg)(hT:ckT tb=true)(hA:HyA K el il rows tb dis):∃G,G.K=K∧
  Hy K mg G (auG rows) tb (Df K tb dis):=by
 obtain⟨hg,hm,hc,hr,ht,hx⟩:=hA
 refine⟨⟨K,nE el,nE il,nth tb.nm []⟩,rfl,?_⟩
 obtain⟨t1,t3⟩:=aae hT
 obtain⟨t1,t2⟩:=aae t1
 have hcl:∀(c:Nat) (l:List Str),tb.nm[c]?=some l→nth tb.nm [] c=l∧Cls K (nE il c)∧afq (abb K (nE il c)) l:=aih hc
 refine⟨fun x q e=>?_,fun x q e=>?_,fun x c i e=>?_,fun c l e=>?_,abo hr,fun c m d=>?_,fun c m=>?_⟩
 ·have z:=abo hg _ (ae0 e)
  cases q with
  | blt=>exact PySem.W.mg_none_of X Gn z
  | fn i=>obtain⟨fa,a,b,c⟩:=z;exact⟨fa,PySem.W.mg_of X Gn a,b,c⟩
  | cls c i=>obtain⟨a,b,kc,fa,d,f,k⟩:=z;exact⟨PySem.W.mg_of X Gn a,fa,⟨b,d,f,kc⟩,k⟩
  | exc c=>exact PySem.W.mg_of X Gn z
  | int i=>obtain⟨t,a⟩:=z;exact⟨t,PySem.W.mg_of X Gn a⟩
 ·rw[acR]
  exact(Bool.not_eq_true' _).mp (List.all_eq_true.mp t1 _ (ae0 e))
 ·have m:=ae0 e
  obtain⟨fa,a,b,k,d⟩:=abo hm _ m
  obtain⟨q1,q2⟩:=aae (List.all_eq_true.mp t3 _ m)
  have hl:c<tb.nm.length:=of_decide_eq_true q1
  obtain⟨y1,y2,_⟩:=hcl c _ (List.getElem?_eq_getElem hl)
  refine⟨y2,fa,⟨a,b,k⟩,fun hx=>?_,d⟩
  have:(nth tb.nm [] c).any (keq x)=true:=List.any_eq_true.mpr ⟨x,hx,af5⟩
  rw[this]at q2
  exact nt q2
 ·obtain⟨y1,y2,y3⟩:=hcl c l e
  obtain⟨q1,q2⟩:=aae (List.all_eq_true.mp t2 _ (List.mem_of_getElem? e))
  exact⟨y1,y2,ags q1,of_decide_eq_true q2,abo y3⟩
 ·obtain⟨ne,z⟩:=abo ht c m
  exact ahS (a:=0) (b:=0) z ne d
 ·obtain⟨⟨ne,z1⟩,z⟩:=abo hx c m
  exact⟨atG ne z1,ahS (a:=0) (b:=0) z ne⟩
theorem df_mk{i:Nat}{d:DI}{f:Addr}{oc dv kV dc pm cd ct:Value}{od an:Option Addr}{sl:Array (Option Value)}(hd:dis[i]?=some d)(l:K.lookup f=some ⟨oc,od,.func (PySem.W.fnOf d.x d.q (defArgs d.st) (defBody d.st) (defScope d.st) dv kV dc pm an cd ct),sl⟩)
  (c:PySem.W.codeIn K cd d.q=true) (k:PySem.W.keepIn K (.ref f)=true) (hb:∀ts,ts=[]∨ts∈dfl tb i→∃(dvs:List V) (ds:List Value),ts.mapM cstV=some dvs∧Vals dvs ds∧Binds K (PySem.W.fnOf d.x d.q (defArgs d.st) (defBody d.st) (defScope d.st) dv kV dc pm an cd ct) d.ps ds):Df K tb dis i f:=
 ⟨_,d,hd,aid l c k,hb⟩
theorem bd0{fd:FuncData}{ps:List Str}{i:Nat}(h0:dfl tb i=[])(h:arl ps.length fun us=>bindArgs fd ⟨us,[]⟩=pure (ps.zip us)):∀ts,ts=[]∨ts∈dfl tb i→∃(dvs:List V) (ds:List Value),ts.mapM cstV=some dvs∧Vals dvs ds∧Binds K fd ps ds:=fun ts z=>by
 rcases z with rfl|z
 ·exact⟨[],[],rfl,.nil,.all (atB _ h)⟩
 ·rw[h0]at z;cases z
theorem g_blt{x:Str}(h:PySem.W.nsIn K mainGlobals x=some none):GkK K el il tb dis (x,.blt):=h
theorem g_int{x:Str}{i:Int}{t:Tok}(h:PySem.W.nsIn K mainGlobals x=some (some (.int i t))):GkK K el il tb dis (x,.int i):=⟨t,h⟩
theorem g_exc{x:Str}{c:Nat}{a:Addr}(e:nE el c=a)(h:PySem.W.nsIn K mainGlobals x=some (some (.ref a))):GkK K el il tb dis (x,.exc c):=by subst e;exact h
theorem g_cls{x:Str}{c i:Nat}{a fa:Addr}(e:nE il c=a)(h:PySem.W.nsIn K mainGlobals x=some (some (.ref a)))(h1:PySem.W.makesIn K a=true)(h2:PySem.W.keepIn K (.ref a)=true)(h3:PySem.W.findIn K (.ref a) "__init__"=some (some (.ref fa)))(h4:PySem.W.isFn K (.ref fa)=true)(h5:Df K tb dis i fa):GkK K el il tb dis (x,.cls c i):=by
 subst e
 exact⟨h,h1,h2,fa,h3,h4,h5⟩
theorem g_fn{x:Str}{i:Nat}{fa:Addr}(h:PySem.W.nsIn K mainGlobals x=some (some (.ref fa)))(h1:PySem.W.keepIn K (.ref fa)=true)(h2:Df K tb dis i fa):GkK K el il tb dis (x,.fn i):=⟨fa,h,h1,h2⟩
theorem g_na{C:Addr}{x:Str}(h:PySem.W.findIn K (.ref C) x=some none):abb K C x:=h
theorem g_rs{c:Nat}{a:Addr}(e:nE el c=a)(h:PySem.W.excIn K a [.type "ValueError",.type "Exception",.type "BaseException",.type "object"] "ValueError.__new__"=true):PySem.W.excIn K (nE el c) [.type "ValueError",.type "Exception",.type "BaseException",.type "object"] "ValueError.__new__"=true:=by rw[e];exact h
theorem g_ct{c:Nat}{a x:Addr}{row:List Bool}{b:Bool}(e:nE el c=a)(eb:nth row false c=b)(h:PySem.W.exmOne K (.ref x) (.ref a)=some b):PySem.W.exmOne K (.ref x) (.ref (nE el c))=some (nth row false c):=by rw[e,eb];exact h
theorem g_ix{c:Nat}{a x:Addr}{row:List Bool}{b:Bool}(e:nE el c=a)(eb:nth row false c=b)(h:PySem.W.kitOne K (.ref x) (.ref a)=some b):PySem.W.kitOne K (.ref x) (.ref (nE el c))=some (nth row false c):=by rw[e,eb];exact h
theorem g_m{x:Str}{c i:Nat}{a fa:Addr}(e:nE il c=a)(h:PySem.W.findIn K (.ref a) x=some (some (.ref fa)))(h1:PySem.W.isFn K (.ref fa)=true)(h2:PySem.W.keepIn K (.ref fa)=true)(h3:Df K tb dis i fa):MkK K il tb dis (x,c,i):=by
 subst e
 exact⟨fa,h,h1,h2,h3⟩
end
theorem agl:∀{K:List (Addr×Obj)}{a:Addr}{o:Obj},K.lookup a=some o→(a,o)∈K
 | [],a,o,h=>by cases h
 | (b,u)::r,a,o,h=>by
  rw[List.lookup_cons]at h
  split at h
  ·rename_i hb
   cases h
   rw[beq_iff_eq.mp hb]
   exact List.mem_cons_self
  ·exact List.mem_cons_of_mem _ (agl h)
def apd(K:PySem.W.Frag):Bool:=K.all fun p=>match p.2.cls with | .type n=>n != "list" | _=>true
theorem aj9{K:PySem.W.Frag}(h:apd K=true){a:Addr}{o:Obj}(e:K.lookup a=some o)(hc:o.cls=.type "list"):False:=by
 have hm:=agl e
 have q:=List.all_eq_true.mp h _ hm
 rw[show(a,o).2.cls=.type "list" from hc]at q
 simp at q
theorem aog{G:Gx}{w:Wo}{H:Hp}:∀ns:List Int,aak G w H (ns.map T.int) (ns.map V.int)
 | []=>rfl
 | n::r=>⟨.int n,_,rfl,rfl,aog r⟩
def ape(fs:List Fn)(sub:Nat→Nat→Bool)(D li:Nat):Prop:=∀ns:List Int,ns.length≤63→∃s,run true fs sub aac D li [.val (.lst (ns.map .int))] []=.ok (.val (.bl true)) s
def GoF(sub:Nat→Nat→Bool)(tb:Tab)(dis:List DI)(dl:DI)(par:Str)(K:PySem.W.Frag)(mg:Str→Option Value)(fa:Addr):Prop:=
 ∃(fd:FuncData) (G:Gx),(∀(s:Shared) (u:Value),BindsTo s fd ⟨[u],[]⟩ [(par,u)])∧FunD K dl.x dl.q dl.st fa fd∧Hy K mg G sub tb (Df K tb dis)
theorem go_mk{sub:Nat→Nat→Bool}{tb:Tab}{dis:List DI}{dl:DI}{par:Str}{K:PySem.W.Frag}{mg:Str→Option Value}{h:Heap}{f fa:Addr}{oc dv kV dc pm cd ct:Value}{od an:Option Addr}{sl:Array (Option Value)}(X:K.In h)(Gn:h.Ns mainGlobals mg)(hmg:mg dl.x=some (.ref fa))
  (a:PySem.W.nsIn K mainGlobals dl.x=some (some (.ref f))) (l:K.lookup f=some ⟨oc,od,.func (PySem.W.fnOf dl.x dl.q (defArgs dl.st) (defBody dl.st) (defScope dl.st) dv kV dc pm an cd ct),sl⟩) (c:PySem.W.codeIn K cd dl.q=true) (k:PySem.W.keepIn K (.ref f)=true)
  (hb:∀u:Value,bindArgs (PySem.W.fnOf dl.x dl.q (defArgs dl.st) (defBody dl.st) (defScope dl.st) dv kV dc pm an cd ct) ⟨[u],[]⟩=pure [(par,u)]) (T:∃G:Gx,G.K=K∧Hy K mg G sub tb (Df K tb dis)):GoF sub tb dis dl par K mg fa:=by
 have e:=hmg.symm.trans (PySem.W.mg_of X Gn a)
 cases e
 obtain⟨G,_,T⟩:=T
 exact⟨_,G,fun s u=>.of_eq (hb u),aid l c k,T⟩
theorem walk{fs:List Fn}{sub:Nat→Nat→Bool}{tb:Tab}{dis:List DI}{r:Rs}{D li:Nat}{par:Str}{dl:DI}(M:ape fs sub D li)(R:∀(G:Gx) k,Ss G fs sub k tb r)(hck:aiA r dis fs=true)(hdl:dis[li]?=some dl)(hps:dl.ps=[par])(hfr:adR fs li=false)
  {l:PySem.W.OpenLaw}{q:Program}{loose:List Str}{XP:(Str→Option Value)→Heap→Prop}{YP:World→Heap→Prop}{d:DefRec}{K:Params→PySem.W.Frag} (hn:l.most=some 63) (hdf:d.params.defaults=[]) (hroom:Room (2*D) callerA)
  (hY:∀(w:World) (h:Heap),YP w h→(K w.params).In h) (hK:∀w:World,apd (K w.params)=true)
  (F:∀(w:World) (mg:Str→Option Value) (fa:Addr) (h:Heap),(K w.params).In h→h.Ns mainGlobals mg→mg d.name=some (.ref fa)→GoF sub tb dis dl par (K w.params) mg fa):
  PySem.W.WalkO q loose XP YP l.row.toRowW d [] (fun f vs=>PySem.call f vs):=by
 refine L2.walk_of (n:=63) (k:=2*D) (x:=par) (CX:=fun _=>CX0) (sp:=fun w=>fun vs H Q E=>∃(a:Addr) (ns:List Int),vs=[.ref a]∧ns.length≤63∧Rd H a (.lst (ns.map V.int))∧∀H',Q (.bl true) H') hn (by decide) hdf hroom hY (fun w mg fa h a b c=>?_) (fun w H a ns hl hO hS=>?_) fun _ _ _ _ _ z=>z
 ·obtain⟨fd,G,hb,Fu,T⟩:=F w mg fa h a b c
  refine⟨fd,hb,fun base kb nb=>?_⟩
  have hf:=aqa (aiS (P:=l.prog) (w:=w) (base:=base) (R G) T hck D li dl fa fd hdl Fu)
  rw[hps]at hf
  refine⟨fun vs H Q E ⟨a,ns,e,_⟩=>by subst e;rfl,fun A outer s H args us vs Q E hr e0 hb hv ⟨a,ns,e,hl,hR,hq⟩=>hf.run A outer s H args us vs Q E hr e0 hb hv ?_⟩
  subst e
  obtain⟨st,e⟩:=M ns hl
  refine⟨⟨0,fun _=>0,fun b=>b=a⟩,[],[.val (.lst (ns.map .int))],⟨rfl,fun l m h=>absurd h (Nat.not_lt_zero _),fun l h=>absurd h (Nat.not_lt_zero _),fun l c h=>by simp at h,fun b hb=>⟨ns.map V.int,by have hb:b=a:=hb;subst hb;exact hR⟩⟩,⟨.ref a,[],rfl,⟨a,_,rfl,rfl,hR,aog ns⟩,rfl⟩,?_⟩
  rw[show(cfX fs sub D).cf=run true fs sub aac D from rfl,e]
  exact⟨fun _ w' H' v _ _ r=>by cases r;exact hq _,fun z=>by rw[show(cfX fs sub D).fr li=adR fs li from rfl,hfr]at z;cases z⟩
 ·have hR:Rd H a (.lst (ns.map V.int)):=hS.elim id fun⟨o,_,_,e,hc,_⟩=>(aj9 (hK w) e hc).elim
  exact⟨a,ns,rfl,hl,hR,fun _=>rfl⟩
end IP
end
noncomputable section
namespace IP
open PySem PySem.Spec L2
namespace Pg
def top(i:Nat):Stmt:=PySem.Challenge.pw_gradecut_k33_hems_of_a_size.main.body.getD i (.Pass ⟨0,0,0,0⟩)
abbrev axI:Nat:=0
abbrev amz:List S:=[(.ifs (.call 1 [(.var 0),(.var 1),(.var 2)] []) [(.ret (.tup [(.var 1),(.var 2)]))] [])]
abbrev amt:List S:=[(.for_ (.one 2) (.rng2 (.var 1) (.b1 .len (.var 0))) amz)]
def auO:List S:=[(.for_ (.one 1) (.rng1 (.b1 .len (.var 0))) amt),
 (.ret (.cst .non))]
abbrev axa:Fn:=⟨1,3,false,auO⟩
abbrev awd:Nat:=1
def as1:List S:=[(.asg 3 (.call 2 [(.var 0),(.var 1)] [])),
 (.asg 4 (.call 2 [(.var 0),(.var 2)] [])),
 (.ifs (.cmp .eq (.var 1) (.var 2)) [(.ret (.cmp .eq (.sub (.var 3) (.cst (.int 0))) (.sub (.var 3) (.cst (.int 1)))))] []),
 (.ifs (.cmp .eq (.var 2) (.bin .add (.var 1) (.cst (.int 1)))) [(.ret (.call 3 [(.sub (.var 3) (.cst (.int 1))),(.sub (.var 3) (.cst (.int 0))),(.sub (.var 4) (.cst (.int 1)))] []))] []),
 (.ifs (.and (.cmp .eq (.bin .add (.var 2) (.cst (.int 1))) (.b1 .len (.var 0))) (.cmp .eq (.var 1) (.cst (.int 0)))) [(.ret (.call 3 [(.sub (.var 3) (.cst (.int 0))),(.sub (.var 3) (.cst (.int 1))),(.sub (.var 4) (.cst (.int 0)))] []))] []),
 (.ret (.call 4 [(.var 3),(.var 4)] []))]
abbrev ayl:Fn:=⟨3,5,false,as1⟩
abbrev axH:Nat:=2
def ast:List S:=[(.ret (.tup [(.sub (.var 0) (.var 1)),(.sub (.var 0) (.bin .mod (.bin .add (.var 1) (.cst (.int 1))) (.b1 .len (.var 0))))]))]
abbrev ayx:Fn:=⟨2,2,false,ast⟩
abbrev ay3:Nat:=3
def au6:List S:=[(.ret (.and (.cmp .eq (.call 7 [(.var 0),(.var 1),(.var 2)] []) (.cst (.int 0))) (.cmp .gt (.call 8 [(.var 0),(.var 1),(.var 2)] []) (.cst (.int 0)))))]
abbrev axB:Fn:=⟨3,3,false,au6⟩
abbrev ayf:Nat:=4
def arN:List S:=[(.ifs (.or (.not (.call 5 [(.var 0),(.var 1),(.cst (.int 0))] [])) (.not (.call 5 [(.var 0),(.var 1),(.cst (.int 1))] []))) [(.ret (.cst (.bl false)))] []),
 (.ret (.and (.call 6 [(.var 0),(.var 1)] []) (.call 6 [(.var 1),(.var 0)] [])))]
abbrev aye:Fn:=⟨2,2,false,arN⟩
abbrev avN:Nat:=5
def aoV:List S:=[(.asg 3 (.b1 .sorted (.lst [(.sub (.sub (.var 0) (.cst (.int 0))) (.var 2)),(.sub (.sub (.var 0) (.cst (.int 1))) (.var 2))]))),
 (.asg 4 (.b1 .sorted (.lst [(.sub (.sub (.var 1) (.cst (.int 0))) (.var 2)),(.sub (.sub (.var 1) (.cst (.int 1))) (.var 2))]))),
 (.ret (.and (.cmp .le (.sub (.var 3) (.cst (.int 0))) (.sub (.var 4) (.cst (.int 1)))) (.cmp .le (.sub (.var 4) (.cst (.int 0))) (.sub (.var 3) (.cst (.int 1))))))]
abbrev axF:Fn:=⟨3,5,false,aoV⟩
abbrev axq:Nat:=6
def atW:List S:=[(.ret (.cmp .le (.bin .mul (.call 7 [(.sub (.var 1) (.cst (.int 0))),(.sub (.var 1) (.cst (.int 1))),(.sub (.var 0) (.cst (.int 0)))] []) (.call 7 [(.sub (.var 1) (.cst (.int 0))),(.sub (.var 1) (.cst (.int 1))),(.sub (.var 0) (.cst (.int 1)))] [])) (.cst (.int 0))))]
abbrev axX:Fn:=⟨2,2,false,atW⟩
abbrev awN:Nat:=7
def at7:List S:=[(.ret (.bin .sub (.bin .mul (.bin .sub (.sub (.var 1) (.cst (.int 0))) (.sub (.var 0) (.cst (.int 0)))) (.bin .sub (.sub (.var 2) (.cst (.int 1))) (.sub (.var 0) (.cst (.int 1))))) (.bin .mul (.bin .sub (.sub (.var 1) (.cst (.int 1))) (.sub (.var 0) (.cst (.int 1)))) (.bin .sub (.sub (.var 2) (.cst (.int 0))) (.sub (.var 0) (.cst (.int 0)))))))]
abbrev ax7:Fn:=⟨3,3,false,at7⟩
abbrev ays:Nat:=8
def atU:List S:=[(.ret (.bin .add (.bin .mul (.bin .sub (.sub (.var 1) (.cst (.int 0))) (.sub (.var 0) (.cst (.int 0)))) (.bin .sub (.sub (.var 2) (.cst (.int 0))) (.sub (.var 0) (.cst (.int 0))))) (.bin .mul (.bin .sub (.sub (.var 1) (.cst (.int 1))) (.sub (.var 0) (.cst (.int 1)))) (.bin .sub (.sub (.var 2) (.cst (.int 1))) (.sub (.var 0) (.cst (.int 1)))))))]
abbrev axW:Fn:=⟨3,3,false,atU⟩
def au9:List S:=[(.ret (.bin .add (.bin .pow (.bin .sub (.sub (.var 1) (.cst (.int 0))) (.sub (.var 0) (.cst (.int 0)))) (.cst (.int 2))) (.bin .pow (.bin .sub (.sub (.var 1) (.cst (.int 1))) (.sub (.var 0) (.cst (.int 1)))) (.cst (.int 2)))))]
abbrev awp:Fn:=⟨2,2,false,au9⟩
abbrev axZ:Nat:=10
abbrev ajb:List S:=[(.asg 1 (.var 2)),
 (.asg 2 (.bin .fdiv (.bin .add (.var 1) (.bin .fdiv (.var 0) (.var 1))) (.cst (.int 2))))]
def avh:List S:=[(.asg 1 (.var 0)),
 (.asg 2 (.bin .fdiv (.bin .add (.var 0) (.cst (.int 1))) (.cst (.int 2)))),
 (.whl (.cmp .lt (.var 2) (.var 1)) ajb),
 (.ret (.var 1))]
abbrev aur:Fn:=⟨1,3,false,avh⟩
abbrev axk:Nat:=11
def auK:List S:=[(.asg 2 (.call 12 [(.b1 .abs (.var 0)),(.var 1)] [])),
 (.ret (.tup [(.bin .fdiv (.var 0) (.var 2)),(.bin .fdiv (.var 1) (.var 2))]))]
abbrev awK:Fn:=⟨2,3,false,auK⟩
abbrev arD:Nat:=12
abbrev adM:List S:=[(.asg 2 (.bin .mod (.var 0) (.var 1))),
 (.asg 0 (.var 1)),
 (.asg 1 (.var 2))]
def awn:List S:=[(.whl (.cmp .ne (.var 1) (.cst (.int 0))) adM),
 (.ret (.var 0))]
abbrev aun:Fn:=⟨2,3,false,awn⟩
abbrev aik:E:=(.call 15 [(.var 0),(.var 4),(.var 2)] [])
abbrev ahv:E:=(.call 16 [(.sub (.var 0) (.var 5)),(.sub (.var 3) (.bin .sub (.var 5) (.cst (.int 1)))),(.sub (.var 3) (.var 5)),(.var 1)] [])
def ar0:List S:=[(.ifs (.cmp .notN (.call 0 [(.var 0)] []) (.cst .non)) [(.raise 6)] []),
 (.asg 2 (.call 14 [(.var 0)] [])),
 (.asg 3 (.comp aik (.one 4) (.rng1 (.b1 .len (.var 0))))),
 (.ret (.comp ahv (.one 5) (.rng1 (.b1 .len (.var 0)))))]
abbrev aqY:Fn:=⟨2,6,false,ar0⟩
abbrev aji:List S:=[(.asg 4 (.sub (.var 0) (.bin .sub (.var 2) (.cst (.int 1))))),
 (.asg 1 (.bin .sub (.bin .add (.var 1) (.bin .mul (.sub (.var 4) (.cst (.int 0))) (.sub (.var 3) (.cst (.int 1))))) (.bin .mul (.sub (.var 4) (.cst (.int 1))) (.sub (.var 3) (.cst (.int 0))))))]
def avQ:List S:=[(.asg 1 (.cst (.int 0))),
 (.for_ (.many [2,3]) (.enm (.var 0)) aji),
 (.ret (.cmp .gt (.var 1) (.cst (.int 0))))]
abbrev asS:Fn:=⟨1,5,false,avQ⟩
def asM:List S:=[(.asg 3 (.call 2 [(.var 0),(.var 1)] [])),
 (.asg 4 (.bin .sub (.sub (.sub (.var 3) (.cst (.int 1))) (.cst (.int 0))) (.sub (.sub (.var 3) (.cst (.int 0))) (.cst (.int 0))))),
 (.asg 5 (.bin .sub (.sub (.sub (.var 3) (.cst (.int 1))) (.cst (.int 1))) (.sub (.sub (.var 3) (.cst (.int 0))) (.cst (.int 1))))),
 (.asg 6 (.call 12 [(.b1 .abs (.var 4)),(.b1 .abs (.var 5))] [])),
 (.asg 7 (.bin .fdiv (.var 4) (.var 6))),
 (.asg 8 (.bin .fdiv (.var 5) (.var 6))),
 (.ret (.ife (.var 2) (.tup [(.var 8),(.neg (.var 7))]) (.tup [(.neg (.var 8)),(.var 7)])))]
abbrev avS:Fn:=⟨3,9,false,asM⟩
def arK:List S:=[(.asg 4 (.bin .sub (.bin .mul (.sub (.var 1) (.cst (.int 0))) (.sub (.var 2) (.cst (.int 1)))) (.bin .mul (.sub (.var 1) (.cst (.int 1))) (.sub (.var 2) (.cst (.int 0)))))),
 (.ifs (.cmp .eq (.var 4) (.cst (.int 0))) [(.ret (.call 17 [(.var 0),(.var 2),(.var 3)] []))] []),
 (.ret (.call 18 [(.var 0),(.var 1),(.var 2),(.var 4),(.var 3)] []))]
abbrev awm:Fn:=⟨4,5,false,arK⟩
def avZ:List S:=[(.asg 3 (.call 20 [(.var 1)] [])),
 (.asg 4 (.bin .mul (.bin .mul (.cst (.int 1000)) (.var 2)) (.sub (.var 1) (.cst (.int 0))))),
 (.asg 5 (.bin .mul (.bin .mul (.cst (.int 1000)) (.var 2)) (.sub (.var 1) (.cst (.int 1))))),
 (.ret (.tup [(.call 21 [(.sub (.var 0) (.cst (.int 0))),(.var 4),(.var 3)] []),(.call 21 [(.sub (.var 0) (.cst (.int 1))),(.var 5),(.var 3)] [])]))]
abbrev av8:Fn:=⟨3,6,false,avZ⟩
def asI:List S:=[(.asg 5 (.call 20 [(.var 1)] [])),
 (.asg 6 (.call 20 [(.var 2)] [])),
 (.asg 7 (.bin .mul (.bin .mul (.bin .mul (.cst (.int 1000)) (.var 4)) (.call 19 [(.var 1)] [])) (.var 6))),
 (.asg 8 (.bin .mul (.bin .mul (.bin .mul (.cst (.int 1000)) (.var 4)) (.call 19 [(.var 2)] [])) (.var 5))),
 (.asg 9 (.bin .sub (.bin .mul (.var 7) (.sub (.var 2) (.cst (.int 1)))) (.bin .mul (.var 8) (.sub (.var 1) (.cst (.int 1)))))),
 (.asg 10 (.bin .sub (.bin .mul (.var 8) (.sub (.var 1) (.cst (.int 0)))) (.bin .mul (.var 7) (.sub (.var 2) (.cst (.int 0)))))),
 (.asg 11 (.bin .mul (.bin .mul (.var 3) (.var 5)) (.var 6))),
 (.ret (.tup [(.call 21 [(.sub (.var 0) (.cst (.int 0))),(.var 9),(.var 11)] []),(.call 21 [(.sub (.var 0) (.cst (.int 1))),(.var 10),(.var 11)] [])]))]
abbrev asm:Fn:=⟨5,12,false,asI⟩
def avq:List S:=[(.ret (.call 9 [(.tup [(.cst (.int 0)),(.cst (.int 0))]),(.var 0)] []))]
abbrev av2:Fn:=⟨1,1,false,avq⟩
def avr:List S:=[(.ret (.call 10 [(.bin .mul (.cst (.int 1000000)) (.call 19 [(.var 0)] []))] []))]
abbrev avc:Fn:=⟨1,1,false,avr⟩
def arE:List S:=[(.ifs (.cmp .lt (.var 2) (.cst (.int 0))) [(.ret (.call 21 [(.var 0),(.neg (.var 1)),(.neg (.var 2))] []))] []),
 (.ret (.call 11 [(.bin .add (.bin .mul (.var 0) (.var 2)) (.var 1)),(.var 2)] []))]
abbrev asy:Fn:=⟨3,3,false,arE⟩
def aqZ:List S:=[(.ret (.call 13 [(.meth (.var 0) 0 34 [(.var 1),(.var 3)] []),(.var 2)] []))]
abbrev ap1:Fn:=⟨4,4,false,aqZ⟩
abbrev axR:Nat:=23
def ar2:List S:=[(.exp (.call 24 [(.var 1)] [])),
 (.ifs (.cmp .lt (.var 1) (.cst (.int 0))) [(.ret (.call 25 [(.var 0),(.sub (.var 0) (.cst (.int 4))),(.sub (.var 0) (.cst (.int 5))),(.neg (.var 1))] []))] []),
 (.ret (.call 25 [(.var 0),(.sub (.var 0) (.cst (.int 2))),(.sub (.var 0) (.cst (.int 3))),(.var 1)] []))]
abbrev awf:Fn:=⟨2,2,false,ar2⟩
abbrev avb:Nat:=24
def arc:List S:=[(.ifs (.or (.cmp .lt (.var 0) (.glb "LEAST" (-6))) (.cmp .gt (.var 0) (.glb "MOST" (6)))) [(.raise 1)] [])]
abbrev asz:Fn:=⟨1,1,false,arc⟩
abbrev axr:Nat:=25
def ava:List S:=[(.ret (.tup [(.bin .add (.sub (.var 0) (.cst (.int 0))) (.bin .mul (.var 3) (.var 1))),(.bin .add (.sub (.var 0) (.cst (.int 1))) (.bin .mul (.var 3) (.var 2)))]))]
abbrev aw2:Fn:=⟨4,4,false,ava⟩
abbrev iz3:Nat:=26
def bz3:List S:=[(.setF (.var 0) 0 0 (.cst (.int 0))),
 (.setF (.var 0) 0 1 (.cell (.lst []))),
 (.setF (.var 0) 0 2 (.cell (.lst []))),
 (.setF (.var 0) 0 3 (.cell (.lst [])))]
abbrev Fz3:Fn:=⟨1,1,false,bz3⟩
abbrev iz4:Nat:=27
abbrev al5:E:=(.lst [])
abbrev alg:E:=(.b1 .list (.var 5))
def bz4:List S:=[(.ifs (.cmp .ge (.b1 .len (.fld (.var 0) 0 1)) (.glb "MOST_PIECES" (10))) [(.raise 5)] []),
 (.asg 3 (.ife (.cmp .isN (.var 2) (.cst .non)) (.comp al5 (.one 4) (.var 1)) (.comp alg (.one 5) (.var 2)))),
 (.exp (.call 38 [(.var 1),(.var 3)] [])),
 (.appL (.fld (.var 0) 0 1) (.cell (.b1 .list (.var 1)))),
 (.appL (.fld (.var 0) 0 2) (.var 3)),
 (.ret (.bin .sub (.b1 .len (.fld (.var 0) 0 1)) (.cst (.int 1))))]
abbrev Fz4:Fn:=⟨3,6,false,bz4⟩
abbrev aym:Nat:=28
def avO:List S:=[(.exp (.call 37 [(.var 1),(.fld (.var 0) 0 1)] [])),
 (.asg 5 (.sub (.fld (.var 0) 0 1) (.var 1))),
 (.exp (.call 37 [(.var 2),(.var 5)] [])),
 (.asg 6 (.tup [(.sub (.var 3) (.cst (.int 0))),(.sub (.var 3) (.cst (.int 1))),(.sub (.var 4) (.cst (.int 0))),(.sub (.var 4) (.cst (.int 1)))])),
 (.ifs (.not (.call 40 [(.var 6),(.glb "LONGEST_MOVE" (200))] [])) [(.raise 3)] []),
 (.putL (.var 5) (.var 2) (.bin .add (.cutU (.sub (.var 5) (.var 2)) (.cst (.int 2))) (.var 6)))]
abbrev avE:Fn:=⟨5,7,false,avO⟩
abbrev iz7:Nat:=29
def bz7:List S:=[(.ret (.meth (.var 0) 0 31 [(.var 1),(.var 1)] []))]
abbrev Fz7:Fn:=⟨2,2,false,bz7⟩
abbrev ay7:Nat:=30
def aw7:List S:=[(.ret (.meth (.var 0) 0 31 [(.var 1),(.neg (.var 1))] []))]
abbrev auN:Fn:=⟨2,2,false,aw7⟩
abbrev iz5:Nat:=31
def bz5:List S:=[(.ifs (.cmp .lt (.var 1) (.cst (.int 0))) [(.raise 1)] []),
 (.exp (.call 24 [(.bin .add (.fld (.var 0) 0 0) (.var 2))] [])),
 (.setF (.var 0) 0 0 (.bin .add (.fld (.var 0) 0 0) (.var 2))),
 (.ret (.fld (.var 0) 0 0))]
abbrev Fz5:Fn:=⟨3,3,false,bz5⟩
abbrev auV:Nat:=32
def at6:List S:=[(.exp (.call 37 [(.var 1),(.fld (.var 0) 0 1)] [])),
 (.ret (.b1 .list (.sub (.fld (.var 0) 0 1) (.var 1))))]
abbrev at1:Fn:=⟨2,2,false,at6⟩
def bz8:List S:=[(.exp (.call 37 [(.var 1),(.fld (.var 0) 0 2)] [])),
 (.exp (.call 37 [(.var 2),(.sub (.fld (.var 0) 0 2) (.var 1))] [])),
 (.ret (.b1 .list (.sub (.sub (.fld (.var 0) 0 2) (.var 1)) (.var 2))))]
abbrev Fz8:Fn:=⟨3,3,false,bz8⟩
abbrev iz6:Nat:=34
def bz6:List S:=[(.ret (.meth (.var 0) 0 36 [(.meth (.var 0) 0 32 [(.var 1)] []),(.var 2)] []))]
abbrev Fz6:Fn:=⟨3,3,false,bz6⟩
def bz9:List S:=[(.ret (.meth (.var 0) 0 36 [(.meth (.var 0) 0 33 [(.var 1),(.var 2)] []),(.var 3)] []))]
abbrev Fz9:Fn:=⟨4,4,false,bz9⟩
abbrev avj:Nat:=36
abbrev aiM:E:=(.call 23 [(.var 4),(.var 3)] [])
def ari:List S:=[(.asg 3 (.ife (.cmp .isN (.var 2) (.cst .non)) (.fld (.var 0) 0 0) (.var 2))),
 (.exp (.call 24 [(.var 3)] [])),
 (.ret (.comp aiM (.one 4) (.var 1)))]
abbrev ar1:Fn:=⟨3,5,false,ari⟩
abbrev awL:Nat:=37
def an8:List S:=[(.ifs (.or (.cmp .lt (.var 0) (.cst (.int 0))) (.cmp .ge (.var 0) (.b1 .len (.var 1)))) [(.raise 4)] [])]
abbrev asO:Fn:=⟨2,2,false,an8⟩
abbrev axn:Nat:=38
abbrev ahY:E:=(.cmp .gt (.b1 .len (.var 2)) (.glb "MOST_MARKS" (4)))
abbrev air:E:=(.call 39 [(.var 3)] [])
def awl:List S:=[(.ifs (.or (.cmp .lt (.b1 .len (.var 0)) (.glb "LEAST_CORNERS" (3))) (.cmp .gt (.b1 .len (.var 0)) (.glb "MOST_CORNERS" (24)))) [(.raise 2)] []),
 (.ifs (.cmp .ne (.b1 .len (.var 1)) (.b1 .len (.var 0))) [(.raise 2)] []),
 (.ifs (.b1 .any (.comp ahY (.one 2) (.var 1))) [(.raise 2)] []),
 (.ifs (.not (.b1 .all (.comp air (.one 3) (.bin .add (.lst [(.var 0)]) (.var 1))))) [(.raise 2)] [])]
abbrev arQ:Fn:=⟨2,4,false,awl⟩
abbrev ayz:Nat:=39
abbrev aiO:E:=(.and (.call 40 [(.cutU (.var 1) (.cst (.int 2))),(.glb "FARTHEST" (20000))] []) (.call 40 [(.cutL (.var 1) (.cst (.int 2))),(.glb "LONGEST_MOVE" (200))] []))
def avo:List S:=[(.ret (.b1 .all (.comp aiO (.one 1) (.var 0))))]
abbrev arn:Fn:=⟨1,2,false,avo⟩
abbrev axT:Nat:=40
abbrev ahH:E:=(.cmp .le (.b1 .abs (.var 2)) (.var 1))
def aw0:List S:=[(.ret (.b1 .all (.comp ahH (.one 2) (.var 0))))]
abbrev aqS:Fn:=⟨2,3,false,aw0⟩
abbrev axu:Nat:=41
def awa:List S:=[(.ret (.and (.isi (.var 0) .int) (.not (.isi (.var 0) .bool))))]
abbrev auQ:Fn:=⟨1,1,false,awa⟩
abbrev awR:Nat:=42
def atT:List S:=[(.ifs (.cmp .lt (.var 1) (.b1 .len (.var 0))) [(.ret (.sub (.var 0) (.var 1)))] []),
 (.ret (.cst (.int 0)))]
abbrev avl:Fn:=⟨2,2,false,atT⟩
abbrev ax6:Nat:=43
abbrev ahy:List S:=[(.asg 2 (.bin .mod (.bin .add (.bin .add (.bin .mul (.var 2) (.cst (.int 48271))) (.call 42 [(.var 0),(.var 4)] [])) (.cst (.int 11))) (.cst (.int 2147483647)))),
 (.app 3 (.var 2))]
def auM:List S:=[(.asg 2 (.cst (.int 7))),
 (.mk 3 (.lst [])),
 (.for_ (.one 4) (.rng1 (.var 1)) ahy),
 (.frz 3),
 (.ret (.var 3))]
abbrev aut:Fn:=⟨2,5,false,auM⟩
abbrev adH:List S:=[(.asg 4 (.bin .mod (.var 2) (.var 3))),
 (.asg 2 (.var 3)),
 (.asg 3 (.var 4))]
def aww:List S:=[(.asg 2 (.b1 .abs (.var 0))),
 (.asg 3 (.b1 .abs (.var 1))),
 (.whl (.cmp .gt (.var 3) (.cst (.int 0))) adH),
 (.ret (.var 2))]
abbrev atb:Fn:=⟨2,5,false,aww⟩
abbrev ai9:List S:=[(.app 3 (.bin .add (.bin .add (.sub (.var 3) (.neg (.cst (.int 1)))) (.cst (.int 1))) (.bin .mod (.sub (.var 0) (.bin .add (.var 1) (.var 4))) (.cst (.int 4)))))]
def awt:List S:=[(.mk 3 (.lst [(.cst (.int 0))])),
 (.for_ (.one 4) (.rng1 (.bin .sub (.var 2) (.cst (.int 1)))) ai9),
 (.frz 3),
 (.ret (.var 3))]
abbrev arB:Fn:=⟨3,5,false,awt⟩
abbrev afG:List S:=[(.app 7 (.tup [(.bin .mul (.sub (.var 5) (.var 8)) (.mx2 (.cst (.int 1)) (.sub (.var 6) (.neg (.cst (.int 1)))))),(.bin .sub (.neg (.cst (.int 1))) (.bin .mod (.sub (.var 0) (.bin .add (.cst (.int 26)) (.var 8))) (.var 4)))]))]
abbrev afI:List S:=[(.app 7 (.tup [(.bin .mul (.sub (.var 6) (.bin .sub (.bin .sub (.var 3) (.cst (.int 1))) (.var 8))) (.sub (.var 5) (.neg (.cst (.int 1))))),(.bin .add (.cst (.int 1)) (.bin .mod (.sub (.var 0) (.bin .add (.bin .add (.cst (.int 26)) (.var 2)) (.var 8))) (.var 4)))]))]
def auR:List S:=[(.asg 2 (.cst (.int 2))),
 (.ifs (.cmp .gt (.var 1) (.cst (.int 3))) [(.asg 2 (.bin .add (.cst (.int 2)) (.bin .mod (.sub (.var 0) (.cst (.int 0))) (.bin .sub (.var 1) (.cst (.int 3))))))] []),
 (.asg 3 (.bin .sub (.var 1) (.var 2))),
 (.asg 4 (.sub (.lst [(.cst (.int 1)),(.cst (.int 3)),(.cst (.int 50)),(.cst (.int 900))]) (.bin .mod (.sub (.var 0) (.cst (.int 1))) (.cst (.int 4))))),
 (.asg 5 (.call 45 [(.var 0),(.cst (.int 2)),(.var 2)] [])),
 (.asg 6 (.call 45 [(.var 0),(.bin .add (.cst (.int 2)) (.var 2)),(.var 3)] [])),
 (.mk 7 (.lst [])),
 (.for_ (.one 8) (.rng1 (.var 2)) afG),
 (.for_ (.one 8) (.rng1 (.var 3)) afI),
 (.frz 7),
 (.ret (.var 7))]
abbrev avK:Fn:=⟨2,9,false,auR⟩
abbrev ajj:E:=(.tup [(.bin .add (.var 5) (.bin .mul (.var 2) (.var 6))),(.var 6)])
abbrev afl:E:=(.tup [(.bin .sub (.cst (.int 0)) (.var 8)),(.var 7)])
def aw3:List S:=[(.asg 2 (.bin .sub (.bin .mod (.var 1) (.cst (.int 5))) (.cst (.int 2)))),
 (.asg 3 (.comp ajj (.many [5,6]) (.var 0))),
 (.ifs (.cmp .eq (.bin .mod (.bin .fdiv (.var 1) (.cst (.int 5))) (.cst (.int 2))) (.cst (.int 1))) [(.asg 3 (.comp afl (.many [7,8]) (.var 3)))] []),
 (.ifs (.cmp .eq (.bin .mod (.bin .fdiv (.var 1) (.cst (.int 10))) (.cst (.int 2))) (.cst (.int 1))) [(.asg 3 (.rev (.var 3)))] []),
 (.asg 4 (.bin .mod (.bin .fdiv (.var 1) (.cst (.int 20))) (.b1 .len (.var 3)))),
 (.retO (.bin .add (.cutL (.var 3) (.var 4)) (.cutU (.var 3) (.var 4))))]
abbrev aw6:Fn:=⟨2,9,true,aw3⟩
abbrev ahX:List S:=[(.asg 2 (.bin .mul (.var 2) (.cst (.int 2))))]
abbrev ahC:List S:=[(.ifs (.cmp .le (.bin .mul (.bin .add (.var 1) (.var 2)) (.bin .add (.var 1) (.var 2))) (.var 0)) [(.asg 1 (.bin .add (.var 1) (.var 2)))] []),
 (.asg 2 (.bin .fdiv (.var 2) (.cst (.int 2))))]
def auT:List S:=[(.asg 1 (.cst (.int 0))),
 (.asg 2 (.cst (.int 1))),
 (.whl (.cmp .le (.bin .mul (.var 2) (.var 2)) (.var 0)) ahX),
 (.whl (.cmp .gt (.var 2) (.cst (.int 0))) ahC),
 (.ret (.var 1))]
abbrev auB:Fn:=⟨1,3,false,auT⟩
abbrev ahG:List S:=[(.asg 3 (.sub (.var 0) (.bin .sub (.var 2) (.cst (.int 1))))),
 (.asg 4 (.sub (.var 0) (.var 2))),
 (.asg 1 (.bin .sub (.bin .add (.var 1) (.bin .mul (.sub (.var 3) (.cst (.int 0))) (.sub (.var 4) (.cst (.int 1))))) (.bin .mul (.sub (.var 3) (.cst (.int 1))) (.sub (.var 4) (.cst (.int 0))))))]
def av7:List S:=[(.asg 1 (.cst (.int 0))),
 (.for_ (.one 2) (.rng1 (.b1 .len (.var 0))) ahG),
 (.ret (.var 1))]
abbrev as8:Fn:=⟨1,5,false,av7⟩
def avg:List S:=[(.ifs (.or (.not (.isi (.var 0) .tuple)) (.cmp .ne (.b1 .len (.var 0)) (.cst (.int 2)))) [(.ret (.cst (.bl false)))] []),
 (.ifs (.or (.not (.call 41 [(.sub (.var 0) (.cst (.int 0)))] [])) (.or (.not (.call 41 [(.sub (.var 0) (.cst (.int 1)))] [])) (.cmp .lt (.sub (.var 0) (.cst (.int 1))) (.cst (.int 1))))) [(.ret (.cst (.bl false)))] []),
 (.ret (.cmp .eq (.call 44 [(.sub (.var 0) (.cst (.int 0))),(.sub (.var 0) (.cst (.int 1)))] []) (.cst (.int 1))))]
abbrev aw8:Fn:=⟨1,1,false,avg⟩
def auS:List S:=[(.asg 5 (.sub (.var 0) (.var 2))),
 (.asg 6 (.sub (.var 0) (.bin .mod (.bin .add (.var 2) (.cst (.int 1))) (.b1 .len (.var 0))))),
 (.asg 7 (.call 44 [(.bin .sub (.sub (.var 6) (.cst (.int 0))) (.sub (.var 5) (.cst (.int 0)))),(.bin .sub (.sub (.var 6) (.cst (.int 1))) (.sub (.var 5) (.cst (.int 1))))] [])),
 (.asg 8 (.bin .fdiv (.bin .sub (.sub (.var 6) (.cst (.int 0))) (.sub (.var 5) (.cst (.int 0)))) (.var 7))),
 (.asg 9 (.bin .fdiv (.bin .sub (.sub (.var 6) (.cst (.int 1))) (.sub (.var 5) (.cst (.int 1)))) (.var 7))),
 (.asg 10 (.bin .add (.bin .mul (.var 8) (.var 8)) (.bin .mul (.var 9) (.var 9)))),
 (.asgT [11,12] (.sub (.var 3) (.cst (.int 0)))),
 (.asgT [13,14] (.sub (.var 3) (.cst (.int 1)))),
 (.asg 15 (.bin .mul (.bin .sub (.var 11) (.bin .mul (.sub (.sub (.var 0) (.var 1)) (.cst (.int 0))) (.var 12))) (.var 14))),
 (.asg 16 (.bin .mul (.bin .sub (.var 13) (.bin .mul (.sub (.sub (.var 0) (.var 1)) (.cst (.int 1))) (.var 14))) (.var 12))),
 (.asg 17 (.bin .sub (.bin .mul (.var 9) (.var 15)) (.bin .mul (.var 8) (.var 16)))),
 (.ifs (.cmp .lt (.call 49 [(.var 0)] []) (.cst (.int 0))) [(.asg 17 (.bin .sub (.cst (.int 0)) (.var 17)))] []),
 (.ret (.cmp .eq (.bin .mul (.var 17) (.call 48 [(.bin .mul (.cst (.int 1000000)) (.var 10))] [])) (.bin .mul (.bin .mul (.bin .mul (.bin .mul (.cst (.int 1000)) (.var 4)) (.var 10)) (.var 12)) (.var 14))))]
abbrev avf:Fn:=⟨5,18,false,auS⟩
def awH:List S:=[(.asg 3 (.sub (.var 0) (.bin .sub (.var 1) (.cst (.int 1))))),
 (.asg 4 (.sub (.var 0) (.var 1))),
 (.asg 5 (.sub (.var 0) (.bin .mod (.bin .add (.var 1) (.cst (.int 1))) (.b1 .len (.var 0))))),
 (.asg 6 (.bin .mul (.bin .sub (.sub (.var 4) (.cst (.int 0))) (.sub (.var 3) (.cst (.int 0)))) (.bin .sub (.sub (.var 5) (.cst (.int 1))) (.sub (.var 4) (.cst (.int 1)))))),
 (.asg 6 (.bin .sub (.var 6) (.bin .mul (.bin .sub (.sub (.var 4) (.cst (.int 1))) (.sub (.var 3) (.cst (.int 1)))) (.bin .sub (.sub (.var 5) (.cst (.int 0))) (.sub (.var 4) (.cst (.int 0))))))),
 (.ifs (.cmp .ne (.var 6) (.cst (.int 0))) [(.ret (.cst (.bl true)))] []),
 (.asgT [7,8] (.sub (.var 2) (.cst (.int 0)))),
 (.asgT [9,10] (.sub (.var 2) (.cst (.int 1)))),
 (.asg 11 (.bin .mul (.bin .mul (.bin .sub (.var 7) (.bin .mul (.sub (.var 4) (.cst (.int 0))) (.var 8))) (.var 10)) (.bin .sub (.sub (.var 5) (.cst (.int 0))) (.sub (.var 4) (.cst (.int 0)))))),
 (.asg 12 (.bin .mul (.bin .mul (.bin .sub (.var 9) (.bin .mul (.sub (.var 4) (.cst (.int 1))) (.var 10))) (.var 8)) (.bin .sub (.sub (.var 5) (.cst (.int 1))) (.sub (.var 4) (.cst (.int 1)))))),
 (.ret (.cmp .eq (.bin .add (.var 11) (.var 12)) (.cst (.int 0))))]
abbrev avP:Fn:=⟨3,13,false,awH⟩
abbrev aiJ:List S:=[(.ifs (.or (.not (.isi (.sub (.var 1) (.var 3)) .tuple)) (.cmp .ne (.b1 .len (.sub (.var 1) (.var 3))) (.cst (.int 2)))) [(.ret (.cst (.bl false)))] []),
 (.ifs (.or (.not (.call 50 [(.sub (.sub (.var 1) (.var 3)) (.cst (.int 0)))] [])) (.not (.call 50 [(.sub (.sub (.var 1) (.var 3)) (.cst (.int 1)))] []))) [(.ret (.cst (.bl false)))] []),
 (.asg 4 (.bin .mod (.bin .sub (.var 3) (.cst (.int 1))) (.b1 .len (.var 0)))),
 (.ifs (.not (.call 51 [(.var 0),(.var 3),(.var 4),(.sub (.var 1) (.var 3)),(.var 2)] [])) [(.ret (.cst (.bl false)))] []),
 (.ifs (.not (.call 51 [(.var 0),(.var 3),(.var 3),(.sub (.var 1) (.var 3)),(.var 2)] [])) [(.ret (.cst (.bl false)))] []),
 (.ifs (.not (.call 52 [(.var 0),(.var 3),(.sub (.var 1) (.var 3))] [])) [(.ret (.cst (.bl false)))] [])]
def auW:List S:=[(.ifs (.or (.not (.isi (.var 1) .list)) (.cmp .ne (.b1 .len (.var 1)) (.b1 .len (.var 0)))) [(.ret (.cst (.bl false)))] []),
 (.for_ (.one 3) (.rng1 (.b1 .len (.var 0))) aiJ),
 (.ret (.cst (.bl true)))]
abbrev avv:Fn:=⟨3,5,false,auW⟩
abbrev af1:List S:=[(.asg 8 (.sub (.lst [(.cst (.int 1)),(.neg (.cst (.int 1)))]) (.b1 .int (.cmp .lt (.sub (.sub (.var 4) (.var 7)) (.cst (.int 1))) (.cst (.int 0)))))),
 (.app 5 (.tup [(.bin .sub (.bin .mod (.var 3) (.cst (.int 7))) (.cst (.int 3))),(.bin .mul (.var 8) (.bin .mod (.bin .fdiv (.sub (.var 0) (.bin .add (.bin .add (.var 1) (.cst (.int 26))) (.var 7))) (.cst (.int 1000))) (.cst (.int 5))))])),
 (.app 6 (.tup [(.bin .sub (.bin .mod (.bin .fdiv (.var 3) (.cst (.int 7))) (.cst (.int 7))) (.cst (.int 3))),(.bin .mul (.var 8) (.bin .mod (.bin .fdiv (.sub (.var 0) (.bin .add (.bin .add (.var 1) (.cst (.int 26))) (.var 7))) (.cst (.int 5000))) (.cst (.int 5))))]))]
abbrev afh:E:=(.bin .add (.bin .add (.sub (.var 4) (.var 9)) (.sub (.var 5) (.var 9))) (.sub (.var 6) (.var 9)))
def auZ:List S:=[(.asg 4 (.call 46 [(.cutL (.var 0) (.var 1)),(.var 2)] [])),
 (.mk 5 (.lst [])),
 (.mk 6 (.lst [])),
 (.for_ (.one 7) (.rng1 (.var 2)) af1),
 (.asg 4 (.call 47 [(.var 4),(.bin .fdiv (.var 3) (.cst (.int 49)))] [])),
 (.mk 5 (.call 47 [(.var 5),(.bin .fdiv (.var 3) (.cst (.int 49)))] [])),
 (.mk 6 (.call 47 [(.var 6),(.bin .fdiv (.var 3) (.cst (.int 49)))] [])),
 (.ret (.comp afh (.one 9) (.rng1 (.var 2))))]
abbrev as5:Fn:=⟨4,10,false,auZ⟩
abbrev axU:Nat:=55
abbrev ahI:List S:=[(.asg 2 (.bin .add (.var 2) (.sub (.var 0) (.cst (.int 2))))),
 (.asg 3 (.bin .add (.var 3) (.sub (.var 0) (.cst (.int 3)))))]
abbrev aiW:List S:=[(.asg 2 (.bin .add (.var 2) (.sub (.var 0) (.cst (.int 4))))),
 (.asg 3 (.bin .add (.var 3) (.sub (.var 0) (.cst (.int 5)))))]
def avA:List S:=[(.asg 2 (.sub (.var 0) (.cst (.int 0)))),
 (.asg 3 (.sub (.var 0) (.cst (.int 1)))),
 (.for_ (.one 4) (.rng1 (.var 1)) ahI),
 (.for_ (.one 4) (.rng1 (.bin .sub (.cst (.int 0)) (.var 1))) aiW),
 (.ret (.tup [(.var 2),(.var 3)]))]
abbrev auf:Fn:=⟨2,5,false,avA⟩
abbrev amw:List S:=[(.exp (.call 22 [(.var 0),(.var 1),(.var 2),(.var 3)] []))]
abbrev amU:List S:=[(.asg 4 (.bin .add (.bin .add (.b1 .int (.isi (.var 5) (.cls 4))) (.bin .mul (.cst (.int 2)) (.b1 .int (.isi (.var 5) (.cls 1))))) (.bin .mul (.cst (.int 4)) (.b1 .int (.isi (.var 5) (.cls 6))))))]
def arP:List S:=[(.asg 4 (.cst (.int 0))),
 (.try_ amw 0 (some 5) amU),
 (.ret (.var 4))]
abbrev aoW:Fn:=⟨4,6,false,arP⟩
abbrev atu:Nat:=57
abbrev ad7:E:=(.call 55 [(.var 11),(.var 4)] [])
abbrev adX:List S:=[(.exp (.meth (.var 8) 0 28 [(.cst (.int 0)),(.var 10),(.cutLU (.sub (.var 3) (.var 10)) (.cst (.int 2)) (.cst (.int 4))),(.cutL (.sub (.var 3) (.var 10)) (.cst (.int 4)))] []))]
abbrev adV:E:=(.call 55 [(.var 12),(.var 5)] [])
def aqz:List S:=[(.asg 1 (.call 43 [(.var 0),(.cst (.int 60))] [])),
 (.asg 2 (.bin .add (.cst (.int 3)) (.bin .mod (.sub (.var 1) (.cst (.int 0))) (.cst (.int 22))))),
 (.asg 3 (.call 54 [(.var 1),(.cst (.int 1)),(.var 2),(.sub (.var 1) (.cst (.int 52)))] [])),
 (.asg 4 (.bin .sub (.bin .mod (.sub (.var 1) (.cst (.int 53))) (.cst (.int 13))) (.cst (.int 6)))),
 (.asg 5 (.bin .sub (.bin .mod (.sub (.var 1) (.cst (.int 54))) (.cst (.int 13))) (.cst (.int 6)))),
 (.asg 6 (.bin .mod (.sub (.var 1) (.cst (.int 55))) (.cst (.int 1001)))),
 (.asg 7 (.bin .mod (.sub (.var 1) (.cst (.int 56))) (.cst (.int 6)))),
 (.asg 8 (.new 0 26 4 [] [])),
 (.exp (.meth (.var 8) 0 27 [(.b1 .list (.var 3))] [.non])),
 (.exp (.meth (.var 8) 0 27 [(.lst [(.tup [(.cst (.int 0)),(.cst (.int 0)),(.cst (.int 0)),(.cst (.int 0)),(.cst (.int 0)),(.cst (.int 0))]),(.tup [(.cst (.int 9)),(.cst (.int 0)),(.cst (.int 0)),(.cst (.int 0)),(.cst (.int 0)),(.cst (.int 0))]),(.tup [(.cst (.int 9)),(.var 7),(.cst (.int 0)),(.neg (.cst (.int 1))),(.cst (.int 0)),(.neg (.cst (.int 1)))]),(.tup [(.cst (.int 0)),(.cst (.int 9)),(.cst (.int 0)),(.cst (.int 0)),(.cst (.int 0)),(.cst (.int 0))])])] [.non])),
 (.ifs (.cmp .gt (.var 4) (.cst (.int 0))) [(.exp (.meth (.var 8) 0 29 [(.var 4)] []))] [(.exp (.meth (.var 8) 0 30 [(.bin .sub (.cst (.int 0)) (.var 4))] []))]),
 (.asg 9 (.comp ad7 (.one 11) (.var 3))),
 (.ifs (.not (.call 53 [(.var 9),(.call 22 [(.var 8),(.cst (.int 0)),(.var 6)] [.non]),(.var 6)] [])) [(.ret (.cst (.bl false)))] []),
 (.asg 3 (.call 54 [(.var 1),(.cst (.int 1)),(.var 2),(.bin .add (.bin .mul (.bin .fdiv (.sub (.var 1) (.cst (.int 52))) (.cst (.int 49))) (.cst (.int 49))) (.bin .mod (.sub (.var 1) (.cst (.int 57))) (.cst (.int 49))))] [])),
 (.for_ (.one 10) (.rng1 (.var 2)) adX),
 (.asg 9 (.comp adV (.one 12) (.var 3))),
 (.ifs (.not (.call 53 [(.var 9),(.call 22 [(.var 8),(.cst (.int 0)),(.var 6),(.var 5)] []),(.var 6)] [])) [(.ret (.cst (.bl false)))] []),
 (.ifs (.or (.cmp .ne (.call 56 [(.var 8),(.cst (.int 2)),(.var 6),(.cst (.int 7))] []) (.cst (.int 1))) (.cmp .ne (.call 56 [(.var 8),(.neg (.cst (.int 1))),(.var 6),(.cst (.int 0))] []) (.cst (.int 1)))) [(.ret (.cst (.bl false)))] []),
 (.ifs (.or (.cmp .ne (.call 56 [(.var 8),(.cst (.int 1)),(.var 6),(.neg (.cst (.int 7)))] []) (.cst (.int 2))) (.cmp .ne (.call 56 [(.var 8),(.cst (.int 0)),(.var 6),(.cst (.int 7))] []) (.cst (.int 2)))) [(.ret (.cst (.bl false)))] []),
 (.ifs (.cmp .ne (.call 56 [(.var 8),(.cst (.int 1)),(.var 6),(.var 5)] []) (.bin .mul (.cst (.int 4)) (.b1 .int (.cmp .ge (.b1 .abs (.var 5)) (.var 7))))) [(.ret (.cst (.bl false)))] []),
 (.exp (.meth (.var 8) 0 28 [(.cst (.int 1)),(.cst (.int 2)),(.tup [(.cst (.int 0)),(.cst (.int 0))]),(.tup [(.cst (.int 0)),(.cst (.int 0))])] [])),
 (.ret (.cmp .eq (.call 56 [(.var 8),(.cst (.int 1)),(.var 6),(.var 5)] []) (.bin .mul (.cst (.int 4)) (.b1 .int (.cmp .eq (.var 7) (.cst (.int 0)))))))]
abbrev an2:Fn:=⟨1,13,false,aqz⟩
def fns:List Fn:=axa::ayl::ayx::axB::aye::axF::axX::ax7::axW::awp::aur::awK::aun::aqY::asS::avS::awm::av8::asm::av2::avc::asy::ap1::awf::asz::aw2::Fz3::Fz4::avE::Fz7::auN::Fz5::at1::Fz8::Fz6::Fz9::ar1::asO::arQ::arn::aqS::auQ::avl::aut::atb::arB::avK::aw6::auB::as8::aw8::avf::avP::avv::as5::auf::aoW::an2::[]
abbrev xz2:Nat:=1
abbrev ar8:Nat:=4
abbrev axh:Nat:=6
def rows0:List (List Bool):=[[true,false,false,false,false,false,false],[true,true,false,false,false,false,false],[true,false,true,false,false,false,false],[true,false,false,true,false,false,false],[true,false,false,false,true,false,false],[true,false,false,false,false,true,false],[true,false,false,false,false,false,true]]
def sub0:Nat→Nat→Bool:=auG rows0
def dis:List DI:=⟨top 10,"crossing","crossing",["corners","i","j"],["corners"]⟩ ::
 ⟨top 11,"sides_cross","sides_cross",["corners","i","j","one","two"],["corners","i","j"]⟩ ::
 ⟨top 12,"side_ends","side_ends",["corners","k"],["corners","k"]⟩ ::
 ⟨top 13,"run_together","run_together",["corner","one","two"],["corner","one","two"]⟩ ::
 ⟨top 14,"have_common_point","have_common_point",["one","two"],["one","two"]⟩ ::
 ⟨top 15,"spans_meet","spans_meet",["one","two","axis","one_span","two_span"],["one","two","axis"]⟩ ::
 ⟨top 16,"reaches_across","reaches_across",["side","line"],["side","line"]⟩ ::
 ⟨top 17,"turn","turn",["start","one","two"],["start","one","two"]⟩ ::
 ⟨top 18,"along","along",["start","one","two"],["start","one","two"]⟩ ::
 ⟨top 20,"square","square",["one","two"],["one","two"]⟩ ::
 ⟨top 21,"whole_root","whole_root",["number","root","nearer"],["number"]⟩ ::
 ⟨top 23,"lowest_terms","lowest_terms",["part","whole","divisor"],["part","whole"]⟩ ::
 ⟨top 24,"greatest_divisor","greatest_divisor",["one","two","rest"],["one","two"]⟩ ::
 ⟨top 26,"outline","outline",["corners","breadth","leftward","outward","?4","?5"],["corners","breadth"]⟩ ::
 ⟨top 27,"runs_leftward","runs_leftward",["corners","doubled","k","corner","before"],["corners"]⟩ ::
 ⟨top 28,"outward_vector","outward_vector",["corners","k","leftward","ends","across","up","divisor","p","q"],["corners","k","leftward"]⟩ ::
 ⟨top 29,"hem_corner","hem_corner",["corner","before","after","breadth","cut"],["corner","before","after","breadth"]⟩ ::
 ⟨top 30,"beside","beside",["corner","vector","breadth","root","across","up"],["corner","vector","breadth"]⟩ ::
 ⟨top 31,"where_they_cut","where_they_cut",["corner","before","after","cut","breadth","before_root","after_root","before_product","after_product","across","up","whole"],["corner","before","after","cut","breadth"]⟩ ::
 ⟨top 32,"square_of","square_of",["vector"],["vector"]⟩ ::
 ⟨top 33,"thousandfold_length","thousandfold_length",["vector"],["vector"]⟩ ::
 ⟨top 34,"moved_number","moved_number",["number","part","whole"],["number","part","whole"]⟩ ::
 ⟨top 36,"hemmed","hemmed",["book","piece","breadth","size"],["book","piece","breadth","size"]⟩ ::
 ⟨top 40,"place","place",["spot","size"],["spot","size"]⟩ ::
 ⟨top 41,"check_size","check_size",["size"],["size"]⟩ ::
 ⟨top 42,"moved","moved",["spot","across","up","steps"],["spot","across","up","steps"]⟩ ::
 ⟨L2.inClass (top 50) 0,"__init__","Book.__init__",["self"],["self"]⟩ ::
 ⟨L2.inClass (top 50) 1,"add_piece","Book.add_piece",["self","corners","marks","by_side","?4","?5"],["self","corners","marks"]⟩ ::
 ⟨L2.inClass (top 50) 4,"set_moves","Book.set_moves",["self","piece","corner","greater","lesser","spots","moves"],["self","piece","corner","greater","lesser"]⟩ ::
 ⟨L2.inClass (top 50) 5,"let_out","Book.let_out",["self","steps"],["self","steps"]⟩ ::
 ⟨L2.inClass (top 50) 6,"take_in","Book.take_in",["self","steps"],["self","steps"]⟩ ::
 ⟨L2.inClass (top 50) 7,"change_size","Book.change_size",["self","steps","change"],["self","steps","change"]⟩ ::
 ⟨L2.inClass (top 50) 10,"spots","Book.spots",["self","piece"],["self","piece"]⟩ ::
 ⟨L2.inClass (top 50) 11,"mark_spots","Book.mark_spots",["self","piece","side"],["self","piece","side"]⟩ ::
 ⟨L2.inClass (top 50) 13,"corners","Book.corners",["self","piece","size"],["self","piece","size"]⟩ ::
 ⟨L2.inClass (top 50) 14,"marks","Book.marks",["self","piece","side","size"],["self","piece","side","size"]⟩ ::
 ⟨L2.inClass (top 50) 15,"places","Book.places",["self","spots","size","meant","?4"],["self","spots","size"]⟩ ::
 ⟨top 51,"check_there","check_there",["number","those"],["number","those"]⟩ ::
 ⟨top 52,"check_piece","check_piece",["corners","by_side","?2","?3"],["corners","by_side"]⟩ ::
 ⟨top 53,"spots_fit","spots_fit",["spots","?1"],["spots"]⟩ ::
 ⟨top 54,"all_within","all_within",["numbers","bound","?2"],["numbers","bound"]⟩ ::
 ⟨top 56,"_law_whole","_law_whole",["_law_found"],["_law_found"]⟩ ::
 ⟨top 57,"_law_at","_law_at",["_law_script","_law_k"],["_law_script","_law_k"]⟩ ::
 ⟨top 58,"_law_stir","_law_stir",["_law_script","_law_many","_law_state","_law_row","_law_k"],["_law_script","_law_many"]⟩ ::
 ⟨top 59,"_law_gcd","_law_gcd",["_law_one","_law_two","_law_big","_law_less","_law_rest"],["_law_one","_law_two"]⟩ ::
 ⟨top 60,"_law_strides","_law_strides",["_law_row","_law_at_here","_law_many","_law_far","_law_k"],["_law_row","_law_at_here","_law_many"]⟩ ::
 ⟨top 61,"_law_simple","_law_simple",["_law_row","_law_many","_law_low","_law_high","_law_tall","_law_bottom","_law_top","_law_line","_law_k"],["_law_row","_law_many"]⟩ ::
 ⟨top 62,"_law_swung","_law_swung",["_law_line","_law_cell","_law_lean","_law_told","_law_by","?5","?6","?7","?8"],["_law_line","_law_cell"]⟩ ::
 ⟨top 63,"_law_root","_law_root",["_law_number","_law_told","_law_bit"],["_law_number"]⟩ ::
 ⟨top 64,"_law_twice","_law_twice",["_law_line","_law_twice_here","_law_k","_law_one","_law_two"],["_law_line"]⟩ ::
 ⟨top 65,"_law_fraction","_law_fraction",["_law_found"],["_law_found"]⟩ ::
 ⟨top 66,"_law_on_hem","_law_on_hem",["_law_line","_law_k","_law_side","_law_point","_law_breadth","_law_one","_law_two","_law_by","_law_p","_law_q","_law_n","_law_a","_law_b","_law_c","_law_d","_law_across","_law_up","_law_out"],["_law_line","_law_k","_law_side","_law_point","_law_breadth"]⟩ ::
 ⟨top 67,"_law_straight","_law_straight",["_law_line","_law_k","_law_point","_law_one","_law_at_here","_law_two","_law_bent","_law_a","_law_b","_law_c","_law_d","_law_across","_law_up"],["_law_line","_law_k","_law_point"]⟩ ::
 ⟨top 68,"_law_hems","_law_hems",["_law_line","_law_found","_law_breadth","_law_k","_law_before"],["_law_line","_law_found","_law_breadth"]⟩ ::
 ⟨top 69,"_law_growing","_law_growing",["_law_row","_law_at_here","_law_many","_law_cell","_law_base","_law_ups","_law_downs","_law_k","_law_way","?9"],["_law_row","_law_at_here","_law_many","_law_cell"]⟩ ::
 ⟨top 70,"_law_place","_law_place",["_law_spot","_law_size","_law_x","_law_y","_law_step"],["_law_spot","_law_size"]⟩ ::
 ⟨top 71,"_law_refused","_law_refused",["_law_book","_law_piece","_law_breadth","_law_size","_law_code","e"],["_law_book","_law_piece","_law_breadth","_law_size"]⟩ ::
 ⟨top 72,"law","law",["_law_script","_law_row","_law_many","_law_spots","_law_at_here","_law_size","_law_breadth","_law_edge","_law_book","_law_line","_law_k","?11","?12"],["_law_script"]⟩ ::
 []
def tb:Tab:=⟨("GradeError",.exc 0)::("BadSize",.exc 1)::("BadPiece",.exc 2)::("BadMove",.exc 3)::("NoSuch",.exc 4)::("Full",.exc 5)::("Crossed",.exc 6)::("Book",.cls 0 26)::("crossing",.fn 0)::("sides_cross",.fn 1)::("side_ends",.fn 2)::("run_together",.fn 3)::("have_common_point",.fn 4)::("spans_meet",.fn 5)::("reaches_across",.fn 6)::("turn",.fn 7)::("along",.fn 8)::("square",.fn 9)::("whole_root",.fn 10)::("lowest_terms",.fn 11)::("greatest_divisor",.fn 12)::("outline",.fn 13)::("runs_leftward",.fn 14)::("outward_vector",.fn 15)::("hem_corner",.fn 16)::("beside",.fn 17)::("where_they_cut",.fn 18)::("square_of",.fn 19)::("thousandfold_length",.fn 20)::("moved_number",.fn 21)::("place",.fn 23)::("check_size",.fn 24)::("moved",.fn 25)::("check_there",.fn 37)::("check_piece",.fn 38)::("spots_fit",.fn 39)::("all_within",.fn 40)::("_law_whole",.fn 41)::("_law_at",.fn 42)::("_law_stir",.fn 43)::("_law_gcd",.fn 44)::("_law_strides",.fn 45)::("_law_simple",.fn 46)::("_law_swung",.fn 47)::("_law_root",.fn 48)::("_law_twice",.fn 49)::("_law_fraction",.fn 50)::("_law_on_hem",.fn 51)::("_law_straight",.fn 52)::("_law_hems",.fn 53)::("_law_growing",.fn 54)::("_law_place",.fn 55)::("_law_refused",.fn 56)::("law",.fn 57)::("hemmed",.fn 22)::("LEAST",.int (-6))::("MOST",.int 6)::("MOST_PIECES",.int 10)::("LEAST_CORNERS",.int 3)::("MOST_CORNERS",.int 24)::("MOST_MARKS",.int 4)::("FARTHEST",.int 20000)::("LONGEST_MOVE",.int 200)::("abs",.blt)::("all",.blt)::("any",.blt)::("bool",.blt)::("enumerate",.blt)::("int",.blt)::("isinstance",.blt)::("len",.blt)::("list",.blt)::("max",.blt)::("range",.blt)::("sorted",.blt)::("tuple",.blt)::[],
 [("add_piece",0,27),("set_moves",0,28),("let_out",0,29),("take_in",0,30),("change_size",0,31),("spots",0,32),("mark_spots",0,33),("corners",0,34),("marks",0,35),("places",0,36)],
 [(27,[[.non]]),(22,[[.non]])],
 [["size","pieces","side_marks","seams"]],[1,2,3,4,5,6],[0],[1,4,6]⟩
namespace Ck
def stB(r:Rc)(g:Ga)(e:Expr)(a:IP.E):Bi→Bool
 | .len=>kB1 r tb g "len" e a
 | .abs=>kB1 r tb g "abs" e a
 | .int=>kB1 r tb g "int" e a
 | .list=>kB1 r tb g "list" e a
 | .any=>g.calm&&kB1 r tb g "any" e a
 | .all=>g.calm&&kB1 r tb g "all" e a
 | .sorted=>kB1 r tb g "sorted" e a
 | _=>false
def stI(r:Rc)(g:Ga)(e:Expr)(a:IP.E):Ty→Bool
 | .cls c=>av1 r tb g e a c
 | c=>ao5 r tb g e a c
def stC(r:Rc)(g:Ga)(e:Expr)(d:IP.E)(t:Tg):IP.E→Bool
 | b=>ae7 r tb g e d t b
def stV(r:Rc)(g:Ga)(e:Expr):IP.E→Bool
 | .var i=>awb g e i
 | .cst t=>aty e t
 | .glb x i=>awy tb g e x i
 | .bin o a b=>aqT r g e o a b
 | .neg a=>avT r g e a
 | .not a=>arf (fun l=>r.v g l a) e
 | .cmp c a b=>anQ r g e c a b
 | .and a b=>anK (r.v g) e (.and a b)
 | .or a b=>anK (r.v g) e (.or a b)
 | .ife c a b=>auF r g e c a b
 | .tup as=>auH r g e as
 | .lst as=>apa r g e as
 | .sub a b=>awo r g e a b
 | .cutL a b=>anY r g e a b
 | .cutU a b=>aoo r g e a b
 | .cutLU a b c=>ale r g e a b c
 | .rev a=>arv r g e a
 | .b1 f a=>stB r g e a f
 | .mx2 a b=>g.calm&&kB2 r tb g "max" e a b
 | .call i as ds=>kFn r tb g e i as ds
 | .new c i _ as ds=>avz r fns tb g e c i as ds
 | .meth a c i as ds=>ap8 r fns tb g e a c i as ds
 | .fld a c f=>av6 r tb g e a c f
 | .cell a=>r.o g e a
 | .isi a c=>stI r g e a c
 | .comp a t b=>stC r g e a t b
 | _=>false
def stT(r:Rc)(g:Ga)(e:Expr):IP.E→Bool
 | .cmp c a b=>anQ r g e c a b
 | .not a=>arf (fun l=>r.t g l a) e
 | .and a b=>anK (r.t g) e (.and a b)
 | .or a b=>anK (r.t g) e (.or a b)
 | e'=>alA e&&aim e'&&r.v g e e'
def stO(r:Rc)(g:Ga)(e:Expr):IP.E→Bool
 | .lst as=>apa r g e as
 | .bin o a b=>(match o with | .add=>aqT r g e .add a b | _=>false)
 | .rev a=>arv r g e a
 | .b1 f a=>(match f with | .list=>kB1 r tb g "list" e a | _=>false)
 | .call i as ds=>adR fns i&&kFn r tb g e i as ds
 | .comp a t b=>stC r g e a t b
 | _=>false
def stW(r:Rc)(g:Ga)(e:Expr):IP.E→Bool
 | .comp a t b=>ae7 r tb g e a t b
 | _=>false
def stA(r:Rs)(g:Ga)(st:Stmt)(a:IP.E)(js:List Nat):Bool:=avB r g st js a
def stF(r:Rs)(g:Ga)(st:Stmt)(t:Tg)(as:List S):IP.E→Bool
 | .enm a=>(match t with | .many js=>apE r g st (.many js) as (fun x e=>kB1 r.toRc tb g "enumerate" e a&&anG (fun _ _ _=>true) x) | _=>false)
 | a=>apE r g st t as (fun _ e=>alt a&&kIt r.toRc tb g e a)
def stY(r:Rs)(g:Ga)(st:Stmt)(as:List S)(c:Nat)(n:Option Nat)(bs:List S):Bool:=match n with
 | none=>apc r tb g st as bs c (fun n=>n.isNone)
 | some i=>apc r tb g st as bs c (fun n=>ifS n fun y=>at? g i y&&isK (lk g.sc y) .local)
def stS(r:Rs)(g:Ga)(st:Stmt):S→Bool
 | .mk i a=>kMk r g st i a
 | .app i a=>apo (fun o v=>ajs (fun x _=>at? g i x&&aiB g x) o&&r.v g v a) st
 | .putL a b c=>aub (fun o j v=>r.v g o a&&(r.v g j b&&r.v g v c)) st
 | .appL a b=>apo (fun o v=>r.v g o a&&r.v g v b) st
 | .setF a c f b=>aq9 r tb g st a c f b
 | .ret a=>arx (fun v=>r.v g v a) st
 | .retO a=>arx (fun v=>r.o g v a) st
 | .exp a=>aqV (fun v _=>agT v&&r.v g v a) st
 | .ifs c as bs=>amE (fun x p q _=>r.t g x c&&(r.s g p as&&r.s g q bs)) st
 | .whl c as=>g.top&&ata (fun x p q _=>q.isEmpty&&(r.t g x c&&r.s g p as)) st
 | .raise c=>akY tb g st c
 | .asg i a=>auP r g st i a
 | .asgT js a=>stA r g st a js
 | .for_ t a as=>stF r g st t as a
 | .try_ as c n bs=>stY r g st as c n bs
 | _=>false
def ckr:Nat→Rs
 | 0=>bad
 | n+1=>⟨⟨stV (ckr n).toRc,stT (ckr n).toRc,stO (ckr n).toRc,kSs (stS (ckr n))⟩,stW (ckr n).toRc⟩
section
variable{X:Cx}{g:Ga}{G:Gx}{k:Nat}{r:Rs}{e:Expr}{st:Stmt}{a d:IP.E}
theorem aof{f:Bi}(R:Sd G fns sub0 k tb r.toRc)(I:In G fns sub0 k tb X g)(h:stB r.toRc g e a f=true):Vv G fns sub0 k X e (.b1 f a):=by
 cases f with
 | len=>exact awX R I h
 | abs=>exact ax4 R I h
 | int=>exact axo R I h
 | list=>exact ati R I h
 | any=>exact ax2 R I h
 | all=>exact axz R I h
 | sorted=>exact anl R I h
 | _=>exact nt h
theorem apX{c:Ty}(R:Sd G fns sub0 k tb r.toRc)(I:In G fns sub0 k tb X g)(h:stI r.toRc g e a c=true):Vv G fns sub0 k X e (.isi a c):=by
 cases c with
 | cls c=>exact axK R I h
 | _=>exact axs R I h
theorem aqr{t:Tg}{b:IP.E}(R:Sd G fns sub0 k tb r.toRc)(I:In G fns sub0 k tb X g)(h:stC r.toRc g e d t b=true):Vv G fns sub0 k X e (.comp d t b):=by
 exact asU R I h
theorem alZ{t:Tg}{b:IP.E}(R:Sd G fns sub0 k tb r.toRc)(I:In G fns sub0 k tb X g)(h:stC r.toRc g e d t b=true):Vo G fns sub0 k X e (.comp d t b):=by
 exact alD R I h
theorem aoN{e':IP.E}(R:Sd G fns sub0 k tb r.toRc)(I:In G fns sub0 k tb X g)(h:stV r.toRc g e e'=true):Vv G fns sub0 k X e e':=by
 cases e' with
 | var i=>exact axc I h
 | cst t=>exact ayc h
 | glb x i=>exact axM I h
 | bin o a b=>exact ayv R I h
 | neg a=>exact awQ R I h
 | not a=>exact ayw R I h
 | cmp c a b=>exact axw R I h
 | and a b=>exact rBo R I h
 | or a b=>exact rBo R I h
 | ife c a b=>exact ayn R I h
 | tup as=>exact axb R I h
 | lst as=>exact axV R I h
 | sub a b=>exact aw4 R I h
 | cutL a b=>exact atf R I h
 | cutU a b=>exact at3 R I h
 | cutLU a b c=>exact anT R I h
 | rev a=>exact awT R I h
 | b1 f a=>exact aof R I h
 | mx2 a b=>exact atR R I h
 | call i as ds=>exact rFn R I h
 | new c i _ as ds=>exact ay2 R I h
 | meth a c i as ds=>exact atP R I h
 | fld a c f=>exact awY R I h
 | cell a=>exact auj R I h
 | isi a c=>exact apX R I h
 | comp a t b=>exact aqr R I h
 | _=>exact nt h
theorem ao9{e':IP.E}(R:Sd G fns sub0 k tb r.toRc)(I:In G fns sub0 k tb X g)(h:stT r.toRc g e e'=true):Vt G fns sub0 k X e e':=by
 cases e' with
 | cmp c a b=>exact atx R I h
 | not a=>exact atK R I h
 | and a b=>exact awx R I h
 | or a b=>exact awx R I h
 | _=>exact ayp R I h
theorem aqc{e':IP.E}(R:Sd G fns sub0 k tb r.toRc)(I:In G fns sub0 k tb X g)(h:stO r.toRc g e e'=true):Vo G fns sub0 k X e e':=by
 cases e' with
 | lst as=>exact atV R I h
 | bin o a b=>
  cases o with
  | add=>exact atN R I h
  | _=>exact nt h
 | rev a=>exact apW R I h
 | b1 f a=>
  cases f with
  | list=>exact aoA R I h
  | _=>exact nt h
 | call i as ds=>exact ayk R I h
 | comp a t b=>exact alZ R I h
 | _=>exact nt h
theorem apF{js:List Nat}(R:Ss G fns sub0 k tb r)(I:In G fns sub0 k tb X g)(h:stA r g st a js=true):Vs G fns sub0 k X st (.asgT js a):=by
 exact ay4 R I h
theorem anO{t:Tg}{as:List S}(R:Ss G fns sub0 k tb r)(I:In G fns sub0 k tb X g)(h:stF r g st t as a=true):Vs G fns sub0 k X st (.for_ t a as):=by
 cases a with
 | enm a=>
  cases t with
  | many js=>exact axC R I h
  | _=>exact nt h
 | _=>exact ayd R I h
theorem ao8{as bs:List S}{c:Nat}{n:Option Nat}(R:Ss G fns sub0 k tb r)(I:In G fns sub0 k tb X g)(h:stY r g st as c n bs=true):Vs G fns sub0 k X st (.try_ as c n bs):=by
 cases n with
 | none=>exact asi R I h
 | some i=>exact at0 R I h
theorem aqD{a:S}(R:Ss G fns sub0 k tb r)(I:In G fns sub0 k tb X g)(h:stS r g st a=true):Vs G fns sub0 k X st a:=by
 cases a with
 | mk i a=>exact rMk R I h
 | app i a=>exact axg R I h
 | putL a b c=>exact ass R I h
 | appL a b=>exact asZ R I h
 | setF a c f b=>exact aug R I h
 | ret a=>exact axP R I h
 | retO a=>exact asL R I h
 | exp a=>exact axS R I h
 | ifs c as bs=>exact axL R I h
 | whl c as=>exact axf R I h
 | raise c=>exact aoK I h
 | asg i a=>exact ayo R I h
 | asgT js a=>exact apF R I h
 | for_ t a as=>exact anO R I h
 | try_ as c n bs=>exact ao8 R I h
 | _=>exact nt h
end
theorem aos{X:Cx}{g:Ga}{G:Gx}{k:Nat}{r:Rs}{e:Expr}{e':IP.E}(R:Sd G fns sub0 k tb r.toRc)(I:In G fns sub0 k tb X g)(h:stW r.toRc g e e'=true):(∀(y:Str) (py spos:Pos) (i:Nat),X.N[i]?=some y→X.env.scope.names.lookup y=some .local→swapsWith e (some (.Name y py)) spos.line X.env=pure true→
  PS X (.Assign [.Name y py] e spos) (fun D σV H=>tO G X (cfX fns sub0 k) e' σV H fun v H1=>D.nx (σV.set i (some v)) H1))∧∀σ s r s1,ev (cfX fns sub0 k) e' .v σ s=.ok r s1→∃ts,r=.val (.lst ts):=by
 cases e' with
 | comp a t b=>exact atg R I h
 | _=>exact nt h
theorem ckr_ok{G:Gx}{k:Nat}:∀n,Ss G fns sub0 k tb (ckr n)
 | 0=>aow
 | n+1=>
  have R:=ckr_ok n
  ⟨⟨fun I h=>aoN R.toSd I h,fun I h=>ao9 R.toSd I h,fun I h=>aqc R.toSd I h,fun I h=>am0 (fun st a z=>aqD R I z) _ _ h⟩,fun I h=>aos R.toSd I h⟩
theorem ck_ok:aiA (ckr 40) dis fns=true:=by decide +kernel
theorem ckt_ok:ckT tb=true:=by decide +kernel
end Ck
def axp:Prop:=ape fns sub0 16 57
end Pg
end IP
end
noncomputable section
namespace IP
open L2
theorem aab{i j:Int}(h:i.natAbs<2^64):ahr i j=true:=by
 unfold ahr
 simp[h]
theorem aby{i j:Int}(h:j.natAbs<2^64):ahr i j=true:=by
 unfold ahr
 simp[h]
section
variable{x f:Bool}{σ:Fr}{s:Sto}{i j:Int}{ts us:List T}{t a b c d:T}{r:R}
@[simp] theorem ao0:aaL x false (.ret r s)=.ok r s:=rfl
@[simp] theorem anL:aaL x true (.retO ts s)=.ok (.val (.lst ts)) s:=rfl
@[simp] theorem anD:aaL x false (.next σ s)=.ok (.val .non) s:=rfl
@[simp] theorem awF (b:Bool) (m n:Res R):onB (.val (.bl b)) m n=if b=true then m else n:=by cases b<;>rfl
@[simp] theorem auu (b:Bool) (m n:SR):ara (.val (.bl b)) m n=if b=true then m else n:=by cases b<;>rfl
@[simp] theorem asa (g:Int→Res R):onI (.val (.int i)) g=g i:=rfl
@[simp] theorem asx (g:T→Res (List T)):onV (.val t) g=g t:=rfl
@[simp] theorem asT (g:List T→Res R):onL (.val (.lst ts)) g=g ts:=rfl
@[simp] theorem aqU {α β:Type} (v:α) (g:α→Res β):onO (some v) g=g v:=rfl
@[simp] theorem int_int:(R.val (.int i)).int?=some i:=rfl
@[simp] theorem as3:(R.val t).val?=some t:=rfl
@[simp] theorem at5:(R.bor ts).val?=none:=rfl
@[simp] theorem arH:(R.val (.lst ts)).lst?=some ts:=rfl
@[simp] theorem ar4:(R.val (.lst ts)).seq=some ts:=rfl
@[simp] theorem ath:(R.bor ts).seq=some ts:=rfl
@[simp] theorem asq:(R.val (.lst ts)).sq2=some ts:=rfl
@[simp] theorem atM:(R.val (.tup ts)).sq2=some ts:=rfl
@[simp] theorem arL:(R.bor ts).sq2=some ts:=rfl
@[simp] theorem at9:(R.val (.lst ts)).sq3=some ts:=rfl
@[simp] theorem asD:(R.val (.tup ts)).sq3=some ts:=rfl
@[simp] theorem auC (b:Bool):tru (.val (.bl b))=some b:=rfl
@[simp] theorem ar3:tru (.val (.int i))=some (i != 0):=rfl
@[simp] theorem avU:one (.ok (.val t) s)=.ok (some t) s:=rfl
@[simp] theorem auA {p:Prop} [Decidable p] (m n:Res R) (k:R→Sto→SR):(if p then m else n).st σ k=if p then m.st σ k else n.st σ k:=by split<;>rfl
@[simp] theorem ard {α β:Type}{p:Prop} [Decidable p] (m n:Res α) (k:α→Sto→Res β):(if p then m else n).bind k=if p then m.bind k else n.bind k:=by split<;>rfl
@[simp] theorem aqI {p:Prop} [Decidable p] (m n:SR):aaL x f (if p then m else n)=if p then aaL x f m else aaL x f n:=by split<;>rfl
@[simp] theorem aoD {p:Prop} [Decidable p] (m n:SR) (k:Fr→Sto→SR):(if p then m else n).bind k=if p then m.bind k else n.bind k:=by split<;>rfl
@[simp] theorem anA {p:Prop} [Decidable p] (m n:SR) (i:Nat):(if p then m else n).unlock i=if p then m.unlock i else n.unlock i:=by split<;>rfl
@[simp] theorem anI (v:R) (i:Nat):(SR.ret v s).unlock i=.ret v s:=rfl
@[simp] theorem anw (i:Nat):(SR.next σ s).unlock i=.next (IP.unlock σ i) s:=rfl
@[simp] theorem apk:opR .add (.val (.int i)) (.val (.int j))=some (.val (.int (i+j))):=rfl
@[simp] theorem ao6:opR .sub (.val (.int i)) (.val (.int j))=some (.val (.int (i-j))):=rfl
theorem aag(h:ahr i j=true):opR .mul (.val (.int i)) (.val (.int j))=some (.val (.int (i*j))):=by simp[opR,opI,h]
theorem aay(h:0<j):opR .mod (.val (.int i)) (.val (.int j))=some (.val (.int (Int.fmod i j))):=by simp[opR,opI,show j≠0 by omega]
theorem akP:(2:Nat)^64<big:=by unfold big;decide +kernel
theorem aaH(h:0<j)(hb:j<2^64):opR .fdiv (.val (.int i)) (.val (.int j))=some (.val (.int (Int.fdiv i j))):=by
 have:j.natAbs<big:=Nat.lt_trans (by omega) akP
 simp[opR,opI,show j≠0 by omega,this]
@[simp] theorem axm:ade .lt (.val (.int i)) (.val (.int j))=some (decide (i<j)):=rfl
@[simp] theorem ax9:ade .le (.val (.int i)) (.val (.int j))=some (decide (i≤j)):=rfl
@[simp] theorem axj:ade .gt (.val (.int i)) (.val (.int j))=some (decide (j<i)):=rfl
@[simp] theorem awW:ade .ge (.val (.int i)) (.val (.int j))=some (decide (j≤i)):=rfl
@[simp] theorem axd:ade .eq (.val a) (.val b)=eqD 8 a b:=rfl
@[simp] theorem ax1:ade .ne (.val a) (.val b)=(eqD 8 a b).map (!·):=rfl
@[simp] theorem avC:ade .isN r (.val .non)=some r.isNon:=rfl
@[simp] theorem atO:ade .notN r (.val .non)=some (!r.isNon):=rfl
@[simp] theorem awj:eqD 8 (.int i) (.int j)=some (i==j):=by simp[eqD]
@[simp] theorem awz:aaQ (.val (.tup [a,b])) 0=some a:=rfl
@[simp] theorem awh:aaQ (.val (.tup [a,b])) 1=some b:=rfl
theorem aaU{n:Nat}(h:ts[n]?=some t):aaQ (.val (.lst ts)) (n:Int)=some t:=by
 have hl:=(List.getElem?_eq_some_iff.mp h).1
 have h2:=(List.getElem?_eq_some_iff.mp h).2
 simp[aaQ,L2.atI,L2.ixN,hl,h2]
theorem acU{n:Nat}(h:ts[n]?=some t):aaQ (.bor ts) (n:Int)=some t:=by
 have hl:=(List.getElem?_eq_some_iff.mp h).1
 have h2:=(List.getElem?_eq_some_iff.mp h).2
 simp[aaQ,L2.atI,L2.ixN,hl,h2]
@[simp] theorem anB:b1R .len (.val (.lst ts))=some (.val (.int ts.length)):=rfl
@[simp] theorem anM:b1R .len (.val (.tup ts))=some (.val (.int ts.length)):=rfl
@[simp] theorem anC:b1R .len (.bor ts)=some (.val (.int ts.length)):=rfl
@[simp] theorem avM:b1R .abs (.val (.int i))=some (.val (.int (if i<0 then -i else i))):=rfl
@[simp] theorem arV:b1R .list (.val (.lst ts))=some (.val (.lst ts)):=rfl
@[simp] theorem an9:b1R .sorted (.val (.lst [.int i,.int j]))=some (.val (.lst [.int (min i j),.int (max i j)])):=by
 by_cases h:j<i
 ·simp[b1R,aaN,aeh,ahq,h,show min i j=j by omega,show max i j=i by omega]
 ·simp[b1R,aaN,aeh,ahq,h,show min i j=i by omega,show max i j=j by omega]
@[simp] theorem ate:b1R .max (.val (.lst [.int i,.int j]))=some (.val (.int (max i j))):=by
 have h:b1R .max (.val (.lst [.int i,.int j]))=some (.val (.int (if j>i then j else i))):=rfl
 rw[h,show(if j>i then j else i)=max i j by split<;>omega]
@[simp] theorem asn:b1R .min (.val (.lst [.int i,.int j]))=some (.val (.int (min i j))):=by
 have h:b1R .min (.val (.lst [.int i,.int j]))=some (.val (.int (if j<i then j else i))):=rfl
 rw[h,show(if j<i then j else i)=min i j by split<;>omega]
@[simp] theorem auo:aaQ (.val (.lst [a,b])) 0=some a:=rfl
@[simp] theorem arI:aaQ (.val (.lst [a,b])) 1=some b:=rfl
end
theorem aaV{C:Cf}{g:Tg}{it:E}{b:List S}{σ:Fr}{s s1:Sto}{ts:List T}(h:ev C it .j σ s=.ok (.val (.lst ts)) s1)(hit:∀i,it≠.var i):ex C (.for_ g it b) σ s=abH g (fun σ s=>exs C b σ s) ts σ s1:=by
 have e:ex C (.for_ g it b) σ s=(ev C it .j σ s).st σ fun x s1=>onS x.lst? fun ts=>abH g (fun σ s=>exs C b σ s) ts σ s1:=by
  cases it<;>first|rfl|exact absurd rfl (hit _)
 rw[e,h]
 rfl
theorem abr:1000≤lim:=by decide
theorem alN:(1000:Int)≤(lim:Int):=Int.ofNat_le.mpr abr
theorem anu{j:Int}(h:j≤1000):decide (j≤(lim:Int))=true:=decide_eq_true (Int.le_trans h alN)
theorem ajT{n:Nat}(h:n≤1000):bnd (n:Int)=true:=by
 unfold bnd
 simp
 omega
theorem abK{C:Cf}{a:E}{σ:Fr}{s s1:Sto}{j:Int}(h:ev C a .v σ s=.ok (.val (.int j)) s1):ev C (.rng1 a) .j σ s=if bnd j&&decide (j≤lim)then .ok (.val (.lst (aai 0 j))) s1 else .stuck:=by
 show(ajq _ ((ev C _ .v σ s).bind _))=_
 rw[h]
 rfl
theorem akh{C:Cf}{a b:E}{σ:Fr}{s s1 s2:Sto}{i j:Int}(h:ev C a .v σ s=.ok (.val (.int i)) s1)(h':ev C b .v σ s1=.ok (.val (.int j)) s2):ev C (.rng2 a b) .j σ s=if bnd i&&bnd j&&decide (j-i≤lim)then .ok (.val (.lst (aai i j))) s2 else .stuck:=by
 show(ajq _ ((ev C _ .v σ s).bind _))=_
 rw[h]
 show(ev C b .v σ s1).bind _=_
 rw[h']
 rfl
theorem af7{α:Type}{b:Bool}{x y:α}(h:b=true):(if b then x else y)=x:=by rw[h];rfl
theorem ae5{a b:Bool}(h:a=true)(h':b=true):(a&&b)=true:=by rw[h,h'];rfl
theorem abm{C:Cf}{a:E}{σ:Fr}{s s1:Sto}{n:Nat}(h:ev C a .v σ s=.ok (.val (.int (n:Int))) s1)(hn:n≤1000):ev C (.rng1 a) .j σ s=.ok (.val (.lst (aai 0 n))) s1:=
 (abK h).trans (af7 (ae5 (ajT hn) (anu (Int.ofNat_le.mpr hn))))
theorem amp{C:Cf}{a b:E}{σ:Fr}{s s1 s2:Sto}{m n:Nat}(h:ev C a .v σ s=.ok (.val (.int (m:Int))) s1)(h':ev C b .v σ s1=.ok (.val (.int (n:Int))) s2)(hm:m≤1000)(hn:n≤1000):ev C (.rng2 a b) .j σ s=.ok (.val (.lst (aai m n))) s2:=
 (akh h h').trans (af7 (ae5 (ae5 (ajT hm) (ajT hn)) (anu (by omega))))
theorem aif{C:Cf}{a:E}{σ:Fr}{s s1:Sto}{j:Int}(h:ev C a .v σ s=.ok (.val (.int j)) s1):ev C (.rng1 a) .i σ s=if bnd j&&decide (j≤lim)then .ok (.val (.lst (aai 0 j))) s1 else .stuck:=by
 show(ajq _ ((ev C _ .v σ s).bind _))=_
 rw[h]
 rfl
theorem afX{C:Cf}{a:E}{σ:Fr}{s s1:Sto}{n:Nat}(h:ev C a .v σ s=.ok (.val (.int (n:Int))) s1)(hn:n≤1000):ev C (.rng1 a) .i σ s=.ok (.val (.lst (aai 0 n))) s1:=
 (aif h).trans (af7 (ae5 (ajT hn) (anu (Int.ofNat_le.mpr hn))))
theorem aev{C:Cf}{e:E}{σ:Fr}{s s1:Sto}{r:R}(h:ev C e .v σ s=.ok r s1):ex C (.ret e) σ s=.ret r s1:=by first|(show(ev C e .v σ s).st σ _=_;rw[h];rfl)
theorem act{C:Cf}{e:E}{i:Nat}{σ:Fr}{s s1:Sto}{t:T}(h:ev C e .v σ s=.ok (.val t) s1):ex C (.asg i e) σ s=.next (put σ i t) s1:=by first|(show(ev C e .v σ s).st σ _=_;rw[h];rfl)
theorem ahV{C:Cf}{e it:E}{g:Tg}{σ:Fr}{s s1 s2:Sto}{ts q:List T}(h:ev C it .i σ s=.ok (.val (.lst ts)) s1)(h2:aat (fun t s=>onO (aal σ g t) fun σ'=>one (ev C e .v σ' s)) ts s1=.ok q s2):ev C (.comp e g it) .v σ s=.ok (.val (.lst q)) s2:=by
 show(fin .v ((ev C it .i σ s).bind _))=_
 rw[h]
 show(aat (fun t s=>onO (aal σ g t) fun σ'=>one (ev C e .v σ' s)) ts s1).bind _=_
 rw[h2]
 rfl
theorem adP{C:Cf}{a:S}{r:List S}{σ:Fr}{s:Sto}:exs C (a::r) σ s=(ex C a σ s).bind fun σ1 s1=>exs C r σ1 s1:=by simp only[exs]
theorem aaa{C:Cf}{a:S}{r:List S}{σ σ1:Fr}{s s1:Sto}(h:ex C a σ s=.next σ1 s1):exs C (a::r) σ s=exs C r σ1 s1:=by rw[adP,h];rfl
theorem abw{C:Cf}{a:S}{r:List S}{σ:Fr}{s s1:Sto}{v:R}(h:ex C a σ s=.ret v s1):exs C (a::r) σ s=.ret v s1:=by rw[adP,h];rfl
@[simp] theorem awJ (m:Res R):ajq .j m=m:=rfl
@[simp] theorem awB (m:Res R):ajq .i m=m:=rfl
section
variable{g:Tg}{body:Fr→Sto→SR}{s:Sto}
theorem aaJ(I:Nat→Fr→Prop):∀(ts:List T) (n:Nat) (σ:Fr),I n σ→(∀(m:Nat) (t:T) (σ:Fr),ts[m]?=some t→I (n+m) σ→∃σ1 σ2,aal σ g t=some σ1∧body σ1 s=.next σ2 s∧I (n+m+1) σ2)→
  ∃σ',abH g body ts σ s=.next σ' s∧I (n+ts.length) σ'
 | [],n,σ,h,_=>⟨σ,rfl,h⟩
 | t::ts,n,σ,h,st=>by
  obtain⟨σ1,σ2,e1,e2,e3⟩:=st 0 t σ rfl h
  obtain⟨σ',e4,e5⟩:=aaJ I ts (n+1) σ2 e3 fun m u σ em hm=>by
   obtain⟨a,b,c1,c2,c3⟩:=st (m+1) u σ (by simpa using em) (by rw[show n+(m+1)=n+1+m by omega];exact hm)
   exact⟨a,b,c1,c2,by rw[show n+1+m+1=n+(m+1)+1 by omega];exact c3⟩
  refine⟨σ',?_,by rw[List.length_cons,show n+(ts.length+1)=n+1+ts.length by omega];exact e5⟩
  show onS (aal σ g t) _=_
  rw[e1]
  show(body σ1 s).bind _=_
  rw[e2]
  exact e4
def abz{α:Type}(q:Nat→Option α):Nat→Nat→Option α
 | _,0=>none
 | n,m+1=>match q n with
  | some v=>some v
  | none=>abz q (n+1) m
theorem acf(I:Nat→Fr→Prop)(q:Nat→Option R):∀(ts:List T) (n:Nat) (σ:Fr),I n σ→
  (∀(m:Nat) (t:T) (σ:Fr),ts[m]?=some t→I (n+m) σ→∃σ1,aal σ g t=some σ1∧match q (n+m)with
   | some r=>body σ1 s=.ret r s
   | none=>∃σ2,body σ1 s=.next σ2 s∧I (n+m+1) σ2)→
  match abz q n ts.length with
  | some r=>abH g body ts σ s=.ret r s
  | none=>∃σ',abH g body ts σ s=.next σ' s∧I (n+ts.length) σ'
 | [],n,σ,h,_=>⟨σ,rfl,h⟩
 | t::ts,n,σ,h,st=>by
  obtain⟨σ1,e1,e2⟩:=st 0 t σ rfl h
  rw[List.length_cons]
  unfold abz
  cases hq:q n with
  | some r=>
   rw[show n+0=n from rfl,hq]at e2
   show onS (aal σ g t) _=_
   rw[e1]
   show(body σ1 s).bind _=_
   rw[show body σ1 s=_ from e2]
   rfl
  | none=>
   rw[show n+0=n from rfl,hq]at e2
   obtain⟨σ2,e2,e3⟩:=e2
   have ih:=acf I q ts (n+1) σ2 e3 fun m u σ em hm=>by
    obtain⟨a,c1,c2⟩:=st (m+1) u σ (by simpa using em) (by rw[show n+(m+1)=n+1+m by omega];exact hm)
    refine⟨a,c1,?_⟩
    rw[show n+(m+1)=n+1+m by omega]at c2
    exact c2
   have e0:abH g body (t::ts) σ s=abH g body ts σ2 s:=by
    show onS (aal σ g t) _=_
    rw[e1]
    show(body σ1 s).bind _=_
    rw[e2]
    rfl
   rw[e0]
   show(match abz q (n+1) ts.length with|some r=>_|none=>_)
   cases hf:abz q (n+1) ts.length with
   | some r=>rw[hf]at ih;exact ih
   | none=>
    rw[hf]at ih
    obtain⟨σ',e4,e5⟩:=ih
    exact⟨σ',e4,by rw[show n+(ts.length+1)=n+1+ts.length by omega];exact e5⟩
theorem aav{i j:Int}{n:Nat}{t:T}(h:(aai i j)[n]?=some t):t=.int (i+n)∧n<(j-i).toNat:=by
 unfold aai at h
 rw[List.getElem?_map]at h
 cases e:(List.range (j-i).toNat)[n]? with
 | none=>rw[e]at h;cases h
 | some m=>
  rw[e]at h
  have hn:=(List.getElem?_eq_some_iff.mp e).1
  have:=(List.getElem?_eq_some_iff.mp e).2
  simp at this hn
  subst this
  simp at h
  exact⟨h.symm,by omega⟩
theorem aa1(i j:Int):(aai i j).length=(j-i).toNat:=by unfold aai;simp
end
end IP
end
noncomputable section
namespace IP
@[simp] theorem arO:exs C [] x x_1=SR.next x x_1:=by intros;rfl
@[simp] theorem asY:exs C (a::r) x x_1=SR.bind (ex C a x x_1) fun σ1 s1=>exs C r σ1 s1:=by intros;rfl
@[simp] theorem avW:ex C (S.asg i e) x x_1=Res.st (ev C e Md.v x x_1) x fun x_2 s1=>onS (R.val? x_2) fun t=>SR.next (put x i t) s1:=by intros;rfl
@[simp] theorem av9:ex C (S.asgT is e) x x_1=Res.st (ev C e Md.v x x_1) x fun x_2 s1=>onS (R.tup? x_2) fun ts=>onS (puts x is ts) fun σ'=>SR.next σ' s1:=by intros;rfl
@[simp] theorem awI:ex C (S.mk i e) x x_1=if aba C e=true then Res.st (ev C e Md.v x x_1) x fun x_2 s1=>onS (R.lst? x_2) fun ts=>SR.next (aas x i ts) s1 else SR.stuck:=by intros;rfl
@[simp] theorem avs:ex C (S.app i e) x x_1=onS (abE x i) fun ts=>Res.st (ev C e Md.v x x_1) x fun x_2 s1=>onS (R.val? x_2) fun t=>if List.length ts<lim then SR.next (aas x i (ts++[t])) s1 else SR.stuck:=by intros;rfl
@[simp] theorem av4:ex C (S.frz i) x x_1=SR.next (frz x i) x_1:=by intros;rfl
@[simp] theorem ae6:ex C (S.ifs c a b) x x_1=Res.st (ev C c Md.t x x_1) x fun x_2 s1=>ara x_2 (exs C a x s1) (exs C b x s1):=by intros;rfl
@[simp] theorem ani:∀(C:Cf) (x:Fr) (x_1:Sto) (c:E) (b:List S),
 ex C (S.whl c b) x x_1=
  Cf.wl C
   (fun σ s=>
    Res.bind (ev C c Md.t σ s) fun x s1=>
     Res.of
      (match x with
      | R.val (T.bl k)=>some k
      | x=>none)
      s1)
   (fun σ s=>exs C b σ s) x x_1:=by intros;rfl
@[simp] theorem atm:ex C (S.ret e) x x_1=Res.st (ev C e Md.v x x_1) x fun x s1=>SR.ret x s1:=by intros;rfl
@[simp] theorem at8:ex C (S.retO e) x x_1=if aba C e=true then Res.st (ev C e Md.v x x_1) x fun x s1=>onS (R.lst? x) fun ts=>SR.retO ts s1 else SR.stuck:=by intros;rfl
@[simp] theorem atr:ex C (S.exp e) x x_1=Res.st (ev C e Md.v x x_1) x fun x_2 s1=>SR.next x s1:=by intros;rfl
@[simp] theorem aud:ex C (S.raise c) x x_1=SR.exc c x x_1:=by intros;rfl
@[simp] theorem amx:∀(C:Cf) (x:Fr) (x_1:Sto) (b:List S) (c:Nat) (nm:Option Nat) (h:List S),
 ex C (S.try_ b c nm h) x x_1=
  match exs C b x x_1 with
  | SR.exc d σ1 s1=>
   if Cf.sub C d c=true then
    match nm with
    | none=>SR.nox (exs C h σ1 s1)
    | some i=>SR.bind (SR.nox (exs C h (put σ1 i (T.exc d)) s1)) fun σ2 s2=>SR.next (List.set σ2 i none) s2
   else SR.exc d σ1 s1
  | r=>r:=by intros;rfl
@[simp] theorem atc:ex C (S.putL a j e) x x_1=Res.st (ev C e Md.v x x_1) x fun x_2 s1=>onS (R.val? x_2) fun t=>Res.st (ev C a Md.v x s1) x fun y s2=>Res.st (ev C j Md.v x s2) x fun z s3=>onS (R.locL s3 y) fun p=>onS (R.int? z) fun k=>onS (L2.ixN (List.length (Prod.snd p)) k) fun n=>SR.next x (List.set s3 (Prod.fst p) (Cell.lst (List.set (Prod.snd p) n t))):=by intros;rfl
@[simp] theorem au5:ex C (S.appL a e) x x_1=Res.st (ev C a Md.v x x_1) x fun y s1=>onS (R.locL s1 y) fun x_2=>Res.st (ev C e Md.v x s1) x fun x_3 s2=>onS (R.val? x_3) fun t=>onS (R.locL s2 y) fun p=>if List.length (Prod.snd p)<lim then SR.next x (List.set s2 (Prod.fst p) (Cell.lst (Prod.snd p++[t])))else SR.stuck:=by intros;rfl
@[simp] theorem as2:ex C (S.setF a c f e) x x_1=Res.st (ev C e Md.v x x_1) x fun x_2 s1=>onS (R.val? x_2) fun t=>Res.st (ev C a Md.v x s1) x fun y s2=>onS (R.locI s2 c y) fun p=>if f<List.length (Prod.snd p)then SR.next x (List.set s2 (Prod.fst p) (Cell.ins c (List.set (Prod.snd p) f (some t))))else SR.stuck:=by intros;rfl
@[simp] theorem awr:ev C (E.var i) x x_1 x_2=fin x (Res.of (look x_1 i) x_2):=by intros;rfl
@[simp] theorem avX:ev C (E.cst t) x x_1 x_2=fin x (Res.ok (R.val t) x_2):=by intros;rfl
@[simp] theorem avD:ev C (E.glb x_4 i) x x_1 x_2=fin x (Res.ok (R.val (T.int i)) x_2):=by intros;rfl
@[simp] theorem awA:ev C (E.bin o a b) x x_1 x_2=fin x (Res.bind (ev C a Md.v x_1 x_2) fun x s1=>Res.bind (ev C b Md.v x_1 s1) fun y s2=>Res.of (opR o x y) s2):=by intros;rfl
@[simp] theorem auX:ev C (E.neg a) x x_1 x_2=fin x (Res.bind (ev C a Md.v x_1 x_2) fun x s1=>Res.of (Option.map (fun i=>R.val (T.int (-i))) (R.int? x)) s1):=by intros;rfl
@[simp] theorem avJ:ev C (E.not a) Md.t x x_1=Res.bind (ev C a Md.t x x_1) fun x s1=>onB x (Res.ok (R.val (T.bl false)) s1) (Res.ok (R.val (T.bl true)) s1):=by intros;rfl
@[simp] theorem avY:∀(C:Cf) (x:Md) (x_1:Fr) (x_2:Sto) (a:E),(x=Md.t→False)→ev C (E.not a) x x_1 x_2=fin x (Res.bind (ev C a Md.v x_1 x_2) fun x s1=>Res.of (Option.map (fun k=>R.val (T.bl !k)) (tru x)) s1):=by intro C x x_1 x_2 a h;cases x<;>first|rfl|exact(h rfl).elim
@[simp] theorem auY:ev C (E.cmp c a b) x x_1 x_2=fin x (Res.bind (ev C a Md.v x_1 x_2) fun x s1=>Res.bind (ev C b Md.v x_1 s1) fun y s2=>Res.of (Option.map (fun k=>R.val (T.bl k)) (ade c x y)) s2):=by intros;rfl
@[simp] theorem avp:ev C (E.and a b) Md.t x x_1=Res.bind (ev C a Md.t x x_1) fun x_2 s1=>onB x_2 (ev C b Md.t x s1) (Res.ok (R.val (T.bl false)) s1):=by intros;rfl
@[simp] theorem as9:ev C (E.or a b) Md.t x x_1=Res.bind (ev C a Md.t x x_1) fun x_2 s1=>onB x_2 (Res.ok (R.val (T.bl true)) s1) (ev C b Md.t x s1):=by intros;rfl
@[simp] theorem aue:∀(C:Cf) (x:Md) (x_1:Fr) (x_2:Sto) (a b:E),(x=Md.t→False)→ev C (E.and a b) x x_1 x_2=fin x (Res.bind (ev C a Md.v x_1 x_2) fun x s1=>onB x (ev C b Md.v x_1 s1) (Res.ok (R.val (T.bl false)) s1)):=by intro C x x_1 x_2 a b h;cases x<;>first|rfl|exact(h rfl).elim
@[simp] theorem asR:ev C (E.ife c a b) x x_1 x_2=fin x (Res.bind (ev C c Md.t x_1 x_2) fun x s1=>onB x (ev C a Md.v x_1 s1) (ev C b Md.v x_1 s1)):=by intros;rfl
@[simp] theorem auv:ev C (E.tup es) x x_1 x_2=fin x (Res.bind (evs C es x_1 x_2) fun ts s1=>Res.ok (R.val (T.tup ts)) s1):=by intros;rfl
@[simp] theorem asA:ev C (E.lst es) x x_1 x_2=fin x (Res.bind (evs C es x_1 x_2) fun ts s1=>Res.ok (R.val (T.lst ts)) s1):=by intros;rfl
@[simp] theorem asE:ev C (E.sub a b) x x_1 x_2=fin x (Res.bind (ev C a Md.v x_1 x_2) fun x s1=>Res.bind (ev C b Md.v x_1 s1) fun y s2=>onI y fun i=>Res.of (Option.map R.val (aaQ (R.dr s2 x) i)) s2):=by intros;rfl
@[simp] theorem asK:ev C (E.cutL a l) x x_1 x_2=fin x (Res.bind (ev C a Md.v x_1 x_2) fun x s1=>Res.bind (ev C l Md.v x_1 s1) fun y s2=>onI y fun i=>Res.of (aeL (R.dr s2 x) (some i) none) s2):=by intros;rfl
@[simp] theorem ar6:ev C (E.cutU a h) x x_1 x_2=fin x (Res.bind (ev C a Md.v x_1 x_2) fun x s1=>Res.bind (ev C h Md.v x_1 s1) fun y s2=>onI y fun i=>Res.of (aeL (R.dr s2 x) none (some i)) s2):=by intros;rfl
@[simp] theorem auk:ev C (E.cutLU a l h) x x_1 x_2=fin x (Res.bind (ev C a Md.v x_1 x_2) fun x s1=>Res.bind (ev C l Md.v x_1 s1) fun y s2=>onI y fun i=>Res.bind (ev C h Md.v x_1 s2) fun z s3=>onI z fun j=>Res.of (aeL (R.dr s3 x) (some i) (some j)) s3):=by intros;rfl
@[simp] theorem arJ:ev C (E.rev a) x x_1 x_2=fin x (Res.bind (ev C a Md.v x_1 x_2) fun x s1=>Res.of (Option.map (fun ts=>R.val (T.lst (List.reverse ts))) (R.seq x)) s1):=by intros;rfl
@[simp] theorem atD:ev C (E.b1 f a) x x_1 x_2=fin x (Res.bind (ev C a Md.v x_1 x_2) fun x s1=>Res.of (b1R f (R.dr s1 x)) s1):=by intros;rfl
@[simp] theorem au3:∀(C:Cf) (x:Md) (x_1:Fr) (x_2:Sto) (a b:E),
 ev C (E.mx2 a b) x x_1 x_2=
  fin x
   (Res.bind (ev C a Md.v x_1 x_2) fun x s1=>
    Res.bind (ev C b Md.v x_1 s1) fun y s2=>
     Res.of
      (do
       let i ←R.int? x
       let j ←R.int? y
       some (R.val (T.int (if j>i then j else i))))
      s2):=by intros;rfl
@[simp] theorem atj:ev C (E.isi a c) x x_1 x_2=fin x (Res.bind (ev C a Md.v x_1 x_2) fun x s1=>Res.of (Option.map (fun k=>R.val (T.bl k)) (ael (Cf.sub C) (R.dr s1 x) c)) s1):=by intros;rfl
@[simp] theorem atw:ev C (E.call f es ds) x x_1 x_2=fin x (Res.bind (evr C es x_1 x_2) fun rs s1=>Cf.cf C f (rs++List.map R.val ds) s1):=by intros;rfl
@[simp] theorem au4:ev C (E.comp e g it) x x_1 x_2=fin x (Res.bind (ev C it Md.i x_1 x_2) fun x s1=>onL x fun ts=>Res.bind (aat (fun t s=>onO (aal x_1 g t) fun σ'=>one (ev C e Md.v σ' s)) ts s1) fun q s2=>Res.ok (R.val (T.lst q)) s2):=by intros;rfl
@[simp] theorem ash:ev C (E.enm a) x x_1 x_2=ajq x (Res.bind (ev C a Md.v x_1 x_2) fun x s1=>onL x fun ts=>Res.ok (R.val (T.lst (enT 0 ts))) s1):=by intros;rfl
@[simp] theorem arR:ev C (E.fld a c f) x x_1 x_2=fin x (Res.bind (ev C a Md.v x_1 x_2) fun x s1=>Res.of (Option.map R.val (ahd s1 x c f)) s1):=by intros;rfl
@[simp] theorem asV:ev C (E.cell a) x x_1 x_2=fin x (Res.bind (ev C a Md.v x_1 x_2) fun x s1=>onL x fun ts=>Res.ok (R.val (T.loc (List.length s1))) (s1++[Cell.lst ts])):=by intros;rfl
@[simp] theorem asv:ev C (E.new c f n es ds) x x_1 x_2=fin x (Res.bind (evr C es x_1 x_2) fun rs s1=>Res.bind (Cf.cf C f (R.val (T.loc (List.length s1))::rs++List.map R.val ds) (s1++[Cell.ins c (List.replicate n none)])) fun r s2=>onN r (Res.ok (R.val (T.loc (List.length s1))) s2)):=by intros;rfl
@[simp] theorem ar7:ev C (E.meth a c f es ds) x x_1 x_2=fin x (Res.bind (ev C a Md.v x_1 x_2) fun x s1=>onO (R.locI s1 c x) fun x_3=>Res.bind (evr C es x_1 s1) fun rs s2=>Cf.cf C f (x::rs++List.map R.val ds) s2):=by intros;rfl
@[simp] theorem asf:evs C [] x x_1=Res.ok [] x_1:=by intros;rfl
@[simp] theorem atY:evs C (e::es) x x_1=Res.bind (ev C e Md.v x x_1) fun x_2 s1=>onV x_2 fun t=>Res.bind (evs C es x s1) fun ts s2=>Res.ok (t::ts) s2:=by intros;rfl
@[simp] theorem att:evr C [] x x_1=Res.ok [] x_1:=by intros;rfl
@[simp] theorem asX:evr C (e::es) x x_1=Res.bind (ev C e Md.v x x_1) fun x_2 s1=>Res.bind (evr C es x s1) fun xs s2=>Res.ok (x_2::xs) s2:=by intros;rfl
@[simp] theorem aol:type_of% @aaC.eq_1:=@aaC.eq_1
@[simp] theorem asb:type_of% @ofR.eq_1:=@ofR.eq_1
@[simp] theorem atC:type_of% @ofR.eq_2:=@ofR.eq_2
@[simp] theorem arb:type_of% @look.eq_1:=@look.eq_1
@[simp] theorem aum:type_of% @put.eq_1:=@put.eq_1
section
variable{x f:Bool}{σ:Fr}{s:Sto}{i j:Int}{ts us:List T}{t a b c:T}{r:R}{l d k:Nat}{sub:Nat→Nat→Bool}{fs:List (Option T)}
@[simp] theorem awE:(R.val .non).dr s=.val .non:=rfl
@[simp] theorem axN (b:Bool):(R.val (.bl b)).dr s=.val (.bl b):=rfl
@[simp] theorem avk:(R.val (.int i)).dr s=.val (.int i):=rfl
@[simp] theorem awc:(R.val (.tup ts)).dr s=.val (.tup ts):=rfl
@[simp] theorem alh:(R.val (.lst ts)).dr s=.val (.lst ts):=rfl
@[simp] theorem avu:(R.val (.exc d)).dr s=.val (.exc d):=rfl
@[simp] theorem av3:(R.bor ts).dr s=.bor ts:=rfl
theorem acW(h:s[l]?=some (.lst ts)):(R.val (.loc l)).dr s=.bor ts:=by simp[R.dr,h]
theorem abI(h:s[l]?=some (.ins d fs)):ahd s (.val (.loc l)) d k=(fs[k]?).join:=by simp[ahd,h]
theorem agh(h:s[l]?=some (.ins d fs)):(R.val (.loc l)).locI s d=some (l,fs):=by simp[R.locI,h]
theorem ab4(h:s[l]?=some (.lst ts)):(R.val (.loc l)).locL s=some (l,ts):=by simp[R.locL,h]
@[simp] theorem aul:ael sub (.val (.exc d)) (.cls k)=some (sub d k):=rfl
@[simp] theorem anx:ael sub (.val (.int i)) .int=some true:=rfl
@[simp] theorem al7:ael sub (.val (.int i)) .bool=some false:=rfl
@[simp] theorem amV:ael sub (.val (.tup ts)) .tuple=some true:=rfl
@[simp] theorem alU:ael sub (.val (.lst ts)) .list=some true:=rfl
@[simp] theorem amv:ael sub (.bor ts) .list=some true:=rfl
@[simp] theorem anJ:aaL true f (.exc d σ s)=.exc d s:=rfl
@[simp] theorem arr:(SR.next σ s).nox=.next σ s:=rfl
@[simp] theorem aso:(SR.ret r s).nox=.ret r s:=rfl
@[simp] theorem atX (m:Res R):onN (.val .non) m=m:=rfl
@[simp] theorem ato:(R.val (.tup ts)).tup?=some ts:=rfl
@[simp] theorem apx (b:Bool):b1R .int (.val (.bl b))=some (.val (.int (if b then 1 else 0))):=rfl
@[simp] theorem anE:b1R .int (.val (.int i))=some (.val (.int i)):=rfl
@[simp] theorem amq:b1R .list (.bor ts)=some (.val (.lst ts)):=rfl
@[simp] theorem alq:b1R .tuple (.bor ts)=some (.val (.tup ts)):=rfl
@[simp] theorem alk:b1R .tuple (.val (.lst ts))=some (.val (.tup ts)):=rfl
theorem abB:∀bs:List Bool,aaG (bs.map T.bl)=some bs
 | []=>rfl
 | b::bs=>by simp[aaG,abB bs]
theorem aon(bs:List Bool):b1R .all (.val (.lst (bs.map .bl)))=some (.val (.bl (bs.all id))):=by simp[b1R,abB]
theorem aqM(bs:List Bool):b1R .any (.val (.lst (bs.map .bl)))=some (.val (.bl (bs.any id))):=by simp[b1R,abB]
theorem akd{C:Cf}{e:E}{b:Bool}{s1:Sto}(h:ev C e .t σ s=.ok (.val (.bl b)) s1):ev C (.not e) .t σ s=.ok (.val (.bl (!b))) s1:=by
 show(ev C e .t σ s).bind _=_
 rw[h]
 cases b<;>rfl
theorem aaz{C:Cf}{e it:E}{i:Nat}{α:Type}(xs:List α)(g:α→T)(f:α→T)(ha:ev C it .i σ s=.ok (.val (.lst (xs.map g))) s)
  (h:∀x∈xs,ev C e .v (put σ i (g x)) s=.ok (.val (f x)) s):ev C (.comp e (.one i) it) .v σ s=.ok (.val (.lst (xs.map f))) s:=by
 refine ahV ha ?_
 clear ha
 induction xs with
 | nil=>rfl
 | cons x xs ih=>
  have h0:=h x (by simp)
  have h1:=ih fun y hy=>h y (by simp[hy])
  rw[List.map_cons,List.map_cons]
  unfold aat
  rw[show onO (aal σ (.one i) (g x)) (fun σ'=>one (ev C e .v σ' s))=.ok (some (f x)) s by show one (ev C e .v (put σ i (g x)) s)=_;rw[h0];rfl]
  simp only[Res.bind_ok]
  rw[h1]
  rfl
end
theorem aod{C:Cf}{e:E}{f:Bi}{σ:Fr}{s s1:Sto}{r r':R}(h:ev C e .v σ s=.ok r s1)(hb:b1R f (r.dr s1)=some r'):ev C (.b1 f e) .v σ s=.ok r' s1:=by
 rw[show ev C (.b1 f e) .v σ s=(ev C e .v σ s).bind fun x s1=>.of (b1R f (x.dr s1)) s1 from rfl,h]
 simp[hb]
theorem ahJ{C:Cf}{e:E}{σ:Fr}{s s1:Sto}{α:Type}{xs:List α}{f:α→Bool}(h:ev C e .v σ s=.ok (.val (.lst (xs.map fun n=>.bl (f n)))) s1):ev C (.b1 .all e) .v σ s=.ok (.val (.bl (xs.all f))) s1:=by
 refine aod h ?_
 have hb:=aon (xs.map f)
 rw[List.map_map]at hb
 rw[alh]
 refine hb.trans ?_
 simp[List.all_map]
theorem aoI{C:Cf}{e:E}{σ:Fr}{s s1:Sto}{α:Type}{xs:List α}{f:α→Bool}(h:ev C e .v σ s=.ok (.val (.lst (xs.map fun n=>.bl (f n)))) s1):ev C (.b1 .any e) .v σ s=.ok (.val (.bl (xs.any f))) s1:=by
 refine aod h ?_
 have hb:=aqM (xs.map f)
 rw[List.map_map]at hb
 rw[alh]
 refine hb.trans ?_
 simp[List.any_map]
theorem aja{C:Cf}{e:E}{f:Bi}{σ:Fr}{s s1:Sto}{b:Bool}(h:ev C (.b1 f e) .v σ s=.ok (.val (.bl b)) s1):ev C (.b1 f e) .t σ s=.ok (.val (.bl b)) s1:=by
 have e1:ev C (.b1 f e) .t σ s=fin .t (ev C (.b1 f e) .v σ s):=rfl
 rw[e1,h]
 rfl
theorem aj1{C:Cf}{c a b:E}{σ:Fr}{s s1:Sto}(h:ev C c .t σ s=.ok (.val (.bl false)) s1):ev C (.ife c a b) .v σ s=ev C b .v σ s1:=by
 rw[show ev C (.ife c a b) .v σ s=(ev C c .t σ s).bind fun x s1=>onB x (ev C a .v σ s1) (ev C b .v σ s1)from rfl,h]
 rfl
theorem aky{C:Cf}{c a b:E}{σ:Fr}{s s1:Sto}(h:ev C c .t σ s=.ok (.val (.bl true)) s1):ev C (.ife c a b) .v σ s=ev C a .v σ s1:=by
 rw[show ev C (.ife c a b) .v σ s=(ev C c .t σ s).bind fun x s1=>onB x (ev C a .v σ s1) (ev C b .v σ s1)from rfl,h]
 rfl
@[simp] theorem awU (a b:Bool):eqD 8 (.bl a) (.bl b)=some (a==b):=by simp[eqD]
theorem atJ{a b c d:Int}{z:Int}(h0:0≤z)(h1:z<4):∃v,(v=a∨v=b∨v=c∨v=d)∧aaQ (.val (.lst [.int a,.int b,.int c,.int d])) z=some (.int v):=by
 have:z=0∨z=1∨z=2∨z=3:=by omega
 rcases this with rfl|rfl|rfl|rfl
 ·exact⟨a,by simp,rfl⟩
 ·exact⟨b,by simp,rfl⟩
 ·exact⟨c,by simp,rfl⟩
 ·exact⟨d,by simp,rfl⟩
theorem ae3{g:Tg}{body:Fr→Sto→SR}(I:Nat→Fr→Sto→Prop):∀(ts:List T) (n:Nat) (σ:Fr) (s:Sto),I n σ s→(∀(m:Nat) (t:T) (σ:Fr) (s:Sto),ts[m]?=some t→I (n+m) σ s→∃σ1 σ2 s2,aal σ g t=some σ1∧body σ1 s=.next σ2 s2∧I (n+m+1) σ2 s2)→
  ∃σ' s',abH g body ts σ s=.next σ' s'∧I (n+ts.length) σ' s'
 | [],n,σ,s,h,_=>⟨σ,s,rfl,h⟩
 | t::ts,n,σ,s,h,st=>by
  obtain⟨σ1,σ2,s2,e1,e2,e3⟩:=st 0 t σ s rfl h
  obtain⟨σ',s',e4,e5⟩:=ae3 I ts (n+1) σ2 s2 e3 fun m u σ s em hm=>by
   obtain⟨a,b,c,c1,c2,c3⟩:=st (m+1) u σ s (by simpa using em) (by rw[show n+(m+1)=n+1+m by omega];exact hm)
   exact⟨a,b,c,c1,c2,by rw[show n+1+m+1=n+(m+1)+1 by omega];exact c3⟩
  refine⟨σ',s',?_,by rw[List.length_cons,show n+(ts.length+1)=n+1+ts.length by omega];exact e5⟩
  show onS (aal σ g t) _=_
  rw[e1]
  show(body σ1 s).bind _=_
  rw[e2]
  exact e4
theorem al8{C:Cf}{e:E}{σ:Fr}{s s1:Sto}{r:R}(h:ev C e .v σ s=.ok r s1):ex C (.exp e) σ s=.next σ s1:=by
 rw[show ex C (.exp e) σ s=(ev C e .v σ s).st σ fun _ s1=>.next σ s1 from rfl,h]
 rfl
theorem ak0{C:Cf}{c:E}{a b:List S}{σ:Fr}{s s1:Sto}(h:ev C c .t σ s=.ok (.val (.bl false)) s1):ex C (.ifs c a b) σ s=exs C b σ s1:=by
 rw[ae6,h]
 rfl
theorem ajy{C:Cf}{c:E}{a b:List S}{σ:Fr}{s s1:Sto}(h:ev C c .t σ s=.ok (.val (.bl true)) s1):ex C (.ifs c a b) σ s=exs C a σ s1:=by
 rw[ae6,h]
 rfl
theorem acY{C:Cf}{σ:Fr}{s:Sto}:exs C [] σ s=.next σ s:=by simp
theorem aad{fs:List Fn}{sub:Nat→Nat→Bool}{k f:Nat}{F:Fn}{rs:List R}{s:Sto}(hF:fs[f]?=some F)(hl:rs.length=F.pars):run true fs sub aac (k+1) f rs s=aaL true F.fr (exs (cfX fs sub k) F.body (aaC F rs) s):=by
 conv=>lhs;unfold run
 rw[hF]
 exact if_pos hl
theorem aiY{C:Cf}{a:S}{r:List S}{σ σ1:Fr}{s s1:Sto}{d:Nat}(h:ex C a σ s=.exc d σ1 s1):exs C (a::r) σ s=.exc d σ1 s1:=by rw[adP,h];rfl
theorem ahM{C:Cf}{b h:List S}{c:Nat}{nm:Option Nat}{σ σ1:Fr}{s s1:Sto}(e:exs C b σ s=.next σ1 s1):ex C (.try_ b c nm h) σ s=.next σ1 s1:=by simp[e]
theorem agR{C:Cf}{b h:List S}{c d i:Nat}{σ σ1 σ2:Fr}{s s1 s2:Sto}(e:exs C b σ s=.exc d σ1 s1)(hs:C.sub d c=true)(e2:exs C h (put σ1 i (.exc d)) s1=.next σ2 s2):ex C (.try_ b c (some i) h) σ s=.next (σ2.set i none) s2:=by
 rw[show ex C (.try_ b c (some i) h) σ s=_ from amx ..]
 rw[e]
 simp only[hs,if_true]
 rw[e2]
 rfl
end IP
end
noncomputable section
namespace IP
namespace Pg
open L2
variable{k:Nat}{s:Sto}
abbrev iL(xs:List Int):List T:=xs.map .int
abbrev tI(xs:List Int):T:=.tup (iL xs)
abbrev tIs(l:List (List Int)):T:=.lst (l.map tI)
theorem ajg(i:Int):run true fns sub0 aac (k+1) axu [.val (.int i)] s=.ok (.val (.bl true)) s:=by
 rw[aad (F:=auQ) rfl rfl]
 simp[awa]
theorem axG(ns:List Int)(m:Nat):∃v,run true fns sub0 aac (k+1) awR [.val (.lst (iL ns)),.val (.int m)] s=.ok (.val (.int v)) s:=by
 rw[aad (F:=avl) rfl rfl]
 by_cases h:m<ns.length
 ·have hg:(ns.map T.int)[m]?=some (.int ns[m]):=by simp[h]
  have h1:=aaU hg
  exact⟨ns[m],by simp[atT,h,h1]⟩
 ·exact⟨0,by simp[atT,h]⟩
def aa6(v:Int):Prop:=0≤v∧v≤2147483646
theorem aap(i:Int){j:Int}(h:0<j):0≤Int.fmod i j∧Int.fmod i j<j:=by
 rw[Int.fmod_eq_emod_of_nonneg _ (by omega)]
 exact⟨Int.emod_nonneg _ (by omega),Int.emod_lt_of_pos _ h⟩
theorem afv(i:Int):aa6 (Int.fmod i 2147483647):=by
 have:=aap i (j:=2147483647) (by decide)
 unfold aa6
 omega
theorem aph(ns:List Int)(n:Nat)(hn:n≤1000):∃row:List Int,row.length=n∧(∀v∈row,aa6 v)∧run true fns sub0 aac (k+2) ax6 [.val (.lst (iL ns)),.val (.int n)] s=.ok (.val (.lst (iL row))) s:=by
 obtain⟨σ',e,st,row,c,rfl,h1,h2,h3⟩:=aaJ (g:=.one 4) (body:=fun σ s=>exs (cfX fns sub0 (k+1)) ahy σ s) (s:=s)
  (fun m σ=>∃(st:Int) (row:List Int) (c:Option B),σ=[some (.val (.lst (iL ns))),some (.val (.int n)),some (.val (.int st)),some (.own (iL row)),c]∧aa6 st∧row.length=m∧∀v∈row,aa6 v) (aai 0 n) 0 [some (.val (.lst (iL ns))),some (.val (.int n)),some (.val (.int 7)),some (.own []),none] ⟨7,[],none,rfl,⟨by decide,by decide⟩,rfl,by simp⟩ (by
   rintro m t σ hm ⟨st,row,c,rfl,h1,h2,h3⟩
   obtain⟨rfl,hlt⟩:=aav hm
   obtain⟨v,hv⟩:=axG (k:=k) (s:=s) ns m
   have hmul:=aag (i:=st) (j:=48271) (aab (by have:=h1.1;have:=h1.2;omega))
   have hmod:=aay (i:=st*48271+v+11) (j:=2147483647) (by decide)
   have hz:=afv (st*48271+v+11)
   have hlim:row.length<lim:=Nat.lt_of_lt_of_le (show row.length<1000 by omega) abr
   refine⟨[some (.val (.lst (iL ns))),some (.val (.int n)),some (.val (.int st)),some (.own (iL row)),some (.val (.int m))],[some (.val (.lst (iL ns))),some (.val (.int n)),some (.val (.int (Int.fmod (st*48271+v+11) 2147483647))),some (.own (iL (row++[Int.fmod (st*48271+v+11) 2147483647]))),some (.val (.int m))],by simp[aal],by simp[hv,hmul,hmod,abE,aas,hlim],Int.fmod (st*48271+v+11) 2147483647,row++[Int.fmod (st*48271+v+11) 2147483647],some (.val (.int m)),rfl,hz,by simp[h2],?_⟩
   intro x hx
   rcases List.mem_append.mp hx with z|z
   ·exact h3 x z
   ·rw[List.mem_singleton.mp z];exact hz)
 refine⟨row,?_,h3,?_⟩
 ·rw[h2,aa1];omega
 ·rw[aad (F:=aut) rfl rfl]
  have hx:exs (cfX fns sub0 (k+1)) auM (aaC aut [.val (.lst (iL ns)),.val (.int n)]) s=.ret (.val (.lst (iL row))) s:=by
   refine(aaa (σ1:=[some (.val (.lst (iL ns))),some (.val (.int n)),some (.val (.int 7)),none,none]) (s1:=s) (by simp)).trans ?_
   refine(aaa (σ1:=[some (.val (.lst (iL ns))),some (.val (.int n)),some (.val (.int 7)),some (.own []),none]) (s1:=s) (by simp[aba,aas])).trans ?_
   refine(aaa ((aaV (ts:=aai 0 n) (s1:=s) (abm (n:=n) (by simp) hn) (by intro _ h;cases h)).trans e)).trans ?_
   simp[frz]
  rw[hx]
  rfl
theorem abe{row:List Int}(hr:∀v∈row,aa6 v){m:Nat}(h:m<row.length):∃v,aa6 v∧aaQ (.val (.lst (iL row))) (m:Int)=some (.int v)∧row[m]?=some v:=by
 refine⟨row[m],hr _ (List.getElem_mem h),aaU (by simp[h]),by simp[h]⟩
structure Spt where
 (x y a b c d:Int)
abbrev Spt.l(p:Spt):List Int:=[p.x,p.y,p.a,p.b,p.c,p.d]
def Spt.fit(p:Spt):Prop:=(-20000≤p.x∧p.x≤20000)∧(-20000≤p.y∧p.y≤20000)∧(-200≤p.a∧p.a≤200)∧(-200≤p.b∧p.b≤200)∧(-200≤p.c∧p.c≤200)∧(-200≤p.d∧p.d≤200)
def tS(p:Spt):T:=.tup [.int p.x,.int p.y,.int p.a,.int p.b,.int p.c,.int p.d]
abbrev aaY(l:List Spt):T:=.lst (l.map tS)
def agG(b n:Int):Bool:=decide ((if n<0 then -n else n)≤b)
theorem abu(xs:List Int)(b:Int):run true fns sub0 aac (k+1) axT [.val (tI xs),.val (.int b)] s=.ok (.val (.bl (xs.all (agG b)))) s:=by
 rw[aad (F:=aqS) rfl rfl]
 have hc:ev (cfX fns sub0 k) (.comp ahH (.one 2) (.var 0)) .v (aaC aqS [.val (tI xs),.val (.int b)]) s=.ok (.val (.lst (xs.map fun n=>.bl (agG b n)))) s:=
  aaz (i:=2) xs .int (fun n=>.bl (agG b n)) (by simp) (fun n _=>by simp[agG])
 have hx:exs (cfX fns sub0 k) aw0 (aaC aqS [.val (tI xs),.val (.int b)]) s=.ret (.val (.bl (xs.all (agG b)))) s:=abw (aev (ahJ hc))
 rw[hx]
 rfl
theorem afN(l:List Spt)(h:∀p∈l,p.fit):run true fns sub0 aac (k+2) ayz [.val (aaY l)] s=.ok (.val (.bl true)) s:=by
 rw[aad (F:=arn) rfl rfl]
 have hc:ev (cfX fns sub0 (k+1)) (.comp aiO (.one 1) (.var 0)) .v (aaC arn [.val (aaY l)]) s=.ok (.val (.lst (l.map fun _=>.bl ((fun _=>true) ())))) s:=by
  refine aaz (i:=1) l tS (fun _=>.bl true) (by simp) (fun p hp=>?_)
  obtain⟨h1,h2,h3,h4,h5,h6⟩:=h p hp
  have c1:aeL (.val (tS p)) none (some 2)=some (.val (tI [p.x,p.y])):=rfl
  have c2:aeL (.val (tS p)) (some 2) none=some (.val (tI [p.a,p.b,p.c,p.d])):=rfl
  have a1:=abu (k:=k) (s:=s) [p.x,p.y] 20000
  have a2:=abu (k:=k) (s:=s) [p.a,p.b,p.c,p.d] 200
  have b1:[p.x,p.y].all (agG 20000)=true:=by simp[agG];omega
  have b2:[p.a,p.b,p.c,p.d].all (agG 200)=true:=by simp[agG];omega
  rw[b1]at a1
  rw[b2]at a2
  have hd:∀s,(R.val (tS p)).dr s=.val (tS p):=fun _=>rfl
  simp only[tI,iL,List.map_cons,List.map_nil]at *
  simp[c1,c2,a1,a2,hd]
 have hx:exs (cfX fns sub0 (k+1)) avo (aaC arn [.val (aaY l)]) s=.ret (.val (.bl (l.all fun _=>true))) s:=abw (aev (ahJ (f:=fun _=>true) hc))
 rw[hx]
 simp
theorem aei(c:List Spt)(m:List (List Spt))(h3:3≤c.length)(h24:c.length≤24)(hm:m.length=c.length)(h4:∀l∈m,l.length≤4)(hc:∀p∈c,p.fit)(hf:∀l∈m,∀p∈l,p.fit):
  run true fns sub0 aac (k+3) axn [.val (aaY c),.val (.lst (m.map aaY))] s=.ok (.val .non) s:=by
 rw[aad (F:=arQ) rfl rfl]
 have e1:ev (cfX fns sub0 (k+2)) (.comp ahY (.one 2) (.var 1)) .v [some (.val (aaY c)),some (.val (.lst (m.map aaY))),none,none] s=.ok (.val (.lst (m.map fun _=>.bl false))) s:=
  aaz (i:=2) m aaY (fun _=>.bl false) (by simp) (fun l hl=>by have:=h4 l hl;simp;omega)
 have e2:ev (cfX fns sub0 (k+2)) (.comp air (.one 3) (.bin .add (.lst [(.var 0)]) (.var 1))) .v [some (.val (aaY c)),some (.val (.lst (m.map aaY))),none,none] s=.ok (.val (.lst ((c::m).map fun _=>.bl true))) s:=by
  refine aaz (i:=3) (c::m) aaY (fun _=>.bl true) ?_ (fun l hl=>?_)
  ·have hl:1+m.length≤lim:=Nat.le_trans (show 1+m.length≤1000 by omega) abr
   simp[opR,hl]
  ·have hfit:∀p∈l,p.fit:=by
    rcases List.mem_cons.mp hl with rfl|z
    ·exact hc
    ·exact hf l z
   have:=afN (k:=k) (s:=s) l hfit
   simp[this]
 have f1:=aoI (f:=fun _=>false) e1
 have f2:=ahJ (f:=fun _=>true) e2
 have hx:exs (cfX fns sub0 (k+2)) awl (aaC arQ [.val (aaY c),.val (.lst (m.map aaY))]) s=.next [some (.val (aaY c)),some (.val (.lst (m.map aaY))),none,none] s:=by
  refine(aaa (σ1:=[some (.val (aaY c)),some (.val (.lst (m.map aaY))),none,none]) (s1:=s) (by simp[show ¬(c.length:Int)<3 by omega,show ¬(24:Int)<c.length by omega])).trans ?_
  refine(aaa (σ1:=[some (.val (aaY c)),some (.val (.lst (m.map aaY))),none,none]) (s1:=s) (by simp[hm])).trans ?_
  refine(aaa (σ1:=[some (.val (aaY c)),some (.val (.lst (m.map aaY))),none,none]) (s1:=s) ?_).trans ?_
  ·rw[ae6,aja f1]
   simp
  refine(aaa (σ1:=[some (.val (aaY c)),some (.val (.lst (m.map aaY))),none,none]) (s1:=s) ?_).trans ?_
  ·rw[ae6,akd (aja f2)]
   simp
  simp
 rw[hx]
 rfl
theorem abq{z:Int}{r:R}{ts:List T}(hr:(r.dr s).sq2=some ts)(h:0≤z∧z<ts.length):run true fns sub0 aac (k+1) awL [.val (.int z),r] s=.ok (.val .non) s:=by
 rw[aad (F:=asO) rfl rfl]
 have hb:b1R .len (r.dr s)=some (.val (.int ts.length)):=by simp[b1R,hr]
 cases r with
 | val t=>simp[an8,hb,show ¬z<0 by omega,show ¬(ts.length:Int)≤z by omega]
 | bor us=>
  simp at hr
  subst hr
  simp[an8,show ¬z<0 by omega,show ¬(us.length:Int)≤z by omega]
theorem acg{z:Int}{r:R}{ts:List T}(hr:(r.dr s).sq2=some ts)(h:z<0∨ts.length≤z):run true fns sub0 aac (k+1) awL [.val (.int z),r] s=.exc ar8 s:=by
 rw[aad (F:=asO) rfl rfl]
 have hb:b1R .len (r.dr s)=some (.val (.int ts.length)):=by simp[b1R,hr]
 by_cases h0:z<0
 ·cases r<;>simp[an8,hb,h0]
 ·cases r with
  | val t=>simp[an8,hb,h0,show(ts.length:Int)≤z by omega]
  | bor us=>
   simp at hr
   subst hr
   simp[an8,h0,show(us.length:Int)≤z by omega]
structure Sm where
 (f1 f2 g1 g2:Int)
 t:Bool
 e:Int
 ps:List (Int×Int)
def pT(p:Int×Int):T:=.tup [.int p.1,.int p.2]
def seT(x:Sm):T:=.tup [.tup [.int x.f1,.int x.f2],.tup [.int x.g1,.int x.g2],.bl x.t,.int x.e,.tup (x.ps.map pT)]
structure Bk where
 size:Int
 pc:List (List Spt)
 mrk:List (List (List Spt))
 sm:List Sm
def mkT(m:List (List Spt)):T:=.lst (m.map aaY)
structure Ad where
 (o a b c:Nat)
 ls:List Nat
abbrev Ad.fp(A:Ad):List Nat:=A.o::A.a::A.b::A.c::A.ls
structure BAt(s:Sto)(A:Ad)(B:Bk):Prop where
 ins:s[A.o]?=some (.ins 0 [some (.int B.size),some (.loc A.a),some (.loc A.b),some (.loc A.c)])
 pcs:s[A.a]?=some (.lst (A.ls.map .loc))
 mks:s[A.b]?=some (.lst (B.mrk.map mkT))
 sms:s[A.c]?=some (.lst (B.sm.map seT))
 len:A.ls.length=B.pc.length
 pc:∀(i l:Nat) (c:List Spt),A.ls[i]?=some l→B.pc[i]?=some c→s[l]?=some (.lst (c.map tS))
 nd:A.fp.Nodup
abbrev slf(A:Ad):R:=.val (.loc A.o)
def anF(fp:List Nat)(s s':Sto):Prop:=s.length≤s'.length∧∀l,l<s.length→l∉fp→s'[l]?=s[l]?
theorem anF.refl(fp:List Nat)(s:Sto):anF fp s s:=⟨Nat.le_refl _,fun _ _ _=>rfl⟩
section
variable{A:Ad}{B:Bk}(h:BAt s A B)
include h
theorem BAt.f0:ahd s (.val (.loc A.o)) 0 0=some (.int B.size):=by rw[abI h.ins];rfl
theorem BAt.f1:ahd s (.val (.loc A.o)) 0 1=some (.loc A.a):=by rw[abI h.ins];rfl
theorem BAt.f2:ahd s (.val (.loc A.o)) 0 2=some (.loc A.b):=by rw[abI h.ins];rfl
theorem BAt.f3:ahd s (.val (.loc A.o)) 0 3=some (.loc A.c):=by rw[abI h.ins];rfl
theorem BAt.li:(R.val (.loc A.o)).locI s 0=some (A.o,[some (.int B.size),some (.loc A.a),some (.loc A.b),some (.loc A.c)]):=agh h.ins
theorem BAt.l1:(R.val (.loc A.a)).locL s=some (A.a,A.ls.map .loc):=ab4 h.pcs
theorem BAt.l2:(R.val (.loc A.b)).locL s=some (A.b,B.mrk.map mkT):=ab4 h.mks
theorem BAt.l3:(R.val (.loc A.c)).locL s=some (A.c,B.sm.map seT):=ab4 h.sms
theorem BAt.d1:(R.val (.loc A.a)).dr s=.bor (A.ls.map .loc):=acW h.pcs
theorem BAt.d2:(R.val (.loc A.b)).dr s=.bor (B.mrk.map mkT):=acW h.mks
theorem BAt.d3:(R.val (.loc A.c)).dr s=.bor (B.sm.map seT):=acW h.sms
theorem BAt.lt:∀l∈A.fp,l<s.length:=by
 intro l hl
 rcases List.mem_cons.mp hl with rfl|hl
 ·exact(List.getElem?_eq_some_iff.mp h.ins).1
 rcases List.mem_cons.mp hl with rfl|hl
 ·exact(List.getElem?_eq_some_iff.mp h.pcs).1
 rcases List.mem_cons.mp hl with rfl|hl
 ·exact(List.getElem?_eq_some_iff.mp h.mks).1
 rcases List.mem_cons.mp hl with rfl|hl
 ·exact(List.getElem?_eq_some_iff.mp h.sms).1
 obtain⟨i,hi⟩:=List.getElem?_of_mem hl
 have hil:=(List.getElem?_eq_some_iff.mp hi).1
 have hc:B.pc[i]?=some (B.pc[i]'(by rw[←h.len];exact hil)):=by simp
 exact(List.getElem?_eq_some_iff.mp (h.pc i l _ hi hc)).1
theorem BAt.ne:(A.o≠A.a∧A.o≠A.b∧A.o≠A.c∧A.o∉A.ls)∧(A.a≠A.b∧A.a≠A.c∧A.a∉A.ls)∧(A.b≠A.c∧A.b∉A.ls)∧A.c∉A.ls:=by
 have:=h.nd
 simp only[Ad.fp,List.nodup_cons,List.mem_cons,not_or]at this
 obtain⟨⟨a1,a2,a3,a4⟩,⟨b1,b2,b3⟩,⟨c1,c2⟩,d1,_⟩:=this
 exact⟨⟨a1,a2,a3,a4⟩,⟨b1,b2,b3⟩,⟨c1,c2⟩,d1⟩
theorem BAt.other{s':Sto}(hs:∀l∈A.fp,s'[l]?=s[l]?):BAt s' A B where
 ins:=by rw[hs _ (by simp[Ad.fp])];exact h.ins
 pcs:=by rw[hs _ (by simp[Ad.fp])];exact h.pcs
 mks:=by rw[hs _ (by simp[Ad.fp])];exact h.mks
 sms:=by rw[hs _ (by simp[Ad.fp])];exact h.sms
 len:=h.len
 pc:=fun i l c hl hc=>by rw[hs _ (by have:=List.mem_of_getElem? hl;simp[Ad.fp,this])];exact h.pc i l c hl hc
 nd:=h.nd
end
theorem aau{s:Sto}{i j:Nat}{c:Cell}(h:i≠j):(s.set i c)[j]?=s[j]?:=List.getElem?_set_ne h
theorem aeq{s:Sto}{i:Nat}{c:Cell}(h:i<s.length):(s.set i c)[i]?=some c:=List.getElem?_set_self h
theorem aqs(s:Sto):run true fns sub0 aac (k+1) iz3 [.val (.loc s.length)] (s++[.ins 0 [none,none,none,none]])=.ok (.val .non) (s++[.ins 0 [some (.int 0),some (.loc (s.length+1)),some (.loc (s.length+2)),some (.loc (s.length+3))],.lst [],.lst [],.lst []]):=by
 rw[aad (F:=Fz3) rfl rfl]
 have q:∀(fs:List (Option T)) (r:Sto),(R.val (.loc s.length)).locI (s++.ins 0 fs::r) 0=some (s.length,fs):=fun fs r=>agh (by simp)
 have e:∀(c d:Cell) (r:Sto),(s++c::r).set s.length d=s++d::r:=fun c d r=>by simp
 simp[bz3,q,e]
theorem anR{σ:Fr}(s:Sto):∃(s':Sto) (A:Ad),ev (cfX fns sub0 (k+1)) (.new 0 iz3 4 [] []) .v σ s=.ok (slf A) s'∧BAt s' A ⟨0,[],[],[]⟩∧anF [] s s'∧A.ls=[]∧∀l∈A.fp,s.length≤l:=by
 have e0:∀n,(s++[Cell.ins 0 [some (T.int 0),some (.loc (s.length+1)),some (.loc (s.length+2)),some (.loc (s.length+3))],.lst [],.lst [],.lst []])[s.length+n]?=([Cell.ins 0 [some (T.int 0),some (.loc (s.length+1)),some (.loc (s.length+2)),some (.loc (s.length+3))],.lst [],.lst [],.lst []]:List Cell)[n]?:=fun n=>by
  rw[List.getElem?_append_right (by omega),Nat.add_sub_cancel_left]
 refine⟨s++[.ins 0 [some (.int 0),some (.loc (s.length+1)),some (.loc (s.length+2)),some (.loc (s.length+3))],.lst [],.lst [],.lst []],⟨s.length,s.length+1,s.length+2,s.length+3,[]⟩,?_,⟨e0 0,e0 1,e0 2,e0 3,rfl,fun i l c h=>by simp at h,?_⟩,⟨by simp,?_⟩,rfl,?_⟩
 ·have h:=aqs (k:=k) s
  simp[h]
 ·simp[Ad.fp]
 ·intro l hl _
  rw[List.getElem?_append_left hl]
 ·intro l hl
  simp[Ad.fp]at hl
  omega
theorem af8{A:Ad}{B:Bk}(h:BAt s A B)(c:List Spt)(m:List (List Spt)){t:T}(ht:t=mkT m∨(t=.non∧m=c.map fun _=>[]))(hB:B.pc.length<10)(h3:3≤c.length)(h24:c.length≤24)(hm:m.length=c.length)(h4:∀l∈m,l.length≤4)(hc:∀p∈c,p.fit)(hf:∀l∈m,∀p∈l,p.fit)(hk:B.mrk.length≤10):
  ∃s',run true fns sub0 aac (k+4) iz4 [slf A,.val (aaY c),.val t] s=.ok (.val (.int B.pc.length)) s'∧BAt s' ⟨A.o,A.a,A.b,A.c,A.ls++[s.length]⟩ ⟨B.size,B.pc++[c],B.mrk++[m],B.sm⟩∧anF A.fp s s'∧s'.length=s.length+1:=by
 have hcp:=aei (k:=k) (s:=s) c m h3 h24 hm h4 hc hf
 have hcomp:ev (cfX fns sub0 (k+3)) (.ife (.cmp .isN (.var 2) (.cst .non)) (.comp al5 (.one 4) (.var 1)) (.comp alg (.one 5) (.var 2))) .v [some (.val (.loc A.o)),some (.val (aaY c)),some (.val t),none,none,none] s=.ok (.val (mkT m)) s:=by
  rcases ht with rfl|⟨rfl,rfl⟩
  ·have:ev (cfX fns sub0 (k+3)) (.cmp .isN (.var 2) (.cst .non)) .t [some (.val (.loc A.o)),some (.val (aaY c)),some (.val (mkT m)),none,none,none] s=.ok (.val (.bl false)) s:=by simp[mkT,R.isNon]
   rw[aj1 this]
   exact aaz (i:=5) m aaY aaY (by simp[mkT]) (fun l hl=>by simp)
  ·have:ev (cfX fns sub0 (k+3)) (.cmp .isN (.var 2) (.cst .non)) .t [some (.val (.loc A.o)),some (.val (aaY c)),some (.val .non),none,none,none] s=.ok (.val (.bl true)) s:=by simp[R.isNon]
   rw[aky this,aaz (i:=4) c tS (fun _=>.lst []) (by simp) (fun l hl=>by simp)]
   simp[mkT]
 have hl1:A.ls.length<lim:=Nat.lt_of_lt_of_le (show A.ls.length<1000 by have:=h.len;omega) abr
 have hl2:B.mrk.length<lim:=Nat.lt_of_lt_of_le (show B.mrk.length<1000 by omega) abr
 have lt:=h.lt
 obtain⟨⟨n1,n2,n3,n4⟩,⟨n5,n6,n7⟩,⟨n8,n9⟩,n10⟩:=h.ne
 have ltA:=lt A.a (by simp[Ad.fp])
 have ltB:=lt A.b (by simp[Ad.fp])
 have ltC:=lt A.c (by simp[Ad.fp])
 have ltO:=lt A.o (by simp[Ad.fp])
 have app:∀l,l<s.length→(s++[Cell.lst (c.map tS)])[l]?=s[l]?:=fun l hl=>List.getElem?_append_left hl
 refine⟨((s++[Cell.lst (c.map tS)]).set A.a (Cell.lst (A.ls.map T.loc++[T.loc s.length]))).set A.b (Cell.lst (B.mrk.map mkT++[mkT m])),?_,⟨?_,?_,?_,?_,by simp[h.len],fun i l c' hl hc'=>?_,?_⟩,⟨by simp,fun l hl hn=>?_⟩,by simp⟩
 ·rw[aad (F:=Fz4) rfl rfl]
  have hx:exs (cfX fns sub0 (k+3)) bz4 (aaC Fz4 [slf A,.val (aaY c),.val t]) s=.ret (.val (.int B.pc.length)) (((s++[Cell.lst (c.map tS)]).set A.a (Cell.lst (A.ls.map T.loc++[T.loc s.length]))).set A.b (Cell.lst (B.mrk.map mkT++[mkT m]))):=by
   refine(aaa (σ1:=[some (.val (.loc A.o)),some (.val (aaY c)),some (.val t),none,none,none]) (s1:=s) (by simp[h.f1,h.d1,h.len,show ¬(10:Int)≤B.pc.length by omega])).trans ?_
   refine(aaa (σ1:=[some (.val (.loc A.o)),some (.val (aaY c)),some (.val t),some (.val (mkT m)),none,none]) (s1:=s) (act hcomp)).trans ?_
   refine(aaa (σ1:=[some (.val (.loc A.o)),some (.val (aaY c)),some (.val t),some (.val (mkT m)),none,none]) (s1:=s) (by simp[mkT]at *;simp[hcp])).trans ?_
   have a1:(R.val (.loc A.a)).locL (s++[Cell.lst (c.map tS)])=some (A.a,A.ls.map .loc):=ab4 (by rw[app _ ltA];exact h.pcs)
   refine(aaa (σ1:=[some (.val (.loc A.o)),some (.val (aaY c)),some (.val t),some (.val (mkT m)),none,none]) (s1:=(s++[Cell.lst (c.map tS)]).set A.a (Cell.lst (A.ls.map T.loc++[T.loc s.length]))) (by simp[h.f1,h.l1,a1,hl1])).trans ?_
   have b0:ahd ((s++[Cell.lst (c.map tS)]).set A.a (Cell.lst (A.ls.map T.loc++[T.loc s.length]))) (.val (.loc A.o)) 0 2=some (.loc A.b):=by
    rw[abI (by rw[aau (Ne.symm n1),app _ ltO];exact h.ins)];rfl
   have b1:(R.val (.loc A.b)).locL ((s++[Cell.lst (c.map tS)]).set A.a (Cell.lst (A.ls.map T.loc++[T.loc s.length])))=some (A.b,B.mrk.map mkT):=ab4 (by rw[aau n5,app _ ltB];exact h.mks)
   refine(aaa (σ1:=[some (.val (.loc A.o)),some (.val (aaY c)),some (.val t),some (.val (mkT m)),none,none]) (s1:=((s++[Cell.lst (c.map tS)]).set A.a (Cell.lst (A.ls.map T.loc++[T.loc s.length]))).set A.b (Cell.lst (B.mrk.map mkT++[mkT m]))) (by simp[b0,b1,hl2])).trans ?_
   have c0:ahd (((s++[Cell.lst (c.map tS)]).set A.a (Cell.lst (A.ls.map T.loc++[T.loc s.length]))).set A.b (Cell.lst (B.mrk.map mkT++[mkT m]))) (.val (.loc A.o)) 0 1=some (.loc A.a):=by
    rw[abI (by rw[aau (Ne.symm n2),aau (Ne.symm n1),app _ ltO];exact h.ins)];rfl
   have c1:(R.val (.loc A.a)).dr (((s++[Cell.lst (c.map tS)]).set A.a (Cell.lst (A.ls.map T.loc++[T.loc s.length]))).set A.b (Cell.lst (B.mrk.map mkT++[mkT m])))=.bor (A.ls.map .loc++[.loc s.length]):=acW (by rw[aau (Ne.symm n5),aeq (by simp;omega)])
   simp[c0,c1,h.len]
  rw[hx]
  rfl
 ·show _=_
  rw[aau (Ne.symm n2),aau (Ne.symm n1),app _ ltO];exact h.ins
 ·show _=_
  rw[aau (Ne.symm n5),aeq (by simp;omega)];simp
 ·show _=_
  rw[aeq (by simp;omega)];simp
 ·show _=_
  rw[aau n8,aau n6,app _ ltC];exact h.sms
 ·have hl:(A.ls++[s.length])[i]?=some l:=hl
  have hc':(B.pc++[c])[i]?=some c':=hc'
  by_cases hi:i<A.ls.length
  ·rw[List.getElem?_append_left hi]at hl
   rw[List.getElem?_append_left (by rw[←h.len];exact hi)]at hc'
   have hm':=List.mem_of_getElem? hl
   rw[aau (fun e=>n9 (by rw[e];exact hm')),aau (fun e=>n7 (by rw[e];exact hm')),app _ (lt l (by simp[Ad.fp,hm']))]
   exact h.pc i l c' hl hc'
  ·have hi2:=(List.getElem?_eq_some_iff.mp hl).1
   have:i=A.ls.length:=by simp at hi2;omega
   subst this
   simp at hl
   subst hl
   rw[h.len]at hc'
   simp at hc'
   subst hc'
   rw[aau (by omega),aau (by omega)]
   simp
 ·have nd:=h.nd
  have hn:s.length∉A.fp:=fun q=>Nat.lt_irrefl _ (lt _ q)
  show(A.o::A.a::A.b::A.c::(A.ls++[s.length])).Nodup
  rw[show A.o::A.a::A.b::A.c::(A.ls++[s.length])=A.fp++[s.length]from rfl]
  rw[List.nodup_append]
  exact⟨nd,by simp,fun a ha b hb=>by simp at hb;subst hb;exact fun e=>hn (e▸ha)⟩
 ·simp only[Ad.fp,List.mem_cons,not_or]at hn
  rw[aau (Ne.symm hn.2.2.1),aau (Ne.symm hn.2.1),app _ hl]
theorem BAt.pAt{A:Ad}{B:Bk}(h:BAt s A B){i:Nat}{c:List Spt}(hc:B.pc[i]?=some c):∃l,A.ls[i]?=some l∧s[l]?=some (.lst (c.map tS)):=by
 have hi:i<A.ls.length:=by rw[h.len];exact(List.getElem?_eq_some_iff.mp hc).1
 have e:A.ls[i]?=some A.ls[i]:=by simp[hi]
 exact⟨_,e,h.pc i _ c e hc⟩
theorem adp{A:Ad}{B:Bk}(h:BAt s A B){i:Nat}{c:List Spt}(hc:B.pc[i]?=some c):run true fns sub0 aac (k+2) auV [slf A,.val (.int i)] s=.ok (.val (aaY c)) s:=by
 rw[aad (F:=at1) rfl rfl]
 obtain⟨l,el,es⟩:=h.pAt hc
 have hi:i<A.ls.length:=(List.getElem?_eq_some_iff.mp el).1
 have hct:=abq (k:=k) (s:=s) (r:=.val (.loc A.a)) (ts:=A.ls.map .loc) (z:=i) (by rw[h.d1];rfl) ⟨by omega,by simp[hi]⟩
 have hg:=acU (ts:=A.ls.map T.loc) (n:=i) (t:=.loc l) (by simp[el])
 have hd:=acW es
 simp[at6,h.f1,h.d1,hct,hg,hd]
theorem afo{A:Ad}{B:Bk}(h:BAt s A B){z:Int}(hz:z<0∨B.pc.length≤z):run true fns sub0 aac (k+2) auV [slf A,.val (.int z)] s=.exc ar8 s:=by
 rw[aad (F:=at1) rfl rfl]
 have hct:=acg (k:=k) (s:=s) (r:=.val (.loc A.a)) (ts:=A.ls.map .loc) (z:=z) (by rw[h.d1];rfl) (by simp[h.len];exact hz)
 simp[at6,h.f1,hct]
def plc(p:Spt)(z:Int):List Int:=if z<0 then [p.x+-z*p.c,p.y+-z*p.d]else [p.x+z*p.a,p.y+z*p.b]
theorem abv{z:Int}(h:-6≤z∧z≤6):run true fns sub0 aac (k+1) avb [.val (.int z)] s=.ok (.val .non) s:=by
 rw[aad (F:=asz) rfl rfl]
 simp[arc,show ¬z < -6 by omega,show ¬6<z by omega]
theorem acz{z:Int}(h:z < -6∨6<z):run true fns sub0 aac (k+1) avb [.val (.int z)] s=.exc xz2 s:=by
 rw[aad (F:=asz) rfl rfl]
 by_cases h1:z < -6
 ·simp[arc,h1]
 ·simp[arc,h1,show 6<z by omega]
theorem aqv{p:Spt}{a u t:Int}(ht:0≤t∧t≤6):run true fns sub0 aac (k+1) axr [.val (tS p),.val (.int a),.val (.int u),.val (.int t)] s=.ok (.val (tI [p.x+t*a,p.y+t*u])) s:=by
 rw[aad (F:=aw2) rfl rfl]
 have m1:=aag (i:=t) (j:=a) (aab (by omega))
 have m2:=aag (i:=t) (j:=u) (aab (by omega))
 have h0:aaQ (.val (tS p)) 0=some (.int p.x):=rfl
 have h1:aaQ (.val (tS p)) 1=some (.int p.y):=rfl
 simp[ava,tS,m1,m2]
 simp[tS]at h0 h1
 simp[h0,h1]
theorem amF(p:Spt){z:Int}(h:-6≤z∧z≤6):run true fns sub0 aac (k+2) axR [.val (tS p),.val (.int z)] s=.ok (.val (tI (plc p z))) s:=by
 rw[aad (F:=awf) rfl rfl]
 have hc:=abv (k:=k) (s:=s) h
 have h2:aaQ (.val (tS p)) 2=some (.int p.a):=rfl
 have h3:aaQ (.val (tS p)) 3=some (.int p.b):=rfl
 have h4:aaQ (.val (tS p)) 4=some (.int p.c):=rfl
 have h5:aaQ (.val (tS p)) 5=some (.int p.d):=rfl
 by_cases hz:z<0
 ·have hm:=aqv (k:=k) (s:=s) (p:=p) (a:=p.c) (u:=p.d) (t:=-z) (by omega)
  simp only[tS]at *
  simp[ar2,hc,hz,h4,h5,hm,plc]
 ·have hm:=aqv (k:=k) (s:=s) (p:=p) (a:=p.a) (u:=p.b) (t:=z) (by omega)
  simp only[tS]at *
  simp[ar2,hc,hz,h2,h3,hm,plc]
theorem adl{C:Cf}{body:List S}{a b:Int}{p:Spt}{z0 x y:Int}{c:Option B}(n:Nat)
  (hb:∀(x y:Int) (m:Nat),exs C body [some (.val (tS p)),some (.val (.int z0)),some (.val (.int x)),some (.val (.int y)),some (.val (.int m))] s=.next [some (.val (tS p)),some (.val (.int z0)),some (.val (.int (x+a))),some (.val (.int (y+b))),some (.val (.int m))] s):
  ∃c',abH (.one 4) (fun σ s=>exs C body σ s) (aai 0 n) [some (.val (tS p)),some (.val (.int z0)),some (.val (.int x)),some (.val (.int y)),c] s=.next [some (.val (tS p)),some (.val (.int z0)),some (.val (.int (x+n*a))),some (.val (.int (y+n*b))),c'] s:=by
 obtain⟨σ',e,c',rfl⟩:=aaJ (g:=.one 4) (body:=fun σ s=>exs C body σ s) (s:=s) (fun m σ=>∃c',σ=[some (.val (tS p)),some (.val (.int z0)),some (.val (.int (x+m*a))),some (.val (.int (y+m*b))),c']) (aai 0 n) 0
  [some (.val (tS p)),some (.val (.int z0)),some (.val (.int x)),some (.val (.int y)),c] ⟨c,by simp⟩ (by
   rintro m t σ hm ⟨c,rfl⟩
   obtain⟨rfl,hlt⟩:=aav hm
   refine⟨_,_,rfl,?_,some (.val (.int m)),rfl⟩
   show exs C body [some (.val (tS p)),some (.val (.int z0)),some (.val (.int (x+((0+m:Nat):Int)*a))),some (.val (.int (y+((0+m:Nat):Int)*b))),some (.val (.int (0+m)))] s=_
   rw[Int.zero_add,hb]
   have e1:x+((0+m:Nat):Int)*a+a=x+((0+m+1:Nat):Int)*a:=by
    rw[show((0+m+1:Nat):Int)=((0+m:Nat):Int)+1 by omega,Int.add_mul];omega
   have e2:y+((0+m:Nat):Int)*b+b=y+((0+m+1:Nat):Int)*b:=by
    rw[show((0+m+1:Nat):Int)=((0+m:Nat):Int)+1 by omega,Int.add_mul];omega
   rw[e1,e2])
 rw[aa1]at e
 simp at e
 exact⟨c',e⟩
theorem adr{z:Int}(h:z≤0):aai 0 z=[]:=by unfold aai;simp[show z.toNat=0 by omega]
theorem aqW{z:Int}(h:-6≤z∧z≤6):bnd z=true:=by unfold bnd;simp;omega
theorem aro{z:Int}(h:z≤6):decide (z≤(lim:Int))=true:=decide_eq_true (Int.le_trans h (by decide))
theorem afc(p:Spt){z:Int}(h:-6≤z∧z≤6):run true fns sub0 aac (k+1) axU [.val (tS p),.val (.int z)] s=.ok (.val (tI (plc p z))) s:=by
 rw[aad (F:=auf) rfl rfl]
 have h0:aaQ (.val (tS p)) 0=some (.int p.x):=rfl
 have h1:aaQ (.val (tS p)) 1=some (.int p.y):=rfl
 have h2:aaQ (.val (tS p)) 2=some (.int p.a):=rfl
 have h3:aaQ (.val (tS p)) 3=some (.int p.b):=rfl
 have h4:aaQ (.val (tS p)) 4=some (.int p.c):=rfl
 have h5:aaQ (.val (tS p)) 5=some (.int p.d):=rfl
 have hd:∀s,(R.val (tS p)).dr s=.val (tS p):=fun _=>rfl
 have hx:exs (cfX fns sub0 k) avA (aaC auf [.val (tS p),.val (.int z)]) s=.ret (.val (tI (plc p z))) s:=by
  refine(aaa (σ1:=[some (.val (tS p)),some (.val (.int z)),some (.val (.int p.x)),none,none]) (s1:=s) (by simp[h0,hd])).trans ?_
  refine(aaa (σ1:=[some (.val (tS p)),some (.val (.int z)),some (.val (.int p.x)),some (.val (.int p.y)),none]) (s1:=s) (by simp[h1,hd])).trans ?_
  by_cases hz:z<0
  ·refine(aaa (σ1:=[some (.val (tS p)),some (.val (.int z)),some (.val (.int p.x)),some (.val (.int p.y)),none]) (s1:=s) ((aaV (ts:=aai 0 z) (s1:=s) ((abK (j:=z) (s1:=s) (by simp)).trans (af7 (ae5 (aqW h) (aro h.2)))) (by intro _ h;cases h)).trans (by rw[adr (by omega)];rfl))).trans ?_
   obtain⟨c',e⟩:=adl (C:=cfX fns sub0 k) (s:=s) (body:=aiW) (a:=p.c) (b:=p.d) (p:=p) (z0:=z) (x:=p.x) (y:=p.y) (c:=none) (-z).toNat (fun x y m=>by simp[h4,h5,hd])
   rw[show(((-z).toNat:Nat):Int)=-z by omega]at e
   refine(aaa ((aaV (ts:=aai 0 (-z)) (s1:=s) ((abK (j:=-z) (s1:=s) (by simp)).trans (af7 (ae5 (aqW (by omega)) (aro (by omega))))) (by intro _ h;cases h)).trans e)).trans ?_
   simp[plc,hz]
  ·obtain⟨c',e⟩:=adl (C:=cfX fns sub0 k) (s:=s) (body:=ahI) (a:=p.a) (b:=p.b) (p:=p) (z0:=z) (x:=p.x) (y:=p.y) (c:=none) z.toNat (fun x y m=>by simp[h2,h3,hd])
   rw[show((z.toNat:Nat):Int)=z by omega]at e
   refine(aaa ((aaV (ts:=aai 0 z) (s1:=s) ((abK (j:=z) (s1:=s) (by simp)).trans (af7 (ae5 (aqW h) (aro h.2)))) (by intro _ h;cases h)).trans e)).trans ?_
   refine(aaa (σ1:=[some (.val (tS p)),some (.val (.int z)),some (.val (.int (p.x+z*p.a))),some (.val (.int (p.y+z*p.b))),c']) (s1:=s) ((aaV (ts:=aai 0 (-z)) (s1:=s) ((abK (j:=-z) (s1:=s) (by simp)).trans (af7 (ae5 (aqW (by omega)) (aro (by omega))))) (by intro _ h;cases h)).trans (by rw[adr (by omega)];rfl))).trans ?_
   simp[plc,hz]
 rw[hx]
 rfl
abbrev anc(l:List Spt)(z:Int):List (List Int):=l.map fun p=>plc p z
def pX(p:Spt)(z:Int):Int:=if z<0 then p.x+-z*p.c else p.x+z*p.a
def pY(p:Spt)(z:Int):Int:=if z<0 then p.y+-z*p.d else p.y+z*p.b
theorem aoY(p:Spt)(z:Int):plc p z=[pX p z,pY p z]:=by
 unfold plc pX pY
 split<;>rfl
theorem six{z a:Int}(hz:-6≤z∧z≤6)(ha:-200≤a∧a≤200):-1200≤z*a∧z*a≤1200:=by
 have:z=-6∨z=-5∨z=-4∨z=-3∨z=-2∨z=-1∨z=0∨z=1∨z=2∨z=3∨z=4∨z=5∨z=6:=by omega
 rcases this with rfl|rfl|rfl|rfl|rfl|rfl|rfl|rfl|rfl|rfl|rfl|rfl|rfl<;>omega
theorem arS{p:Spt}{z:Int}(hp:p.fit)(hz:-6≤z∧z≤6):-21200≤pX p z∧pX p z≤21200:=by
 obtain⟨h1,h2,h3,h4,h5,h6⟩:=hp
 unfold pX
 split
 ·have:=six (z:=-z) (by omega) h5;omega
 ·have:=six hz h3;omega
theorem arW{p:Spt}{z:Int}(hp:p.fit)(hz:-6≤z∧z≤6):-21200≤pY p z∧pY p z≤21200:=by
 obtain⟨h1,h2,h3,h4,h5,h6⟩:=hp
 unfold pY
 split
 ·have:=six (z:=-z) (by omega) h6;omega
 ·have:=six hz h4;omega
def sq2(p q:Spt)(z:Int):Int:=(pX q z-pX p z)*(pX q z-pX p z)+(pY q z-pY p z)*(pY q z-pY p z)
def meant(B:Bk):T→Option Int
 | .non=>some B.size
 | .int z=>some z
 | _=>none
theorem akr{A:Ad}{B:Bk}(hb:BAt s A B)(l:List Spt){v t:T}{z:Int}(hv:v=.lst (l.map tS)∨v=.tup (l.map tS))(ht:meant B t=some z)(hz:-6≤z∧z≤6):run true fns sub0 aac (k+3) avj [slf A,.val v,.val t] s=.ok (.val (tIs (anc l z))) s:=by
 rw[aad (F:=ar1) rfl rfl]
 have hc:=abv (k:=k+1) (s:=s) hz
 have hcomp:ev (cfX fns sub0 (k+2)) (.comp aiM (.one 4) (.var 1)) .v [some (.val (.loc A.o)),some (.val v),some (.val t),some (.val (.int z)),none] s=.ok (.val (.lst (l.map fun p=>tI (plc p z)))) s:=
  aaz (i:=4) l tS (fun p=>tI (plc p z)) (by rcases hv with rfl|rfl<;>simp) (fun p hp=>by have:=amF (k:=k) (s:=s) p hz;simp[this])
 have hx:exs (cfX fns sub0 (k+2)) ari (aaC ar1 [slf A,.val v,.val t]) s=.ret (.val (tIs (anc l z))) s:=by
  refine(aaa (σ1:=[some (.val (.loc A.o)),some (.val v),some (.val t),some (.val (.int z)),none]) (s1:=s) ?_).trans ?_
  ·unfold meant at ht
   split at ht
   ·cases ht;simp[R.isNon,hb.f0]
   ·cases ht;simp[R.isNon]
   ·cases ht
  refine(aaa (σ1:=[some (.val (.loc A.o)),some (.val v),some (.val t),some (.val (.int z)),none]) (s1:=s) (by simp[hc])).trans ?_
  refine abw (aev (hcomp.trans ?_))
  simp[Function.comp_def]
 rw[hx]
 rfl
theorem aeV{A:Ad}{B:Bk}(hb:BAt s A B){v t:T}{z:Int}(ht:meant B t=some z)(hz:z < -6∨6<z):run true fns sub0 aac (k+3) avj [slf A,.val v,.val t] s=.exc xz2 s:=by
 rw[aad (F:=ar1) rfl rfl]
 have hc:=acz (k:=k+1) (s:=s) hz
 unfold meant at ht
 split at ht
 ·cases ht;simp[ari,R.isNon,hb.f0,hc]
 ·cases ht;simp[ari,R.isNon,hc]
 ·cases ht
theorem aeK{A:Ad}{B:Bk}(hb:BAt s A B){i:Nat}{c:List Spt}(h:B.pc[i]?=some c){t:T}{z:Int}(ht:meant B t=some z)(hz:-6≤z∧z≤6):run true fns sub0 aac (k+4) iz6 [slf A,.val (.int i),.val t] s=.ok (.val (tIs (anc c z))) s:=by
 rw[aad (F:=Fz6) rfl rfl]
 have h1:=adp (k:=k+1) hb h
 have h2:=akr (k:=k) hb c (.inl rfl) ht hz
 simp[bz6,hb.li,h1,h2]
def arG(a b c d:Int):Bool:=[a,b,c,d].all (agG 200)
theorem BAt.setP{A:Ad}{B:Bk}(h:BAt s A B){i l:Nat}{c:List Spt}(hl:A.ls[i]?=some l):BAt (s.set l (.lst (c.map tS))) A ⟨B.size,B.pc.set i c,B.mrk,B.sm⟩:=by
 have hm:=List.mem_of_getElem? hl
 obtain⟨⟨_,_,_,n4⟩,⟨_,_,n7⟩,⟨_,n9⟩,n10⟩:=h.ne
 have hlt:=h.lt l (by simp[Ad.fp,hm])
 have hne:∀x,x∉A.ls→l≠x:=fun x hx e=>hx (e▸hm)
 refine⟨?_,?_,?_,?_,by simp[h.len],fun i' l' c' hl' hc'=>?_,h.nd⟩
 ·rw[aau (hne _ n4)];exact h.ins
 ·rw[aau (hne _ n7)];exact h.pcs
 ·rw[aau (hne _ n9)];exact h.mks
 ·rw[aau (hne _ n10)];exact h.sms
 ·have hc':(B.pc.set i c)[i']?=some c':=hc'
  by_cases hi:i=i'
  ·subst hi
   rw[hl]at hl'
   cases hl'
   have hil:i<B.pc.length:=by rw[←h.len];exact(List.getElem?_eq_some_iff.mp hl).1
   rw[List.getElem?_set_self hil]at hc'
   cases hc'
   rw[aeq hlt]
  ·rw[List.getElem?_set_ne hi]at hc'
   have nd:=h.nd
   have ndl:A.ls.Nodup:=by
    simp only[Ad.fp,List.nodup_cons]at nd
    exact nd.2.2.2.2
   have hll:l≠l':=fun e=>by
    subst e
    obtain⟨a1,a2⟩:=List.getElem?_eq_some_iff.mp hl
    obtain⟨b1,b2⟩:=List.getElem?_eq_some_iff.mp hl'
    exact hi ((List.getElem_inj ndl).mp (a2.trans b2.symm))
   rw[aau hll]
   exact h.pc i' l' c' hl' hc'
section
variable{A:Ad}{B:Bk}(h:BAt s A B){a b c d:Int}
include h
theorem ahp{i j:Nat}{cs:List Spt}{p:Spt}(hc:B.pc[i]?=some cs)(hj:cs[j]?=some p)(hw:arG a b c d=true):
  ∃s',run true fns sub0 aac (k+2) aym [slf A,.val (.int i),.val (.int j),.val (.tup [.int a,.int b]),.val (.tup [.int c,.int d])] s=.ok (.val .non) s'∧BAt s' A ⟨B.size,B.pc.set i (cs.set j ⟨p.x,p.y,a,b,c,d⟩),B.mrk,B.sm⟩∧anF A.fp s s'∧s'.length=s.length:=by
 obtain⟨l,el,es⟩:=h.pAt hc
 have hi:i<A.ls.length:=(List.getElem?_eq_some_iff.mp el).1
 have hjl:j<cs.length:=(List.getElem?_eq_some_iff.mp hj).1
 have hm:=List.mem_of_getElem? el
 refine⟨s.set l (.lst ((cs.set j ⟨p.x,p.y,a,b,c,d⟩).map tS)),?_,h.setP el,⟨by simp,fun x _ hn=>?_⟩,by simp⟩
 ·rw[aad (F:=avE) rfl rfl]
  have hct:=abq (k:=k) (s:=s) (r:=.val (.loc A.a)) (ts:=A.ls.map .loc) (z:=i) (by rw[h.d1];rfl) ⟨by omega,by simp[hi]⟩
  have hg:=acU (ts:=A.ls.map T.loc) (n:=i) (t:=.loc l) (by simp[el])
  have hc2:=abq (k:=k) (s:=s) (r:=.val (.loc l)) (ts:=cs.map tS) (z:=j) (by rw[acW es];rfl) ⟨by omega,by simp[hjl]⟩
  have a1:=abu (k:=k) (s:=s) [a,b,c,d] 200
  rw[show([a,b,c,d].all (agG 200))=arG a b c d from rfl,hw]at a1
  simp only[tI,iL,List.map_cons,List.map_nil]at a1
  have hd:=acW es
  have hL:=ab4 es
  have hg2:=acU (ts:=cs.map tS) (n:=j) (t:=tS p) (by simp[hj])
  have hcut:aeL (.val (tS p)) none (some 2)=some (.val (.tup [.int p.x,.int p.y])):=rfl
  have hdr:(R.val (tS p)).dr s=.val (tS p):=rfl
  have hadd:opR .add (.val (.tup [.int p.x,.int p.y])) (.val (.tup [.int a,.int b,.int c,.int d]))=some (.val (tS ⟨p.x,p.y,a,b,c,d⟩)):=by
   simp[opR,tS]
   decide
  have hix:L2.ixN (cs.map tS).length (j:Int)=some j:=by simp[L2.ixN,hjl]
  simp[avO,h.f1,h.d1,hct,hg,hc2,a1,hd,hL,hg2,hdr,hcut,hadd]
  simp at hix
  simp[hix,List.map_set]
 ·rw[aau (fun e=>hn (by simp[Ad.fp,←e,hm]))]
end
section
variable{A:Ad}{B:Bk}(hb:BAt s A B)
include hb
theorem agi{st ch:Int}(h0:0≤st)(h:-6≤B.size+ch∧B.size+ch≤6):∃s',run true fns sub0 aac (k+2) iz5 [slf A,.val (.int st),.val (.int ch)] s=.ok (.val (.int (B.size+ch))) s'∧BAt s' A ⟨B.size+ch,B.pc,B.mrk,B.sm⟩∧anF A.fp s s'∧s'.length=s.length:=by
 have hc:=abv (k:=k) (s:=s) h
 have ltO:=hb.lt A.o (by simp[Ad.fp])
 obtain⟨⟨n1,n2,n3,n4⟩,_⟩:=hb.ne
 have es:(s.set A.o (.ins 0 [some (.int (B.size+ch)),some (.loc A.a),some (.loc A.b),some (.loc A.c)]))[A.o]?=some (.ins 0 [some (.int (B.size+ch)),some (.loc A.a),some (.loc A.b),some (.loc A.c)]):=aeq ltO
 refine⟨s.set A.o (.ins 0 [some (.int (B.size+ch)),some (.loc A.a),some (.loc A.b),some (.loc A.c)]),?_,⟨es,?_,?_,?_,hb.len,fun i l c hl hc=>?_,hb.nd⟩,⟨by simp,fun l _ hn=>?_⟩,by simp⟩
 ·rw[aad (F:=Fz5) rfl rfl]
  have f0:ahd (s.set A.o (.ins 0 [some (.int (B.size+ch)),some (.loc A.a),some (.loc A.b),some (.loc A.c)])) (.val (.loc A.o)) 0 0=some (.int (B.size+ch)):=by rw[abI es];rfl
  simp[bz5,show ¬st<0 by omega,hb.f0,hb.li,hc,f0]
 ·rw[aau n1];exact hb.pcs
 ·rw[aau n2];exact hb.mks
 ·rw[aau n3];exact hb.sms
 ·have hm:=List.mem_of_getElem? hl
  have hne:A.o≠l:=fun e=>n4 (by rw[e];exact hm)
  rw[aau hne];exact hb.pc i l c hl hc
 ·simp only[Ad.fp,List.mem_cons,not_or]at hn
  rw[aau (Ne.symm hn.1)]
theorem ajc{st:Int}:run true fns sub0 aac (k+3) iz7 [slf A,.val (.int st)] s=run true fns sub0 aac (k+2) iz5 [slf A,.val (.int st),.val (.int st)] s:=by
 rw[aad (F:=Fz7) rfl rfl]
 simp[bz7,hb.li]
 cases run true fns sub0 aac (k+2) iz5 [slf A,.val (.int st),.val (.int st)] s<;>rfl
theorem ahz{st:Int}:run true fns sub0 aac (k+3) ay7 [slf A,.val (.int st)] s=run true fns sub0 aac (k+2) iz5 [slf A,.val (.int st),.val (.int (-st))] s:=by
 rw[aad (F:=auN) rfl rfl]
 simp[aw7,hb.li]
 cases run true fns sub0 aac (k+2) iz5 [slf A,.val (.int st),.val (.int (-st))] s<;>rfl
end
theorem aj2(b x:Int):agG b x=decide (-b≤x∧x≤b):=by
 unfold agG
 congr 1
 apply propext
 split<;>omega
end Pg
end IP
end
noncomputable section
namespace IP
namespace Pg
open L2
def pt(p:Int×Int):T:=.tup [.int p.1,.int p.2]
abbrev PT(p:Int×Int):R:=.val (pt p)
@[simp] theorem axx (p:Int×Int) (s:Sto):(R.val (pt p)).dr s=.val (pt p):=rfl
@[simp] theorem aw1 (p q:Int×Int):eqD 8 (pt p) (pt q)=some (p==q):=by
 obtain⟨a,b⟩:=p;obtain⟨c,d⟩:=q
 simp[pt,eqD,eqL]
 rfl
@[simp] theorem arq (p:Int×Int):aaQ (.val (pt p)) 0=some (.int p.1):=rfl
@[simp] theorem are (p:Int×Int):aaQ (.val (pt p)) 1=some (.int p.2):=rfl
def sml(p:Int×Int):Prop:=p.1.natAbs≤2^20∧p.2.natAbs≤2^20
def ab9(p q r:Int×Int):Int:=(q.1-p.1)*(r.2-p.2)-(q.2-p.2)*(r.1-p.1)
def adu(p q r:Int×Int):Int:=(q.1-p.1)*(r.1-p.1)+(q.2-p.2)*(r.2-p.2)
theorem abU{a b:Int}(ha:a.natAbs≤2^20)(hb:b.natAbs≤2^20):(a-b).natAbs≤2^21:=by omega
theorem mul_sub{a b j:Int}(ha:a.natAbs≤2^20)(hb:b.natAbs≤2^20):opR .mul (.val (.int (a-b))) (.val (.int j))=some (.val (.int ((a-b)*j))):=aag (aab (by omega))
variable{k:Nat}{s:Sto}{p q r u:Int×Int}
theorem ai4(hp:sml p)(hq:sml q):run true fns sub0 aac (k+1) awN [PT p,PT q,PT r] s=.ok (.val (.int (ab9 p q r))) s:=by
 rw[aad (F:=⟨3,3,false,at7⟩) rfl rfl]
 simp[at7,mul_sub hq.1 hp.1,mul_sub hq.2 hp.2,ab9]
theorem amY(hp:sml p)(hq:sml q):run true fns sub0 aac (k+1) ays [PT p,PT q,PT r] s=.ok (.val (.int (adu p q r))) s:=by
 rw[aad (F:=⟨3,3,false,atU⟩) rfl rfl]
 simp[atU,mul_sub hq.1 hp.1,mul_sub hq.2 hp.2,adu]
theorem aaf{a b:Int}{m n:Nat}(ha:a.natAbs≤m)(hb:b.natAbs≤n):(a*b).natAbs≤m*n:=by
 rw[Int.natAbs_mul]
 exact Nat.mul_le_mul ha hb
theorem ahj(hp:sml p)(hq:sml q)(hr:sml r):(ab9 p q r).natAbs<2^64:=by
 have h1:=aaf (abU hq.1 hp.1) (abU hr.2 hp.2)
 have h2:=aaf (abU hq.2 hp.2) (abU hr.1 hp.1)
 unfold ab9
 omega
def aaK(p q r:Int×Int):Bool:=decide (ab9 p q r=0)&&decide (0<adu p q r)
theorem ady(hp:sml p)(hq:sml q):run true fns sub0 aac (k+2) ay3 [PT p,PT q,PT r] s=.ok (.val (.bl (aaK p q r))) s:=by
 rw[aad (F:=⟨3,3,false,au6⟩) rfl rfl]
 have h1:=ai4 (k:=k) (s:=s) (r:=r) hp hq
 have h2:=amY (k:=k) (s:=s) (r:=r) hp hq
 simp[au6,h1,h2,aaK]
 split<;>simp[*]
theorem aeA(hr:sml r)(hu:sml u)(hp:sml p):run true fns sub0 aac (k+2) axq [.val (.tup [pt p,pt q]),.val (.tup [pt r,pt u])] s=.ok (.val (.bl (decide (ab9 r u p*ab9 r u q≤0)))) s:=by
 rw[aad (F:=⟨2,2,false,atW⟩) rfl rfl]
 have h1:=ai4 (k:=k) (s:=s) (r:=p) hr hu
 have h2:=ai4 (k:=k) (s:=s) (r:=q) hr hu
 have h3:=aag (i:=ab9 r u p) (j:=ab9 r u q) (aab (ahj hr hu hp))
 simp[atW,h1,h2,h3]
def ax(b:Bool)(p:Int×Int):Int:=if b then p.2 else p.1
def abS(b:Bool)(p q r u:Int×Int):Bool:=decide (min (ax b p) (ax b q)≤max (ax b r) (ax b u))&&decide (min (ax b r) (ax b u)≤max (ax b p) (ax b q))
theorem ajO:run true fns sub0 aac (k+1) avN [.val (.tup [pt p,pt q]),.val (.tup [pt r,pt u]),.val (.int 0)] s=.ok (.val (.bl (abS false p q r u))) s:=by
 rw[aad (F:=⟨3,5,false,aoV⟩) rfl rfl]
 simp[aoV,abS,ax]
 split<;>simp[*]
theorem akf:run true fns sub0 aac (k+1) avN [.val (.tup [pt p,pt q]),.val (.tup [pt r,pt u]),.val (.int 1)] s=.ok (.val (.bl (abS true p q r u))) s:=by
 rw[aad (F:=⟨3,5,false,aoV⟩) rfl rfl]
 simp[aoV,abS,ax]
 split<;>simp[*]
def abZ(p q r u:Int×Int):Bool:=abS false p q r u&&abS true p q r u&&decide (ab9 r u p*ab9 r u q≤0)&&decide (ab9 p q r*ab9 p q u≤0)
theorem aki(hp:sml p)(hq:sml q)(hr:sml r)(hu:sml u):run true fns sub0 aac (k+3) ayf [.val (.tup [pt p,pt q]),.val (.tup [pt r,pt u])] s=.ok (.val (.bl (abZ p q r u))) s:=by
 rw[aad (F:=⟨2,2,false,arN⟩) rfl rfl]
 have h1:=ajO (k:=k+1) (s:=s) (p:=p) (q:=q) (r:=r) (u:=u)
 have h2:=akf (k:=k+1) (s:=s) (p:=p) (q:=q) (r:=r) (u:=u)
 have h3:=aeA (k:=k) (s:=s) (p:=p) (q:=q) hr hu hp
 have h4:=aeA (k:=k) (s:=s) (p:=r) (q:=u) (r:=p) (u:=q) hp hq hr
 simp[arN,h1,h2,h3,h4,abZ]
 cases abS false p q r u<;>cases abS true p q r u<;>simp
 split<;>simp[*]
variable{l:List (Int×Int)}
abbrev LN(l:List (Int×Int)):R:=.val (.lst (l.map pt))
def cor(l:List (Int×Int))(i:Nat):Int×Int:=l.getD (i % l.length) (0,0)
theorem abl(h:0<l.length)(i:Nat):(l.map pt)[i % l.length]?=some (pt (cor l i)):=by
 have:=Nat.mod_lt i h
 simp[cor,List.getElem?_map,this]
theorem acC(i n:Nat):Int.fmod (i:Int) (n:Int)=((i % n:Nat):Int):=by
 rw[Int.fmod_eq_emod_of_nonneg _ (Int.natCast_nonneg n)]
 simp
theorem aej(i:Nat)(n:Nat)(h:0<n):opR .mod (.val (.int ((i:Int)+1))) (.val (.int (n:Int)))=some (.val (.int (((i+1) % n:Nat):Int))):=by
 have h3:=aay (i:=(i:Int)+1) (j:=(n:Int)) (by omega)
 rw[h3,show((i:Int)+1)=((i+1:Nat):Int)by omega,acC]
theorem aip{i:Nat}(hi:i<l.length):run true fns sub0 aac (k+1) axH [LN l,.val (.int i)] s=.ok (.val (.tup [pt (cor l i),pt (cor l (i+1))])) s:=by
 rw[aad (F:=⟨2,2,false,ast⟩) rfl rfl]
 have h0:0<l.length:=by omega
 have h1:=aaU (abl h0 i)
 have h2:=aaU (abl h0 (i+1))
 rw[Nat.mod_eq_of_lt hi]at h1
 have h3:=aej i l.length h0
 generalize (i+1) % l.length=m at h2 h3
 simp[ast,h1,h2,h3]
theorem aaD(hl:∀p∈l,sml p)(i:Nat):sml (cor l i):=by
 unfold cor
 rw[List.getD_eq_getElem?_getD]
 cases e:l[i % l.length]? with
 | none=>exact⟨by decide,by decide⟩
 | some p=>exact hl p (List.mem_of_getElem? e)
def abM(l:List (Int×Int))(i j:Nat):Bool:=
 if i=j then cor l i==cor l (i+1)
 else if j=i+1 then aaK (cor l (i+1)) (cor l i) (cor l (j+1))
 else if j+1=l.length∧i=0 then aaK (cor l i) (cor l (i+1)) (cor l j)
 else abZ (cor l i) (cor l (i+1)) (cor l j) (cor l (j+1))
theorem anq{i j:Nat}(hl:∀p∈l,sml p)(hij:i≤j)(hj:j<l.length):run true fns sub0 aac (k+4) awd [LN l,.val (.int i),.val (.int j)] s=.ok (.val (.bl (abM l i j))) s:=by
 rw[aad (F:=⟨3,5,false,as1⟩) rfl rfl]
 have h1:=aip (k:=k+2) (s:=s) (l:=l) (i:=i) (by omega)
 have h2:=aip (k:=k+2) (s:=s) (l:=l) (i:=j) hj
 have h3:=ady (k:=k+1) (s:=s) (p:=cor l (i+1)) (q:=cor l i) (r:=cor l (j+1)) (aaD hl _) (aaD hl _)
 have h4:=ady (k:=k+1) (s:=s) (p:=cor l i) (q:=cor l (i+1)) (r:=cor l j) (aaD hl _) (aaD hl _)
 have h5:=aki (k:=k) (s:=s) (p:=cor l i) (q:=cor l (i+1)) (r:=cor l j) (u:=cor l (j+1)) (aaD hl _) (aaD hl _) (aaD hl _) (aaD hl _)
 simp[as1,h1,h2,h3,h4,h5]
 unfold abM
 by_cases c1:i=j
 ·simp[c1]
 ·by_cases c2:j=i+1
  ·rw[if_neg (by omega),if_pos (by omega),if_neg c1,if_pos c2]
  ·rw[if_neg (by omega),if_neg (by omega),if_neg c1,if_neg c2]
   by_cases c3:j+1=l.length
   ·rw[if_pos (by omega)]
    by_cases c4:i=0
    ·rw[if_pos c4,if_pos ⟨c3,c4⟩]
    ·rw[if_neg c4,if_neg (fun z=>c4 z.2)]
   ·rw[if_neg (by omega),if_neg (fun z=>c3 z.1)]
def ajX(f:Nat):List S:=[.for_ (.one 1) (.rng1 (.b1 .len (.var 0))) [.for_ (.one 2) (.rng2 (.var 1) (.b1 .len (.var 0))) [.ifs (.call f [.var 0,.var 1,.var 2] []) [.ret (.tup [.var 1,.var 2])] []]],.ret (.cst .non)]
def qj(p:Nat→Nat→Bool)(i j:Nat):Option R:=if p i j then some (.val (.tup [.int i,.int j]))else none
def qi(p:Nat→Nat→Bool)(n i:Nat):Option R:=abz (qj p i) i (n-i)
def fp(p:Nat→Nat→Bool)(n:Nat):R:=(abz (qi p n) 0 n).getD (.val .non)
theorem afL{C:Cf}{f:Nat}{p:Nat→Nat→Bool}{i:Nat}(hp:∀j,i≤j→j<l.length→C.cf f [LN l,.val (.int i),.val (.int j)] s=.ok (.val (.bl (p i j))) s)(hi:i<l.length)(c:Option B):
  match qi p l.length i with
  | some r=>abH (.one 2) (fun σ s=>exs C [.ifs (.call f [.var 0,.var 1,.var 2] []) [.ret (.tup [.var 1,.var 2])] []] σ s) (aai i l.length) [some (.val (.lst (l.map pt))),some (.val (.int i)),c] s=.ret r s
  | none=>∃c',abH (.one 2) (fun σ s=>exs C [.ifs (.call f [.var 0,.var 1,.var 2] []) [.ret (.tup [.var 1,.var 2])] []] σ s) (aai i l.length) [some (.val (.lst (l.map pt))),some (.val (.int i)),c] s=.next [some (.val (.lst (l.map pt))),some (.val (.int i)),c'] s:=by
 have h:=acf (g:=.one 2) (body:=fun σ s=>exs C [.ifs (.call f [.var 0,.var 1,.var 2] []) [.ret (.tup [.var 1,.var 2])] []] σ s) (s:=s) (fun _ σ=>∃c,σ=[some (.val (.lst (l.map pt))),some (.val (.int i)),c]) (qj p i) (aai i l.length) i [some (.val (.lst (l.map pt))),some (.val (.int i)),c] ⟨c,rfl⟩ ?_
 ·rw[aa1,show((l.length:Int)-(i:Int)).toNat=l.length-i by omega]at h
  unfold qi
  cases hq:abz (qj p i) i (l.length-i)with
  | some r=>rw[hq]at h;exact h
  | none=>
   rw[hq]at h
   obtain⟨σ',e,c',rfl⟩:=h
   exact⟨c',e⟩
 ·rintro m t σ hm ⟨c,rfl⟩
  obtain⟨rfl,hlt⟩:=aav hm
  have hq:=hp (i+m) (by omega) (by omega)
  rw[show((i+m:Nat):Int)=(i:Int)+(m:Int)by omega]at hq
  refine⟨[some (.val (.lst (l.map pt))),some (.val (.int i)),some (.val (.int (i+m)))],by simp[aal,put],?_⟩
  unfold qj
  cases hb:p i (i+m)with
  | true=>rw[hb]at hq;simp[hq]
  | false=>rw[hb]at hq;simp[hq]
theorem ai2{C:Cf}{f:Nat}{p:Nat→Nat→Bool}(hl:l.length≤1000)(hp:∀i j,i≤j→j<l.length→C.cf f [LN l,.val (.int i),.val (.int j)] s=.ok (.val (.bl (p i j))) s):
  exs C (ajX f) [some (.val (.lst (l.map pt))),none,none] s=.ret (fp p l.length) s:=by
 have h:=acf (g:=.one 1) (body:=fun σ s=>exs C [.for_ (.one 2) (.rng2 (.var 1) (.b1 .len (.var 0))) [.ifs (.call f [.var 0,.var 1,.var 2] []) [.ret (.tup [.var 1,.var 2])] []]] σ s) (s:=s) (fun _ σ=>∃b c,σ=[some (.val (.lst (l.map pt))),b,c]) (qi p l.length) (aai 0 l.length) 0 [some (.val (.lst (l.map pt))),none,none] ⟨none,none,rfl⟩ ?_
 ·rw[aa1,show((l.length:Int)-0).toNat=l.length by omega]at h
  unfold fp
  have e1:ex C (.for_ (.one 1) (.rng1 (.b1 .len (.var 0))) [.for_ (.one 2) (.rng2 (.var 1) (.b1 .len (.var 0))) [.ifs (.call f [.var 0,.var 1,.var 2] []) [.ret (.tup [.var 1,.var 2])] []]]) [some (.val (.lst (l.map pt))),none,none] s=_:=aaV (ts:=aai 0 l.length) (s1:=s) (abm (by simp) hl) (by intro i h;cases h)
  cases hq:abz (qi p l.length) 0 l.length with
  | some r=>
   rw[hq]at h
   exact abw (e1.trans h)
  | none=>
   rw[hq]at h
   obtain⟨σ',e,b,c,rfl⟩:=h
   refine(aaa (e1.trans e)).trans ?_
   simp
 ·rintro m t σ hm ⟨b,c,rfl⟩
  obtain⟨rfl,hlt⟩:=aav hm
  have hlt:m<l.length:=by omega
  have hin:=afL (C:=C) (f:=f) (p:=p) (i:=m) (fun j h1 h2=>hp m j h1 h2) hlt c
  refine⟨[some (.val (.lst (l.map pt))),some (.val (.int m)),c],by simp[aal,put],?_⟩
  rw[show 0+m=m by omega]
  have e1:ex C (.for_ (.one 2) (.rng2 (.var 1) (.b1 .len (.var 0))) [.ifs (.call f [.var 0,.var 1,.var 2] []) [.ret (.tup [.var 1,.var 2])] []]) [some (.val (.lst (l.map pt))),some (.val (.int m)),c] s=_:=aaV (ts:=aai m l.length) (s1:=s) (amp (s1:=s) (by simp) (by simp) (by omega) hl) (by intro i h;cases h)
  cases hq:qi p l.length m with
  | some r=>
   rw[hq]at hin
   exact abw (e1.trans hin)
  | none=>
   rw[hq]at hin
   obtain⟨c',e⟩:=hin
   exact⟨_,(aaa (e1.trans e)).trans (by simp only[exs]),some (.val (.int m)),c',rfl⟩
theorem ads(hl:∀p∈l,sml p)(hn:l.length≤1000):run true fns sub0 aac (k+5) axI [LN l] s=.ok (fp (abM l) l.length) s:=by
 rw[aad (F:=⟨1,3,false,auO⟩) rfl rfl]
 have h:=ai2 (C:=cfX fns sub0 (k+4)) (f:=awd) (s:=s) (l:=l) (p:=abM l) hn (fun i j h1 h2=>anq (k:=k) hl h1 h2)
 exact congrArg (aaL true false) h
end Pg
end IP
end
noncomputable section
namespace SegM
def turn(sx sy ox oy tx ty:Int):Int:=(ox-sx)*(ty-sy)-(oy-sy)*(tx-sx)
def aaS(fa fb fc fd:Int):Prop:=fa<fc∧fa<fd∧fb<fc∧fb<fd
theorem aoC{p q r s fa fb fc fd:Int}(hp:0≤p)(hq:0≤q)(hr:0≤r)(hs:0≤s)(hk:0<p+q)(hrs:r+s=p+q)
  (e:p*fb+q*fa=r*fd+s*fc):¬aaS fa fb fc fd:=by
 rintro⟨h1,h2,h3,h4⟩
 have M:∃M,fa≤M∧fb≤M∧M+1≤fc∧M+1≤fd:=⟨max fa fb,by omega,by omega,by omega,by omega⟩
 obtain⟨M,a1,a2,a3,a4⟩:=M
 have b1:=Int.mul_le_mul_of_nonneg_left a2 hp
 have b2:=Int.mul_le_mul_of_nonneg_left a1 hq
 have b3:=Int.mul_le_mul_of_nonneg_left a4 hr
 have b4:=Int.mul_le_mul_of_nonneg_left a3 hs
 have e1:p*M+q*M=(p+q)*M:=by grind
 have e2:r*(M+1)+s*(M+1)=(r+s)*M+(r+s):=by grind
 rw[hrs]at e2
 omega
section
variable(ax ay bx by' cx cy dx dy:Int)
theorem ax3(u v:Int):
  turn cx cy dx dy ax ay*(bx*u+by'*v)-turn cx cy dx dy bx by'*(ax*u+ay*v) +
   turn ax ay bx by' cx cy*(dx*u+dy*v)-turn ax ay bx by' dx dy*(cx*u+cy*v)=0:=by
 unfold turn
 grind
theorem auD:turn cx cy dx dy ax ay-turn cx cy dx dy bx by'+turn ax ay bx by' cx cy-turn ax ay bx by' dx dy=0:=by
 unfold turn
 grind
end
theorem akH{a b:Int}(h:a*b≤0):(0≤a∧b≤0)∨(a≤0∧0≤b):=by
 by_cases ha:0<a
 ·left
  refine⟨by omega,?_⟩
  apply Classical.byContradiction
  intro hb
  have:=Int.mul_pos ha (show 0<b by omega)
  omega
 ·by_cases ha0:a=0
  ·by_cases hb:0≤b
   ·right;omega
   ·left;omega
  ·right
   refine⟨by omega,?_⟩
   apply Classical.byContradiction
   intro hb
   have:=Int.mul_pos (show 0 < -a by omega) (show 0 < -b by omega)
   have e:-a*-b=a*b:=by grind
   omega
theorem across{ax ay bx by' cx cy dx dy u v:Int}
  (h1:turn cx cy dx dy ax ay*turn cx cy dx dy bx by'≤0) (h2:turn ax ay bx by' cx cy*turn ax ay bx by' dx dy≤0)
  (hk:turn cx cy dx dy ax ay≠turn cx cy dx dy bx by'):
  ¬aaS (ax*u+ay*v) (bx*u+by'*v) (cx*u+cy*v) (dx*u+dy*v):=by
 have e:=ax3 ax ay bx by' cx cy dx dy u v
 have k:=auD ax ay bx by' cx cy dx dy
 generalize turn cx cy dx dy ax ay=A at *
 generalize turn cx cy dx dy bx by'=B at *
 generalize turn ax ay bx by' cx cy=C at *
 generalize turn ax ay bx by' dx dy=D at *
 generalize ax*u+ay*v=fa at *
 generalize bx*u+by'*v=fb at *
 generalize cx*u+cy*v=fc at *
 generalize dx*u+dy*v=fd at *
 rcases akH h1 with⟨a1,a2⟩|⟨a1,a2⟩
 ·have hC:C≤0∧0≤D:=by
   rcases akH h2 with⟨c1,c2⟩|⟨c1,c2⟩<;>omega
  refine aoC (p:=A) (q:=-B) (r:=-C) (s:=D) a1 (by omega) (by omega) hC.2 (by omega) (by omega) ?_
  grind
 ·have hC:0≤C∧D≤0:=by
   rcases akH h2 with⟨c1,c2⟩|⟨c1,c2⟩<;>omega
  refine aoC (p:=-A) (q:=B) (r:=C) (s:=-D) (by omega) a2 hC.1 (by omega) (by omega) (by omega) ?_
  grind
theorem aig{px py qx qy rx ry u v:Int}(hc:turn px py qx qy rx ry=0)(h1:px≤rx)(h2:rx≤qx)(hne:px<qx):
  ∃s t:Int,0≤s∧0≤t∧0<s+t∧(s+t)*(rx*u+ry*v)=s*(px*u+py*v)+t*(qx*u+qy*v):=by
 refine⟨qx-rx,rx-px,by omega,by omega,by omega,?_⟩
 unfold turn at hc
 grind
theorem afY{s t fr fp fq:Int}(hs:0≤s)(ht:0≤t)(hk:0<s+t)(e:(s+t)*fr=s*fp+t*fq):
  (fp≤fr∨fq≤fr)∧(fr≤fp∨fr≤fq):=by
 constructor
 ·apply Classical.byContradiction
  intro h
  have b1:=Int.mul_le_mul_of_nonneg_left (show fr+1≤fp by omega) hs
  have b2:=Int.mul_le_mul_of_nonneg_left (show fr+1≤fq by omega) ht
  have e1:s*(fr+1)+t*(fr+1)=(s+t)*fr+(s+t):=by grind
  omega
 ·apply Classical.byContradiction
  intro h
  have b1:=Int.mul_le_mul_of_nonneg_left (show fp≤fr-1 by omega) hs
  have b2:=Int.mul_le_mul_of_nonneg_left (show fq≤fr-1 by omega) ht
  have e1:s*(fr-1)+t*(fr-1)=(s+t)*fr-(s+t):=by grind
  omega
def W(p q r:Int):Prop:=(p≤r∨q≤r)∧(r≤p∨r≤q)
theorem W_l(p q:Int):W p q p:=by unfold W;omega
theorem W_r(p q:Int):W p q q:=by unfold W;omega
theorem adf{fa fb fc fd r:Int}(h1:W fa fb r)(h2:W fc fd r):¬aaS fa fb fc fd:=by
 unfold W at h1 h2
 unfold aaS
 omega
theorem ahZ(sx sy ox oy tx ty:Int):turn ox oy sx sy tx ty=-turn sx sy ox oy tx ty:=by
 unfold turn
 grind
theorem agI{cx cy dx dy px py:Int}(hc:turn cx cy dx dy px py=0)(h1:min cx dx≤px)(h2:px≤max cx dx)(hne:cx≠dx)(u v:Int):
  W (cx*u+cy*v) (dx*u+dy*v) (px*u+py*v):=by
 by_cases hlt:cx<dx
 ·obtain⟨s,t,hs,ht,hk,e⟩:=aig (u:=u) (v:=v) hc (show cx≤px by omega) (by omega) hlt
  exact afY hs ht hk e
 ·have hc':turn dx dy cx cy px py=0:=by rw[ahZ,hc];rfl
  obtain⟨s,t,hs,ht,hk,e⟩:=aig (u:=u) (v:=v) hc' (show dx≤px by omega) (by omega) (by omega)
  have:=afY hs ht hk e
  unfold W
  omega
theorem afR{x cy dy py u v:Int}(h1:min cy dy≤py)(h2:py≤max cy dy):W (x*u+cy*v) (x*u+dy*v) (x*u+py*v):=by
 by_cases hlt:cy<dy
 ·exact afY (s:=dy-py) (t:=py-cy) (by omega) (by omega) (by omega) (by grind)
 ·by_cases he:cy=dy
  ·have:py=cy:=by omega
   subst this
   exact W_l _ _
  ·have:=afY (s:=cy-py) (t:=py-dy) (fr:=x*u+py*v) (fp:=x*u+dy*v) (fq:=x*u+cy*v) (by omega) (by omega) (by omega) (by grind)
   unfold W
   omega
theorem aoc{a b c d:Int}(x1:min a b≤max c d)(x2:min c d≤max a b):(min c d≤a∧a≤max c d)∨(min c d≤b∧b≤max c d)∨(min a b≤c∧c≤max a b)∨(min a b≤d∧d≤max a b):=by
 omega
theorem amJ{ax ay bx by' cx cy dx dy:Int}(hA:turn cx cy dx dy ax ay=0)(hB:turn cx cy dx dy bx by'=0)(hC:turn ax ay bx by' cx cy=0)(hD:turn ax ay bx by' dx dy=0)
  (x1:min ax bx≤max cx dx) (x2:min cx dx≤max ax bx) (y1:min ay by'≤max cy dy) (y2:min cy dy≤max ay by') (u v:Int):
  ¬aaS (ax*u+ay*v) (bx*u+by'*v) (cx*u+cy*v) (dx*u+dy*v):=by
 by_cases e1:ax=bx
 ·by_cases e2:cx=dx
  ·have e3:ax=cx:=by omega
   subst e1;subst e2;subst e3
   rcases aoc y1 y2 with h|h|h|h
   ·exact adf (W_l _ _) (afR h.1 h.2)
   ·exact adf (W_r _ _) (afR h.1 h.2)
   ·exact adf (afR h.1 h.2) (W_l _ _)
   ·exact adf (afR h.1 h.2) (W_r _ _)
  ·subst e1
   exact adf (W_l _ _) (agI hA (by omega) (by omega) e2 u v)
 ·by_cases e2:cx=dx
  ·subst e2
   exact adf (agI hC (by omega) (by omega) e1 u v) (W_l _ _)
  ·rcases aoc x1 x2 with h|h|h|h
   ·exact adf (W_l _ _) (agI hA h.1 h.2 e2 u v)
   ·exact adf (W_r _ _) (agI hB h.1 h.2 e2 u v)
   ·exact adf (agI hC h.1 h.2 e1 u v) (W_l _ _)
   ·exact adf (agI hD h.1 h.2 e1 u v) (W_r _ _)
def aem(ax ay bx by' cx cy dx dy:Int):Prop:=
 (min ax bx≤max cx dx∧min cx dx≤max ax bx)∧(min ay by'≤max cy dy∧min cy dy≤max ay by')∧
  turn cx cy dx dy ax ay*turn cx cy dx dy bx by'≤0∧turn ax ay bx by' cx cy*turn ax ay bx by' dx dy≤0
theorem ain{a:Int}(h:a*a≤0):a=0:=by
 rcases akH h with⟨h1,h2⟩|⟨h1,h2⟩<;>omega
theorem acn{ax ay bx by' cx cy dx dy:Int}(h:aem ax ay bx by' cx cy dx dy)(u v:Int):
  ¬aaS (ax*u+ay*v) (bx*u+by'*v) (cx*u+cy*v) (dx*u+dy*v):=by
 obtain⟨⟨x1,x2⟩,⟨y1,y2⟩,h1,h2⟩:=h
 by_cases hk:turn cx cy dx dy ax ay=turn cx cy dx dy bx by'
 ·have k:=auD ax ay bx by' cx cy dx dy
  have k2:turn ax ay bx by' cx cy=turn ax ay bx by' dx dy:=by omega
  rw[←hk]at h1
  rw[←k2]at h2
  have a0:=ain h1
  have c0:=ain h2
  exact amJ a0 (by omega) c0 (by omega) x1 x2 y1 y2 u v
 ·exact across h1 h2 hk
theorem aff{ax ay bx by' cx cy dx dy:Int}(h:aem ax ay bx by' cx cy dx dy):aem cx cy dx dy ax ay bx by':=by
 obtain⟨⟨x1,x2⟩,⟨y1,y2⟩,h1,h2⟩:=h
 exact⟨⟨x2,x1⟩,⟨y2,y1⟩,h2,h1⟩
def aoQ(ax ay bx by' cx cy dx dy u v:Int):Prop:=
 aaS (ax*u+ay*v) (bx*u+by'*v) (cx*u+cy*v) (dx*u+dy*v)∨aaS (cx*u+cy*v) (dx*u+dy*v) (ax*u+ay*v) (bx*u+by'*v)
theorem agB{ax ay bx by' cx cy dx dy:Int}(h:aem ax ay bx by' cx cy dx dy)(u v:Int):¬aoQ ax ay bx by' cx cy dx dy u v:=by
 rintro(q|q)
 ·exact acn h u v q
 ·exact acn (aff h) u v q
theorem apart{a b c d:Int}(h:¬(min a b≤max c d∧min c d≤max a b)):aaS a b c d∨aaS c d a b:=by
 unfold aaS
 rw[Int.min_def,Int.max_def,Int.min_def,Int.max_def]at h
 split at h<;>split at h<;>omega
end SegM
end
noncomputable section
namespace WayM
theorem al6{a b:Int}(h:a.natAbs=b.natAbs):a=b∨a=-b:=by omega
theorem sq_pos_of{a b:Int}(h:¬(a=0∧b=0)):0<a*a+b*b:=by
 have h1:0≤a*a:=by
  rcases Int.le_total 0 a with q|q
  ·exact Int.mul_nonneg q q
  ·have:=Int.mul_nonneg (show 0≤-a by omega) (show 0≤-a by omega)
   have e:-a*-a=a*a:=by grind
   omega
 have h2:0≤b*b:=by
  rcases Int.le_total 0 b with q|q
  ·exact Int.mul_nonneg q q
  ·have:=Int.mul_nonneg (show 0≤-b by omega) (show 0≤-b by omega)
   have e:-b*-b=b*b:=by grind
   omega
 by_cases ha:a=0
 ·have hb:b≠0:=fun q=>h ⟨ha,q⟩
  have:b*b≠0:=fun q=>by rcases Int.mul_eq_zero.mp q with q|q<;>omega
  omega
 ·have:a*a≠0:=fun q=>by rcases Int.mul_eq_zero.mp q with q|q<;>omega
  omega
theorem prim{i j k l:Int}(h1:Nat.Coprime i.natAbs j.natAbs)(h2:Nat.Coprime k.natAbs l.natAbs)(ht:i*l=j*k)(ha:0<i*k+j*l):i=k∧j=l:=by
 have e:i.natAbs*l.natAbs=j.natAbs*k.natAbs:=by
  rw[←Int.natAbs_mul,←Int.natAbs_mul,ht]
 have d1:i.natAbs ∣ k.natAbs:=h1.dvd_of_dvd_mul_left (e▸Nat.dvd_mul_right _ _)
 have d2:k.natAbs ∣ i.natAbs:=h2.dvd_of_dvd_mul_right (e▸Nat.dvd_mul_left _ _)
 have d3:j.natAbs ∣ l.natAbs:=h1.symm.dvd_of_dvd_mul_left (e▸Nat.dvd_mul_right _ _)
 have d4:l.natAbs ∣ j.natAbs:=h2.symm.dvd_of_dvd_mul_right (e▸Nat.dvd_mul_left _ _)
 have e1:=al6 (Nat.dvd_antisymm d1 d2)
 have e2:=al6 (Nat.dvd_antisymm d3 d4)
 rcases e1 with rfl|rfl
 ·rcases e2 with rfl|rfl
  ·exact⟨rfl,rfl⟩
  ·have z:i*l=0:=by grind
   rcases Int.mul_eq_zero.mp z with z|z
   ·subst z
    by_cases hl:l=0
    ·subst hl;omega
    ·have:=sq_pos_of (a:=l) (b:=0) (by omega)
     grind
   ·subst z;exact⟨rfl,by omega⟩
 ·rcases e2 with rfl|rfl
  ·have z:k*j=0:=by grind
   rcases Int.mul_eq_zero.mp z with z|z
   ·subst z;exact⟨by omega,rfl⟩
   ·subst z
    by_cases hk:k=0
    ·subst hk;omega
    ·have:=sq_pos_of (a:=k) (b:=0) (by omega)
     grind
  ·by_cases hk:k=0∧l=0
   ·obtain⟨rfl,rfl⟩:=hk
    omega
   ·have:=sq_pos_of hk
    grind
theorem low{p q g:Int}(hg:g=(Nat.gcd p.natAbs q.natAbs:Nat))(h0:0<g):
  ∃i j,p=g*i∧q=g*j∧Nat.Coprime i.natAbs j.natAbs:=by
 have dp:g ∣ p:=by
  rw[hg];exact Int.natAbs_dvd_natAbs.mp (by simpa using Nat.gcd_dvd_left _ _)
 have dq:g ∣ q:=by
  rw[hg];exact Int.natAbs_dvd_natAbs.mp (by simpa using Nat.gcd_dvd_right _ _)
 obtain⟨i,hi⟩:=dp
 obtain⟨j,hj⟩:=dq
 refine⟨i,j,hi,hj,?_⟩
 have e1:p.natAbs=g.natAbs*i.natAbs:=by rw[hi,Int.natAbs_mul]
 have e2:q.natAbs=g.natAbs*j.natAbs:=by rw[hj,Int.natAbs_mul]
 have e3:g.natAbs=Nat.gcd p.natAbs q.natAbs:=by omega
 rw[e1,e2,Nat.gcd_mul_left]at e3
 unfold Nat.Coprime
 have:0<g.natAbs:=by omega
 exact Nat.eq_of_mul_eq_mul_left this (by omega)
end WayM
end
noncomputable section
namespace M3
def aaI:Nat→Nat
 | 0=>0
 | n+1=>if(aaI n+1)*(aaI n+1)≤n+1 then aaI n+1 else aaI n
theorem acj:∀n,aaI n*aaI n≤n∧n<(aaI n+1)*(aaI n+1)
 | 0=>by decide
 | n+1=>by
  have ih:=acj n
  unfold aaI
  split
  ·rename_i h
   refine⟨h,?_⟩
   have:(aaI n+1+1)*(aaI n+1+1)=(aaI n+1)*(aaI n+1)+2*aaI n+3:=by grind
   omega
  ·omega
def aaw(n:Int):Int:=(aaI n.toNat:Nat)
theorem aaA(n:Int):0≤aaw n:=Int.natCast_nonneg _
theorem acA(n:Int)(h:0≤n):aaw n*aaw n≤n:=by
 have:=(acj n.toNat).1
 show((aaI n.toNat:Nat):Int)*((aaI n.toNat:Nat):Int)≤n
 have e:((aaI n.toNat:Nat):Int)*((aaI n.toNat:Nat):Int)=((aaI n.toNat*aaI n.toNat:Nat):Int):=by simp
 rw[e];omega
theorem ac5(n:Int)(h:0≤n):n<(aaw n+1)*(aaw n+1):=by
 have:=(acj n.toNat).2
 show n<((aaI n.toNat:Nat)+1:Int)*((aaI n.toNat:Nat)+1:Int)
 have e:((aaI n.toNat:Nat)+1:Int)*((aaI n.toNat:Nat)+1:Int)=(((aaI n.toNat+1)*(aaI n.toNat+1):Nat):Int):=by simp
 rw[e];omega
theorem ak3{a b:Int}(ha:0≤a)(h:a*a<b*b)(hb:0≤b):a<b:=by
 apply Int.lt_of_not_ge
 intro hc
 have:=Int.mul_le_mul hc hc hb ha
 omega
theorem abF{n r:Int}(h0:0≤r)(h1:r*r≤n)(h2:n<(r+1)*(r+1))(hn:0≤n):aaw n=r:=by
 have a:=acA n hn
 have b:=ac5 n hn
 have c:=aaA n
 have x:aaw n<r+1:=ak3 c (by omega) (by omega)
 have y:r<aaw n+1:=ak3 h0 (by omega) (by omega)
 omega
theorem apj{n r q:Int}(hn:0≤n)(hr:0<r)(hq:q=n / r):aaw n≤(r+q) / 2:=by
 have a:=acA n hn
 have c:=aaA n
 generalize hs:aaw n=s at *
 have h1:n<r*(q+1):=by
  have:=Int.lt_ediv_add_one_mul_self n hr
  rw[hq];rw[Int.mul_comm];exact this
 have h2:0≤(s-r)*(s-r):=by
  rcases Int.le_total s r with h|h
  ·have:0≤(r-s)*(r-s):=Int.mul_nonneg (by omega) (by omega)
   grind
  ·exact Int.mul_nonneg (by omega) (by omega)
 have h3:r*(2*s)<r*(q+1+r):=by grind
 have h4:2*s<q+1+r:=Int.lt_of_mul_lt_mul_left h3 (by omega)
 omega
structure Inv(n r m:Int):Prop where
 r0:0≤r
 rn:r≤n
 sr:aaw n≤r
 sm:aaw n≤m
 e:r≤m→r=aaw n
theorem agx{n:Int}(h:0<n):1≤aaw n:=by
 have b:=ac5 n (by omega)
 have c:=aaA n
 rcases(by omega:aaw n=0∨1≤aaw n)with z|z
 ·rw[z]at b;omega
 ·exact z
theorem acF{n:Int}(h:0≤n):Inv n n (Int.fdiv (n+1) 2):=by
 rw[Int.fdiv_eq_ediv_of_nonneg _ (by decide)]
 have a:=acA n h
 have b:=ac5 n h
 have c:=aaA n
 have d:0≤(aaw n-1)*(aaw n-1):=by
  rcases(by omega:aaw n=0∨1≤aaw n)with z|z
  ·rw[z];decide
  ·exact Int.mul_nonneg (by omega) (by omega)
 have d2:(aaw n-1)*(aaw n-1)=aaw n*aaw n-2*aaw n+1:=by grind
 refine⟨h,Int.le_refl _,?_,by omega,?_⟩
 ·rcases(by omega:aaw n=0∨1≤aaw n)with z|z
  ·omega
  ·have:=Int.mul_le_mul_of_nonneg_left z c
   omega
 ·intro hc
  have:n=0∨n=1:=by omega
  rcases this with z|z
  ·exact(abF (by omega) (by subst z;decide) (by subst z;decide) h).symm
  ·exact(abF (by omega) (by subst z;decide) (by subst z;decide) h).symm
theorem ahO{n r m:Int}(h:Inv n r m)(hlt:m<r):0<m:=by
 have:=h.sm
 have:=agx (n:=n) (by have:=h.rn;have:=h.sm;have:=aaA n;omega)
 omega
theorem aj7{n r m:Int}(h:Inv n r m)(hlt:m<r):Inv n m (Int.fdiv (m+Int.fdiv n m) 2):=by
 have mp:=ahO h hlt
 have n0:0≤n:=by have:=h.rn;have:=h.r0;omega
 rw[Int.fdiv_eq_ediv_of_nonneg _ (by decide),Int.fdiv_eq_ediv_of_nonneg n (by omega:0≤m)]
 have nw:=apj n0 mp rfl
 refine⟨by omega,by have:=h.rn;omega,h.sm,nw,?_⟩
 intro hc
 have h2:m≤n / m:=by omega
 have h3:m*m≤n:=by
  have e1:n / m*m≤n:=Int.ediv_mul_le n (by omega)
  have e2:m*m≤n / m*m:=Int.mul_le_mul_of_nonneg_right h2 (by omega)
  omega
 have b:=ac5 n n0
 have:m<aaw n+1:=ak3 (by omega) (by omega) (by have:=aaA n;omega)
 have:=h.sm
 omega
theorem anb{n r m:Int}(h:Inv n r m)(hlt:¬m<r):r=aaw n:=h.e (by omega)
theorem nn{a:Int}:0≤a*a:=by
 rcases Int.le_total 0 a with h|h
 ·exact Int.mul_nonneg h h
 ·have:0≤(-a)*(-a):=Int.mul_nonneg (by omega) (by omega)
  grind
end M3
end
noncomputable section
namespace IP
theorem aiV{c:Fr→Sto→Res Bool}{b:Fr→Sto→SR}:∀(n:Nat) (σ:Fr) (s:Sto),aaj c b n σ s≠.stuck→aaj c b (n+1) σ s=aaj c b n σ s
 | 0,σ,s,h=>absurd rfl h
 | n+1,σ,s,h=>by
  rw[aaj]
  conv=>rhs;rw[aaj]
  rw[aaj]at h
  cases hc:c σ s with
  | stuck=>rfl
  | exc d s1=>rfl
  | ok v s1=>
   cases v with
   | false=>rfl
   | true=>
    rw[hc]at h
    simp only at h ⊢
    cases hb:b σ s1 with
    | next σ2 s2=>
     rw[hb]at h
     simp only[SR.bind_next]at h ⊢
     exact aiV n σ2 s2 h
    | _=>rfl
theorem aoy{c:Fr→Sto→Res Bool}{b:Fr→Sto→SR}{σ:Fr}{s:Sto}{n m:Nat}(h:aaj c b n σ s≠.stuck)(hm:n≤m):aaj c b m σ s=aaj c b n σ s:=by
 induction hm with
 | refl=>rfl
 | step _ ih=>rw[aiV _ _ _ (by rw[ih];exact h),ih]
theorem aua{c:Fr→Sto→Res Bool}{b:Fr→Sto→SR}{σ:Fr}{s:Sto}{n:Nat}{r:SR}(h:aaj c b n σ s=r)(hr:r≠.stuck):aac c b σ s=r:=by
 have hex:∃n,aaj c b n σ s≠.stuck:=⟨n,by rw[h];exact hr⟩
 unfold aac
 rw[dif_pos hex]
 have h2:=Classical.choose_spec hex
 generalize Classical.choose hex=m at h2
 rcases Nat.le_total n m with z|z
 ·rw[aoy (by rw[h];exact hr) z,h]
 ·rw[←aoy h2 z,h]
theorem aca{c:Fr→Sto→Res Bool}{b:Fr→Sto→SR}{s:Sto}(I:Fr→Prop)(μ:Fr→Nat)(hc:∀σ,I σ→(c σ s=.ok false s)∨(c σ s=.ok true s∧∃σ2,b σ s=.next σ2 s∧I σ2∧μ σ2<μ σ))(σ:Fr)(h:I σ):∃σ',aac c b σ s=.next σ' s∧I σ'∧c σ' s=.ok false s:=by
 have key:∀(m:Nat) (σ:Fr),μ σ≤m→I σ→∃n σ',aaj c b n σ s=.next σ' s∧I σ'∧c σ' s=.ok false s:=by
  intro m
  induction m with
  | zero=>
   intro σ hm hI
   rcases hc σ hI with e|⟨_,σ2,_,_,e⟩
   ·exact⟨1,σ,by rw[aaj,e],hI,e⟩
   ·omega
  | succ m ih=>
   intro σ hm hI
   rcases hc σ hI with e|⟨e,σ2,e2,h2,e3⟩
   ·exact⟨1,σ,by rw[aaj,e],hI,e⟩
   ·obtain⟨n,σ',q1,q2,q3⟩:=ih σ2 (by omega) h2
    exact⟨n+1,σ',by rw[aaj,e];simp only[e2,SR.bind_next,q1],q2,q3⟩
 obtain⟨n,σ',q1,q2,q3⟩:=key _ σ (Nat.le_refl _) h
 exact⟨σ',aua q1 (by intro h;cases h),q2,q3⟩
namespace Pg
open L2 M3
variable{k:Nat}{s:Sto}
theorem aeH{n:Int}(h0:0≤n)(hn:n<2^60):run true fns sub0 aac (k+1) axZ [.val (.int n)] s=.ok (.val (.int (aaw n))) s:=by
 rw[aad (F:=aur) rfl rfl]
 obtain⟨σ',e,⟨r,m,rfl,hI⟩,hout⟩:=aca (s:=s) (c:=fun σ s=>(ev (cfX fns sub0 k) (.cmp .lt (.var 2) (.var 1)) .t σ s).bind fun x s1=>.of (match x with | .val (.bl k)=>some k | _=>none) s1) (b:=fun σ s=>exs (cfX fns sub0 k) ajb σ s)
  (fun σ=>∃r m:Int,σ=[some (.val (.int n)),some (.val (.int r)),some (.val (.int m))]∧Inv n r m) (fun σ=>match σ with | [_,some (.val (.int r)),_]=>r.toNat | _=>0) (by
   rintro σ ⟨r,m,rfl,hI⟩
   by_cases hlt:m<r
   ·refine .inr ⟨by simp[hlt],?_⟩
    have hp:=ahO hI hlt
    have hr:=hI.rn
    have hd:=aaH (i:=n) (j:=m) hp (by omega)
    exact⟨[some (.val (.int n)),some (.val (.int m)),some (.val (.int (Int.fdiv (m+Int.fdiv n m) 2)))],by simp[hd,aaH],⟨m,_,rfl,aj7 hI hlt⟩,by simp;omega⟩
   ·exact .inl (by simp[hlt])) [some (.val (.int n)),some (.val (.int n)),some (.val (.int (Int.fdiv (n+1) 2)))] ⟨n,_,rfl,acF h0⟩
 have hle:¬m<r:=by
  intro hlt
  simp[hlt]at hout
 have hx:exs (cfX fns sub0 k) avh (aaC aur [.val (.int n)]) s=.ret (.val (.int (aaw n))) s:=by
  refine(aaa (σ1:=[some (.val (.int n)),some (.val (.int n)),none]) (s1:=s) (by simp)).trans ?_
  refine(aaa (σ1:=[some (.val (.int n)),some (.val (.int n)),some (.val (.int (Int.fdiv (n+1) 2)))]) (s1:=s) (by simp[aaH])).trans ?_
  refine(aaa (σ1:=[some (.val (.int n)),some (.val (.int r)),some (.val (.int m))]) (s1:=s) ?_).trans ?_
  ·rw[ani]
   exact e
  rw[←anb hI hle]
  simp
 rw[hx]
 rfl
end Pg
end IP
end
noncomputable section
namespace IP
namespace Pg
open L2 SegM
def fu(u v:Int)(p:Int×Int):Int:=p.1*u+p.2*v
def aju(p q r:Int×Int):Prop:=∃u v,(fu u v p≤fu u v q∧fu u v q<fu u v r)∨(fu u v r≤fu u v q∧fu u v q<fu u v p)
def ag8(p q r t:Int×Int):Prop:=∃u v,aaS (fu u v p) (fu u v q) (fu u v r) (fu u v t)
theorem aju.symm{p q r:Int×Int}(h:aju p q r):aju r q p:=by
 obtain⟨u,v,h⟩:=h
 exact⟨u,v,h.symm⟩
theorem apS(u v:Int)(p:Int×Int):fu (-u) (-v) p=-fu u v p:=by unfold fu;grind
theorem ag8.swap{p q r t:Int×Int}(h:ag8 p q r t):ag8 r t p q:=by
 obtain⟨u,v,h⟩:=h
 refine⟨-u,-v,?_⟩
 simp only[apS]
 unfold aaS at h ⊢
 omega
theorem ag8.flip{p q r t:Int×Int}(h:ag8 p q r t):ag8 q p t r:=by
 obtain⟨u,v,h⟩:=h
 refine⟨u,v,?_⟩
 unfold aaS at h ⊢
 omega
theorem aoj{p q r t:Int×Int}(h:ag8 p q r t):abZ p q r t=false:=by
 obtain⟨u,v,h⟩:=h
 cases hb:abZ p q r t with
 | false=>rfl
 | true=>
  exfalso
  simp only[abZ,abS,ax,Bool.and_eq_true,decide_eq_true_eq,Bool.false_eq_true,if_false,if_true]at hb
  obtain⟨⟨⟨⟨a1,a2⟩,a3,a4⟩,a5⟩,a6⟩:=hb
  have hc:aem p.1 p.2 q.1 q.2 r.1 r.2 t.1 t.2:=⟨⟨a1,a2⟩,⟨a3,a4⟩,a5,a6⟩
  exact agB hc u v (.inl h)
theorem aiE{p q r:Int×Int}(h:aju p q r):aaK q p r=false:=by
 obtain⟨u,v,h⟩:=h
 cases hb:aaK q p r with
 | false=>rfl
 | true=>
  exfalso
  simp only[aaK,Bool.and_eq_true,decide_eq_true_eq]at hb
  obtain⟨h1,h2⟩:=hb
  unfold ab9 at h1
  unfold adu at h2
  unfold fu at h
  generalize ea:p.1-q.1=a at *
  generalize eb:p.2-q.2=b at *
  generalize ec:r.1-q.1=c at *
  generalize ed:r.2-q.2=d at *
  have hp:p.1*u+p.2*v=q.1*u+q.2*v+(a*u+b*v):=by grind
  have hr:r.1*u+r.2*v=q.1*u+q.2*v+(c*u+d*v):=by grind
  rw[hp,hr]at h
  have e1:(a*c+b*d)*(a*u+b*v)=(a*a+b*b)*(c*u+d*v):=by grind
  have na:0<a*a+b*b:=by
   apply WayM.sq_pos_of
   rintro⟨rfl,rfl⟩
   omega
  rcases h with⟨x,y⟩|⟨x,y⟩
  ·have z1:=Int.mul_pos na (show 0<c*u+d*v by omega)
   have z2:=Int.mul_nonneg (show 0≤a*c+b*d by omega) (show 0≤-(a*u+b*v)by omega)
   have z3:(a*c+b*d)*-(a*u+b*v)=-((a*c+b*d)*(a*u+b*v)):=by grind
   omega
  ·have z1:=Int.mul_pos h2 (show 0<a*u+b*v by omega)
   have z2:=Int.mul_nonneg (show 0≤a*a+b*b by omega) (show 0≤-(c*u+d*v)by omega)
   have z3:(a*a+b*b)*-(c*u+d*v)=-((a*a+b*b)*(c*u+d*v)):=by grind
   omega
def sm(f:Nat→Int):Nat→Int
 | 0=>0
 | m+1=>sm f m+f m
theorem abn{f g:Nat→Int}:∀m,(∀i,i<m→f i=g i)→sm f m=sm g m
 | 0,_=>rfl
 | m+1,h=>by
  unfold sm
  rw[abn m fun i hi=>h i (by omega),h m (by omega)]
theorem adW(f:Nat→Int):∀m,sm f (m+1)=f 0+sm (fun i=>f (i+1)) m
 | 0=>by simp[sm]
 | m+1=>by
  have:=adW f m
  have e1:sm f (m+1+1)=sm f (m+1)+f (m+1):=rfl
  have e2:sm (fun i=>f (i+1)) (m+1)=sm (fun i=>f (i+1)) m+f (m+1):=rfl
  omega
theorem alx(f:Nat→Int):∀m,sm (fun i=>f (m-1-i)) m=sm f m
 | 0=>rfl
 | m+1=>by
  rw[adW]
  have e:=alx f m
  have e2:sm (fun i=>f (m+1-1-(i+1))) m=sm (fun i=>f (m-1-i)) m:=abn m fun i hi=>by
   show f (m+1-1-(i+1))=f (m-1-i)
   rw[show m+1-1-(i+1)=m-1-i by omega]
  rw[e2,e]
  show f (m+1-1-0)+sm f m=sm f m+f m
  rw[show m+1-1-0=m by omega]
  omega
theorem akT(f:Nat→Int):∀m,sm (fun i=>-f i) m=-sm f m
 | 0=>rfl
 | m+1=>by
  have:=akT f m
  show sm (fun i=>-f i) m+-f m=-(sm f m+f m)
  omega
theorem aij{f:Nat→Int}{n:Nat}(hp:∀i,f (i+n)=f i):sm (fun i=>f (i+1)) n=sm f n:=by
 have h:=adW f n
 have h2:sm f (n+1)=sm f n+f n:=rfl
 have h3:=hp 0
 rw[Nat.zero_add]at h3
 omega
theorem adF{f:Nat→Int}{n:Nat}(hp:∀i,f (i+n)=f i):∀m,sm (fun i=>f (i+m)) n=sm f n
 | 0=>rfl
 | m+1=>by
  have h:=aij (f:=fun i=>f (i+m)) (n:=n) (fun i=>by
   show f (i+n+m)=f (i+m)
   rw[show i+n+m=i+m+n by omega,hp])
  rw[←adF hp m,←h]
  exact abn n fun i _=>by
   show f (i+(m+1))=f (i+1+m)
   rw[show i+(m+1)=i+1+m by omega]
def crs(p q:Int×Int):Int:=p.1*q.2-p.2*q.1
theorem amr(p q:Int×Int):crs q p=-crs p q:=by unfold crs;grind
def abL(Q:Nat→Int×Int)(n:Nat):Int:=sm (fun i=>crs (Q i) (Q (i+1))) n
structure NC(n:Nat)(Q:Nat→Int×Int):Prop where
 n3:3≤n
 per:∀i,Q (i+n)=Q i
 c0:∀i,Q i≠Q (i+1)
 c1:∀i,aju (Q i) (Q (i+1)) (Q (i+2))
 c2:∀i j,i+1<j→j+1<i+n→ag8 (Q i) (Q (i+1)) (Q j) (Q (j+1))
 ar:abL Q n≠0
section
variable{n:Nat}{Q:Nat→Int×Int}(N:NC n Q)
include N
theorem NC.perm(d i:Nat):Q (i+d*n)=Q i:=by
 induction d with
 | zero=>simp
 | succ d ih=>rw[show i+(d+1)*n=i+d*n+n by rw[Nat.add_mul];omega,N.per,ih]
theorem NC.rot(m:Nat):NC n (fun i=>Q (i+m)):=by
 refine⟨N.n3,fun i=>?_,fun i=>?_,fun i=>?_,fun i j h1 h2=>?_,?_⟩
 ·show Q (i+n+m)=Q (i+m)
  rw[show i+n+m=i+m+n by omega,N.per]
 ·have:=N.c0 (i+m)
  show Q (i+m)≠Q (i+1+m)
  rw[show i+1+m=i+m+1 by omega];exact this
 ·have:=N.c1 (i+m)
  show aju (Q (i+m)) (Q (i+1+m)) (Q (i+2+m))
  rw[show i+1+m=i+m+1 by omega,show i+2+m=i+m+2 by omega];exact this
 ·have:=N.c2 (i+m) (j+m) (by omega) (by omega)
  show ag8 (Q (i+m)) (Q (i+1+m)) (Q (j+m)) (Q (j+1+m))
  rw[show i+1+m=i+m+1 by omega,show j+1+m=j+m+1 by omega];exact this
 ·have h:=adF (f:=fun i=>crs (Q i) (Q (i+1))) (n:=n) (fun i=>by
   show crs (Q (i+n)) (Q (i+n+1))=crs (Q i) (Q (i+1))
   rw[N.per,show i+n+1=i+1+n by omega,N.per]) m
  have e:abL (fun i=>Q (i+m)) n=abL Q n:=by
   unfold abL
   rw[←h]
   exact abn n fun i _=>by
    show crs (Q (i+m)) (Q (i+1+m))=crs (Q (i+m)) (Q (i+m+1))
    rw[show i+1+m=i+m+1 by omega]
  rw[e];exact N.ar
theorem NC.rev_at{i a t:Nat}(h:a+i+1=t*n):Q (n-1-i % n)=Q a:=by
 have n3:=N.n3
 have hi:=Nat.mod_lt i (show 0<n by omega)
 have e:=Nat.mod_add_div i n
 have e2:a+i % n+1+n*(i / n)=t*n:=by omega
 have ha:a=n-1-i % n+(t-1-i / n)*n:=by
  have h1:i / n+1≤t:=by
   apply Nat.lt_of_not_le
   intro h
   have:=Nat.mul_le_mul_right n h
   rw[Nat.mul_comm (i / n) n]at this
   omega
  have h2:t*n=(t-1-i / n)*n+n+n*(i / n):=by
   have:t=(t-1-i / n)+1+i / n:=by omega
   conv=>lhs;rw[this]
   rw[Nat.add_mul,Nat.add_mul,Nat.one_mul,Nat.mul_comm (i / n) n]
  omega
 rw[ha,N.perm]
theorem NC.rev:NC n (fun i=>Q (n-1-i % n)):=by
 have n3:=N.n3
 have mm:∀t,t*(n-1)+t=t*n:=fun t=>by
  have:n=n-1+1:=by omega
  conv=>rhs;rw[this]
  rw[Nat.mul_add,Nat.mul_one]
 refine⟨n3,fun i=>?_,fun i=>?_,fun i=>?_,fun i j h1 h2=>?_,?_⟩
 ·show Q (n-1-(i+n) % n)=Q (n-1-i % n)
  rw[Nat.add_mod_right]
 ·have m:=mm (i+2)
  show Q (n-1-i % n)≠Q (n-1-(i+1) % n)
  rw[N.rev_at (i:=i+1) (a:=(i+2)*(n-1)) (t:=i+2) (by omega),N.rev_at (i:=i) (a:=(i+2)*(n-1)+1) (t:=i+2) (by omega)]
  exact fun h=>N.c0 _ h.symm
 ·have m:=mm (i+3)
  show aju (Q (n-1-i % n)) (Q (n-1-(i+1) % n)) (Q (n-1-(i+2) % n))
  rw[N.rev_at (i:=i+2) (a:=(i+3)*(n-1)) (t:=i+3) (by omega),N.rev_at (i:=i+1) (a:=(i+3)*(n-1)+1) (t:=i+3) (by omega),N.rev_at (i:=i) (a:=(i+3)*(n-1)+2) (t:=i+3) (by omega)]
  exact(N.c1 _).symm
 ·have m:=mm (j+2)
  show ag8 (Q (n-1-i % n)) (Q (n-1-(i+1) % n)) (Q (n-1-j % n)) (Q (n-1-(j+1) % n))
  rw[N.rev_at (i:=j+1) (a:=(j+2)*(n-1)) (t:=j+2) (by omega),N.rev_at (i:=j) (a:=(j+2)*(n-1)+1) (t:=j+2) (by omega),N.rev_at (i:=i+1) (a:=(j+2)*(n-1)+(j-i)) (t:=j+2) (by omega),N.rev_at (i:=i) (a:=(j+2)*(n-1)+(j-i)+1) (t:=j+2) (by omega)]
  exact(N.c2 _ _ (by omega) (by omega)).swap.flip
 ·have hp:∀i,crs (Q (i+n)) (Q (i+n+1))=crs (Q i) (Q (i+1)):=fun i=>by
   rw[N.per,show i+n+1=i+1+n by omega,N.per]
  have h1:=alx (fun i=>crs (Q (i+(n-1))) (Q (i+(n-1)+1))) n
  have h2:=adF (f:=fun i=>crs (Q i) (Q (i+1))) (n:=n) hp (n-1)
  have e:abL (fun i=>Q (n-1-i % n)) n=-abL Q n:=by
   unfold abL
   rw[←h2]
   show _=-sm (fun i=>crs (Q (i+(n-1))) (Q (i+(n-1)+1))) n
   rw[←h1,←akT]
   refine abn n fun i hi=>?_
   show crs (Q (n-1-i % n)) (Q (n-1-(i+1) % n))=-crs (Q (n-1-i+(n-1))) (Q (n-1-i+(n-1)+1))
   rw[←amr,N.rev_at (i:=i) (a:=n-1-i+(n-1)+1) (t:=2) (by omega),N.rev_at (i:=i+1) (a:=n-1-i+(n-1)) (t:=2) (by omega)]
  rw[e]
  have:=N.ar
  omega
end
end Pg
end IP
end
noncomputable section
namespace IP
namespace Pg
open L2 SegM
variable{k:Nat}{s:Sto}{l:List (Int×Int)}
structure Keeps(g:Int×Int→Int×Int):Prop where
 f:∀u v:Int,∃u' v' c:Int,∀p,fu u' v' (g p)=fu u v p+c
theorem Keeps.cor{g:Int×Int→Int×Int}(K:Keeps g){p q r:Int×Int}(h:aju p q r):aju (g p) (g q) (g r):=by
 obtain⟨u,v,h⟩:=h
 obtain⟨u',v',c,e⟩:=K.f u v
 refine⟨u',v',?_⟩
 rw[e,e,e]
 omega
theorem Keeps.sep{g:Int×Int→Int×Int}(K:Keeps g){p q r t:Int×Int}(h:ag8 p q r t):ag8 (g p) (g q) (g r) (g t):=by
 obtain⟨u,v,h⟩:=h
 obtain⟨u',v',c,e⟩:=K.f u v
 refine⟨u',v',?_⟩
 rw[e,e,e,e]
 unfold aaS at h ⊢
 omega
theorem Keeps.inj{g:Int×Int→Int×Int}(K:Keeps g){p q:Int×Int}(h:g p=g q):p=q:=by
 obtain⟨u',v',c,e⟩:=K.f 1 0
 obtain⟨u2,v2,c2,e2⟩:=K.f 0 1
 have a:=e p
 have b:=e q
 have a2:=e2 p
 have b2:=e2 q
 rw[h]at a a2
 simp only[fu,Int.mul_one,Int.mul_zero,Int.add_zero,Int.zero_add]at a b a2 b2
 exact Prod.ext (by omega) (by omega)
theorem NC.map{n:Nat}{Q:Nat→Int×Int}(N:NC n Q){g:Int×Int→Int×Int}(K:Keeps g)(ha:abL (fun i=>g (Q i)) n=abL Q n):NC n (fun i=>g (Q i)):=by
 refine⟨N.n3,fun i=>?_,fun i h=>N.c0 i (K.inj h),fun i=>K.cor (N.c1 i),fun i j h1 h2=>K.sep (N.c2 i j h1 h2),by rw[ha];exact N.ar⟩
 show g (Q (i+n))=g (Q i)
 rw[N.per]
def lean(L:Int)(p:Int×Int):Int×Int:=(p.1+L*p.2,p.2)
def quart(p:Int×Int):Int×Int:=(0-p.2,p.1)
def shf(x y:Int)(p:Int×Int):Int×Int:=(p.1+x,p.2+y)
theorem ahm(L:Int):Keeps (lean L):=⟨fun u v=>⟨u,v-L*u,0,fun p=>by unfold fu lean;dsimp only;grind⟩⟩
theorem afj:Keeps quart:=⟨fun u v=>⟨-v,u,0,fun p=>by unfold fu quart;dsimp only;grind⟩⟩
theorem aio(x y:Int):Keeps (shf x y):=⟨fun u v=>⟨u,v,x*u+y*v,fun p=>by unfold fu shf;dsimp only;grind⟩⟩
section
variable{n:Nat}{Q:Nat→Int×Int}(N:NC n Q)
include N
theorem NC.lean(L:Int):NC n (fun i=>lean L (Q i)):=N.map (ahm L) (abn n fun i _=>by
 show crs (Pg.lean L (Q i)) (Pg.lean L (Q (i+1)))=_
 unfold crs Pg.lean;dsimp only;grind)
theorem NC.quart:NC n (fun i=>quart (Q i)):=N.map afj (abn n fun i _=>by
 show crs (Pg.quart (Q i)) (Pg.quart (Q (i+1)))=_
 unfold crs Pg.quart;dsimp only;grind)
theorem afU(x y:Int):∀m,abL (fun i=>shf x y (Q i)) m=abL Q m+(x*((Q m).2-(Q 0).2)-y*((Q m).1-(Q 0).1))
 | 0=>by simp[abL,sm]
 | m+1=>by
  have ih:=afU x y m
  have e1:abL (fun i=>shf x y (Q i)) (m+1)=abL (fun i=>shf x y (Q i)) m+crs (shf x y (Q m)) (shf x y (Q (m+1))):=rfl
  have e2:abL Q (m+1)=abL Q m+crs (Q m) (Q (m+1)):=rfl
  rw[e1,e2,ih]
  unfold crs shf;dsimp only;grind
theorem NC.shf(x y:Int):NC n (fun i=>shf x y (Q i)):=N.map (aio x y) (by
 rw[afU N x y n]
 have e:=N.per 0
 rw[Nat.zero_add]at e
 rw[e]
 simp)
end
theorem NC.free{n:Nat}(N:NC n (cor l))(hn:l.length=n){i j:Nat}(hij:i≤j)(hj:j<n):abM l i j=false:=by
 have n3:=N.n3
 unfold abM
 by_cases c1:i=j
 ·rw[if_pos c1]
  have:=N.c0 i
  simp[this]
 ·rw[if_neg c1]
  by_cases c2:j=i+1
  ·rw[if_pos c2]
   subst c2
   exact aiE (N.c1 i)
  ·rw[if_neg c2]
   by_cases c3:j+1=l.length∧i=0
   ·rw[if_pos c3]
    obtain⟨c3,rfl⟩:=c3
    have h:=N.c1 j
    have e0:cor l (j+1)=cor l 0:=by have:=N.per 0;rw[show 0+n=j+1 by omega]at this;exact this
    have e1:cor l (j+2)=cor l (0+1):=by have:=N.per 1;rw[show 1+n=j+2 by omega]at this;exact this
    rw[e0,e1]at h
    exact aiE h.symm
   ·rw[if_neg c3]
    exact aoj (N.c2 i j (by omega) (by omega))
theorem ac7{m:Nat}(h:m<l.length):aaQ (LN l) ((m:Int)-1)=some (pt (cor l (m+l.length-1))):=by
 have hg:=abl (l:=l) (by omega) (m+l.length-1)
 cases m with
 | zero=>
  have e:(0+l.length-1) % l.length=l.length-1:=by rw[Nat.zero_add];exact Nat.mod_eq_of_lt (by omega)
  rw[e]at hg
  show L2.atI (l.map pt) ((0:Int)-1)=_
  unfold L2.atI L2.ixN
  simp only[List.length_map]
  rw[if_neg (by omega),if_pos (by omega)]
  rw[show((0:Int)-1+(l.length:Int)).toNat=l.length-1 by omega]
  exact hg
 | succ m=>
  have e:(m+1+l.length-1) % l.length=m:=by
   rw[show m+1+l.length-1=m+l.length by omega,Nat.add_mod_right]
   exact Nat.mod_eq_of_lt (by omega)
  rw[e]at hg
  rw[show(((m+1:Nat):Int)-1)=(m:Int)by omega]
  exact aaU hg
def dsum(l:List (Int×Int)):Nat→Int
 | 0=>0
 | m+1=>dsum l m+(cor l (m+l.length-1)).1*(cor l m).2-(cor l (m+l.length-1)).2*(cor l m).1
theorem NC.dsum{n:Nat}(N:NC n (cor l))(hn:l.length=n):dsum l l.length≠0:=by
 have n3:=N.n3
 have h:=(N.rot (n-1)).ar
 have e:∀m,Pg.dsum l m=abL (fun i=>cor l (i+(n-1))) m:=fun m=>by
  induction m with
  | zero=>rfl
  | succ m ih=>
   have e1:abL (fun i=>cor l (i+(n-1))) (m+1)=abL (fun i=>cor l (i+(n-1))) m+crs (cor l (m+(n-1))) (cor l (m+1+(n-1))):=rfl
   rw[e1,←ih,show m+1+(n-1)=m+n by omega,N.per]
   show Pg.dsum l m+(cor l (m+l.length-1)).1*(cor l m).2-(cor l (m+l.length-1)).2*(cor l m).1=_
   rw[show m+l.length-1=m+(n-1)by omega]
   unfold crs
   omega
 rw[hn,e];exact h
theorem aqR:∀(ts:List T) (n i:Nat),(enT n ts)[i]?=ts[i]?.map fun t=>T.tup [.int ((n+i:Nat):Int),t]:=afu
theorem agJ(hl:∀p∈l,sml p)(h0:0<l.length):run true fns sub0 aac (k+1) 14 [LN l] s=.ok (.val (.bl (decide (0<dsum l l.length)))) s:=by
 rw[aad (F:=asS) rfl rfl]
 obtain⟨σ',e,c2,c3,c4,rfl⟩:=aaJ (g:=.many [2,3]) (body:=fun σ s=>exs (cfX fns sub0 k) aji σ s) (s:=s) (fun m σ=>∃c2 c3 c4,σ=[some (.val (.lst (l.map pt))),some (.val (.int (dsum l m))),c2,c3,c4]) (enT 0 (l.map pt)) 0 [some (.val (.lst (l.map pt))),some (.val (.int 0)),none,none,none] ⟨_,_,_,rfl⟩ (by
   rintro m t σ hm ⟨c2,c3,c4,rfl⟩
   rw[aqR,Nat.zero_add]at hm
   have hlt:m<l.length:=by
    cases e:(l.map pt)[m]? with
    | none=>rw[e]at hm;cases hm
    | some u=>have:=(List.getElem?_eq_some_iff.mp e).1;simpa using this
   have hg:=abl (l:=l) h0 m
   rw[Nat.mod_eq_of_lt hlt]at hg
   rw[hg]at hm
   cases hm
   have hp:=ac7 hlt
   have sp:=aaD hl (m+l.length-1)
   have m1:=aag (i:=(cor l (m+l.length-1)).1) (j:=(cor l m).2) (aab (by have:=sp.1;omega))
   have m2:=aag (i:=(cor l (m+l.length-1)).2) (j:=(cor l m).1) (aab (by have:=sp.2;omega))
   refine⟨[some (.val (.lst (l.map pt))),some (.val (.int (dsum l m))),some (.val (.int m)),some (.val (pt (cor l m))),c4],[some (.val (.lst (l.map pt))),some (.val (.int (dsum l (m+1)))),some (.val (.int m)),some (.val (pt (cor l m))),some (.val (pt (cor l (m+l.length-1))))],?_,?_,_,_,_,by rw[Nat.zero_add]⟩
   ·simp[aal,puts]
   ·simp[hp,m1,m2,dsum])
 rw[adT,List.length_map,Nat.zero_add]at e
 have hx:exs (cfX fns sub0 k) avQ (aaC asS [LN l]) s=.ret (.val (.bl (decide (0<dsum l l.length)))) s:=by
  refine(aaa (σ1:=[some (.val (.lst (l.map pt))),some (.val (.int 0)),none,none,none]) (s1:=s) (by simp)).trans ?_
  refine(aaa ((aaV (ts:=enT 0 (l.map pt)) (s1:=s) (by simp) (by intro _ h;cases h)).trans e)).trans ?_
  simp
 rw[hx]
 rfl
end Pg
end IP
end
noncomputable section
namespace IP
namespace Pg
open L2 M3
variable{k:Nat}{s:Sto}{l:List (Int×Int)}
@[simp] theorem auJ (b:Bool):asB (.val (.bl b))=some b:=rfl
theorem agu{C:Cf}{c:E}{b:List S}{σ:Fr}{s:Sto}(hw:C.wl=aac):ex C (.whl c b) σ s=aac (fun σ s=>(ev C c .t σ s).bind fun x s1=>.of (asB x) s1) (fun σ s=>exs C b σ s) σ s:=by
 rw[show ex C (.whl c b) σ s=C.wl (fun σ s=>(ev C c .t σ s).bind fun x s1=>.of (match x with | .val (.bl k)=>some k | _=>none) s1) (fun σ s=>exs C b σ s) σ s from rfl,hw]
 rfl
theorem amk(C:Cf):∀(n m:Nat) (c:Option B),∃c',aac (fun σ s=>(ev C (.cmp .ne (.var 1) (.cst (.int 0))) .t σ s).bind fun x s1=>.of (asB x) s1) (fun σ s=>exs C adM σ s)
   [some (.val (.int m)),some (.val (.int n)),c] s=.next [some (.val (.int (Nat.gcd m n))),some (.val (.int 0)),c'] s:=by
 intro n
 induction n using Nat.strongRecOn with
 | _ n ih=>
  intro m c
  rw[aes]
  by_cases h:n=0
  ·subst h
   exact⟨c,by simp⟩
  ·have hn:0<n:=by omega
   have hd:=aay (i:=(m:Int)) (j:=(n:Int)) (by omega)
   rw[acC]at hd
   obtain⟨c',e⟩:=ih (m % n) (Nat.mod_lt _ hn) n (some (.val (.int ((m % n:Nat):Int))))
   refine⟨c',?_⟩
   rw[show Nat.gcd m n=Nat.gcd n (m % n)by rw[Nat.gcd_comm m n,Nat.gcd_rec n m,Nat.gcd_comm]]
   have h0:((n:Int)==0)=false:=by simp;omega
   have hc:(ev C (.cmp .ne (.var 1) (.cst (.int 0))) .t [some (.val (.int m)),some (.val (.int n)),c] s).bind (fun x s1=>Res.of (asB x) s1)=.ok true s:=by simp[h0]
   have hb:exs C adM [some (.val (.int m)),some (.val (.int n)),c] s=.next [some (.val (.int n)),some (.val (.int ((m % n:Nat):Int))),some (.val (.int ((m % n:Nat):Int)))] s:=by
    generalize ((m % n:Nat):Int)=z at hd ⊢
    simp[hd]
   rw[hc]
   show(exs C adM [some (.val (.int m)),some (.val (.int n)),c] s).bind _=_
   rw[hb]
   exact e
theorem avw(m n:Nat):run true fns sub0 aac (k+1) arD [.val (.int m),.val (.int n)] s=.ok (.val (.int (Nat.gcd m n))) s:=by
 rw[aad (F:=aun) rfl rfl]
 obtain⟨c',e⟩:=amk (s:=s) (cfX fns sub0 k) n m none
 have hx:exs (cfX fns sub0 k) awn (aaC aun [.val (.int m),.val (.int n)]) s=.ret (.val (.int (Nat.gcd m n))) s:=by
  refine(aaa ((agu rfl).trans e)).trans ?_
  simp
 rw[hx]
 rfl
theorem ab(a:Int):(if a<0 then -a else a)=(a.natAbs:Int):=by split<;>omega
theorem acP{α:Type}{q:Nat→Option α}:∀(m n:Nat),(∀i,n≤i→i<n+m→q i=none)→abz q n m=none
 | 0,_,_=>rfl
 | m+1,n,h=>by
  unfold abz
  rw[h n (Nat.le_refl _) (by omega)]
  exact acP m (n+1) fun i h1 h2=>h i (by omega) (by omega)
theorem arM{p:Nat→Nat→Bool}{n:Nat}(h:∀i j,i≤j→j<n→p i j=false):fp p n=.val .non:=by
 unfold fp
 rw[acP n 0 fun i _ hi=>?_]
 ·rfl
 unfold qi
 refine acP _ _ fun j h1 h2=>?_
 unfold qj
 rw[h i j h1 (by omega)]
 rfl
theorem ahe(n:Nat):aai 0 (n:Int)=(List.range n).map fun k:Nat=>T.int k:=by
 unfold aai
 simp
theorem ahw{f:Nat→Int×Int}{n:Nat}(h:0<n)(i:Nat):cor ((List.range n).map f) i=f (i % n):=by
 have:=Nat.mod_lt i h
 unfold cor
 simp[this]
theorem aa3{m n f:Nat}{rs:List R}{s:Sto}{r:Res R}(h:run true fns sub0 aac n f rs s=r)(e:n=m):(cfX fns sub0 m).cf f rs s=r:=by
 subst e
 exact h
abbrev LN'(l:List (Int×Int)):B:=.val (.lst (l.map pt))
theorem afi{C:Cf}{n:Nat}(h0:0<n)(hn:l.length=n)(h1000:n≤1000){b:Int}{lw:Bool}{v:Nat→Int×Int}{d:Nat→T}(e1:C.cf 0 [LN l] s=.ok (.val .non) s)(e2:C.cf 14 [LN l] s=.ok (.val (.bl lw)) s)
  (e3:∀i:Nat,i<n→C.cf 15 [LN l,.val (.int i),.val (.bl lw)] s=.ok (PT (v i)) s) (e4:∀i:Nat,i<n→C.cf 16 [PT (cor l i),PT (v ((i+n-1) % n)),PT (v i),.val (.int b)] s=.ok (.val (d i)) s):
  exs C ar0 [some (.val (.lst (l.map pt))),some (.val (.int b)),none,none,none,none] s=.ret (.val (.lst ((List.range n).map d))) s:=by
 have hlen:∀σ:Fr,σ[0]?=some (some (.val (.lst (l.map pt))))→ev C (.rng1 (.b1 .len (.var 0))) .i σ s=.ok (.val (.lst ((List.range n).map fun k:Nat=>T.int k))) s:=fun σ h0=>by
  rw[←ahe]
  exact afX (n:=n) (by simp[look,h0,hn]) h1000
 have c0:ev C (.comp aik (.one 4) (.rng1 (.b1 .len (.var 0)))) .v [some (.val (.lst (l.map pt))),some (.val (.int b)),some (.val (.bl lw)),none,none,none] s=.ok (.val (.lst ((List.range n).map fun i=>pt (v i)))) s:=by
  refine aaz (i:=4) (List.range n) (fun k:Nat=>T.int k) (fun i=>pt (v i)) (hlen _ rfl) (fun i hi=>?_)
  have e:=e3 i (List.mem_range.mp hi)
  simp[e]
 have c1:ev C (.comp ahv (.one 5) (.rng1 (.b1 .len (.var 0)))) .v [some (.val (.lst (l.map pt))),some (.val (.int b)),some (.val (.bl lw)),some (LN' ((List.range n).map v)),none,none] s=.ok (.val (.lst ((List.range n).map d))) s:=by
  refine aaz (i:=5) (List.range n) (fun k:Nat=>T.int k) d (hlen _ rfl) (fun i hi=>?_)
  have hi:=List.mem_range.mp hi
  have g1:=aaU (abl (l:=l) (by omega) i)
  rw[hn,Nat.mod_eq_of_lt hi]at g1
  have g2:=ac7 (l:=(List.range n).map v) (m:=i) (by simp;exact hi)
  have g3:=aaU (abl (l:=(List.range n).map v) (by simp;omega) i)
  simp only[List.length_map,List.length_range]at g2 g3
  rw[ahw h0]at g2 g3
  rw[Nat.mod_eq_of_lt hi]at g3
  have e:=e4 i hi
  generalize (List.range n).map v=L at g2 g3 ⊢
  simp[g1,g2,g3,e,LN']
 refine(aaa (σ1:=[some (.val (.lst (l.map pt))),some (.val (.int b)),none,none,none,none]) (s1:=s) (by simp[e1,R.isNon])).trans ?_
 refine(aaa (σ1:=[some (.val (.lst (l.map pt))),some (.val (.int b)),some (.val (.bl lw)),none,none,none]) (s1:=s) (by simp[e2])).trans ?_
 refine(aaa (σ1:=[some (.val (.lst (l.map pt))),some (.val (.int b)),some (.val (.bl lw)),some (LN' ((List.range n).map v)),none,none]) (s1:=s) ((act c0).trans (by simp[LN',Function.comp_def]))).trans ?_
 exact abw (aev c1)
theorem afD:(2:Nat)^400<big:=by unfold big;decide +kernel
theorem ab7{i j:Int}(h:0<j)(hb:j.natAbs<2^400):opR .fdiv (.val (.int i)) (.val (.int j))=some (.val (.int (Int.fdiv i j))):=by
 have:j.natAbs<big:=Nat.lt_trans hb afD
 simp[opR,opI,show j≠0 by omega,this]
def gdZ(a b:Int):Int:=(Nat.gcd a.natAbs b.natAbs:Nat)
def loP(A W:Int):Int×Int:=(Int.fdiv A (gdZ A W),Int.fdiv W (gdZ A W))
theorem ajd{A W:Int}(h:W≠0):0<gdZ A W:=by
 unfold gdZ
 have:Nat.gcd A.natAbs W.natAbs≠0:=fun z=>by
  have:=Nat.gcd_eq_zero_iff.mp z
  omega
 omega
theorem apJ{A W:Int}(h:0<W):gdZ A W≤W:=by
 unfold gdZ
 have:=Nat.gcd_le_right A.natAbs (show 0<W.natAbs by omega)
 omega
structure Lo(A W:Int)(q:Int×Int):Prop where
 pos:0<q.2
 cop:Nat.gcd q.1.natAbs q.2.natAbs=1
 e:q.1*W=A*q.2
theorem aqm{A W:Int}(h:0<W):Lo A W (loP A W)∧(loP A W).2≤W:=by
 have g0:=ajd (A:=A) (W:=W) (by omega)
 obtain⟨i,j,e1,e2,c⟩:=WayM.low (p:=A) (q:=W) (g:=gdZ A W) rfl g0
 unfold loP
 generalize gdZ A W=g at *
 subst e1;subst e2
 have hj:0<j:=Int.pos_of_mul_pos_left (show 0<j*g by rw[Int.mul_comm];exact h) g0
 rw[Int.mul_fdiv_cancel_left i (by omega),Int.mul_fdiv_cancel_left j (by omega)]
 refine⟨⟨hj,c,?_⟩,?_⟩
 ·show i*(g*j)=g*i*j
  grind
 ·show j≤g*j
  have:=Int.mul_le_mul_of_nonneg_right (show 1≤g by omega) (show 0≤j by omega)
  omega
theorem akj{A W:Int}(h:0<W)(hw:W.natAbs<2^400):run true fns sub0 aac (k+2) axk [.val (.int A),.val (.int W)] s=.ok (PT (loP A W)) s:=by
 rw[aad (F:=awK) rfl rfl]
 have e:=avw (k:=k) (s:=s) A.natAbs W.natAbs
 rw[show((W.natAbs:Nat):Int)=W by omega]at e
 have g0:=ajd (A:=A) (W:=W) (by omega)
 have g1:=apJ (A:=A) h
 have q1:=ab7 (i:=A) (j:=gdZ A W) g0 (by omega)
 have q2:=ab7 (i:=W) (j:=gdZ A W) g0 (by omega)
 have e':run true fns sub0 aac (k+1) arD [.val (.int (A.natAbs:Int)),.val (.int W)] s=.ok (.val (.int (gdZ A W))) s:=e
 unfold loP
 generalize gdZ A W=g at *
 simp[auK,ab,e',q1,q2,pt]
def mvP(c part W:Int):Int×Int:=if W<0 then loP (c*(-W)+(-part)) (-W)else loP (c*W+part) W
theorem adJ{c part W:Int}(hc:c.natAbs<2^64)(h:W≠0)(hw:W.natAbs<2^400):run true fns sub0 aac (k+4) 21 [.val (.int c),.val (.int part),.val (.int W)] s=.ok (PT (mvP c part W)) s:=by
 have pos:∀(k:Nat) (part W:Int),0<W→W.natAbs<2^400→run true fns sub0 aac (k+3) 21 [.val (.int c),.val (.int part),.val (.int W)] s=.ok (PT (loP (c*W+part) W)) s:=fun k part W h hw=>by
  rw[aad (F:=asy) rfl rfl]
  have e:=akj (k:=k) (s:=s) (A:=c*W+part) (W:=W) h hw
  have q:=aag (i:=c) (j:=W) (aab hc)
  generalize loP (c*W+part) W=P at *
  generalize c*W=Z at *
  simp[arE,show ¬W<0 by omega,q,e]
 unfold mvP
 by_cases h0:W<0
 ·rw[if_pos h0,aad (F:=asy) rfl rfl]
  have e:=pos k (-part) (-W) (by omega) (by omega)
  generalize loP (c*-W+-part) (-W)=P at *
  simp[arE,h0,e]
 ·rw[if_neg h0]
  exact pos (k+1) part W (by omega) hw
def vs(v:Int×Int):Prop:=(v.1.natAbs≤2^17∧v.2.natAbs≤2^17)∧¬(v.1=0∧v.2=0)
def nN(v:Int×Int):Int:=v.1*v.1+v.2*v.2
def rN(v:Int×Int):Int:=aaw (1000000*nN v)
theorem alb{a:Int}(h:a.natAbs≤2^17):(a*a).natAbs≤2^34:=aaf (m:=2^17) (n:=2^17) h h
theorem akN{v:Int×Int}(h:vs v):0<nN v∧nN v≤2^35:=by
 refine⟨WayM.sq_pos_of h.2,?_⟩
 have h1:=alb h.1.1
 have h2:=alb h.1.2
 unfold nN
 omega
theorem acw{v:Int×Int}(h:vs v):0<rN v∧rN v<2^28:=by
 have b:=akN h
 unfold rN
 generalize nN v=n at *
 have h1:=agx (n:=1000000*n) (by omega)
 refine⟨by omega,?_⟩
 have h2:=acA (1000000*n) (by omega)
 exact ak3 (by omega) (show aaw (1000000*n)*aaw (1000000*n)<2^28*2^28 by omega (splitDisjunctions:=true)) (by decide)
theorem aiG{v:Int×Int}(h:vs v):run true fns sub0 aac (k+2) 19 [PT v] s=.ok (.val (.int (nN v))) s:=by
 rw[aad (F:=av2) rfl rfl]
 have hb:∀x:Int,x.natAbs≤2^17→opR .pow (.val (.int x)) (.val (.int 2))=some (.val (.int (x*x))):=fun x hx=>by
  have hb:x.natAbs<big:=Nat.lt_trans (show x.natAbs<2^64 by omega) akP
  have e:x^2=x*x:=by rw[Int.pow_succ,Int.pow_succ,Int.pow_zero,Int.one_mul]
  simp[opR,opI,hb,e]
 have e:run true fns sub0 aac (k+1) 9 [.val (.tup [.int 0,.int 0]),PT v] s=.ok (.val (.int (nN v))) s:=by
  rw[aad (F:=awp) rfl rfl]
  have h1:=hb v.1 h.1.1
  have h2:=hb v.2 h.1.2
  simp[au9,h1,h2,nN]
 simp[avq,e]
theorem aiz{v:Int×Int}(h:vs v):run true fns sub0 aac (k+3) 20 [PT v] s=.ok (.val (.int (rN v))) s:=by
 rw[aad (F:=avc) rfl rfl]
 have b:=akN h
 have e1:=aiG (k:=k) (s:=s) h
 have e2:=aeH (k:=k+1) (s:=s) (n:=1000000*nN v) (by omega) (by omega)
 have m:=aag (i:=1000000) (j:=nN v) (aab (by decide))
 unfold rN
 generalize nN v=n at *
 generalize 1000000*n=z at *
 simp[avr,e1,m,e2]
def arj(c v:Int×Int)(b:Int):T:=.tup [pt (mvP c.1 (1000*b*v.1) (rN v)),pt (mvP c.2 (1000*b*v.2) (rN v))]
theorem akx{c v:Int×Int}{b:Int}(hc:sml c)(h:vs v)(hb:0≤b∧b≤1000):run true fns sub0 aac (k+5) 17 [PT c,PT v,.val (.int b)] s=.ok (.val (arj c v b)) s:=by
 rw[aad (F:=av8) rfl rfl]
 have e1:=aiz (k:=k+1) (s:=s) h
 have u:=h.1
 have r:=acw h
 have q1:=aag (i:=1000) (j:=b) (aab (by decide))
 have q2:=aag (i:=1000*b) (j:=v.1) (aab (by omega))
 have q3:=aag (i:=1000*b) (j:=v.2) (aab (by omega))
 have e2:=adJ (k:=k) (s:=s) (c:=c.1) (part:=1000*b*v.1) (W:=rN v) (by have:=hc.1;omega) (by omega) (by omega)
 have e3:=adJ (k:=k) (s:=s) (c:=c.2) (part:=1000*b*v.2) (W:=rN v) (by have:=hc.2;omega) (by omega) (by omega)
 unfold arj
 generalize mvP c.1 (1000*b*v.1) (rN v)=P at *
 generalize mvP c.2 (1000*b*v.2) (rN v)=P2 at *
 generalize 1000*b*v.1=z1 at *
 generalize 1000*b*v.2=z2 at *
 generalize 1000*b=z at *
 generalize rN v=w at *
 simp[avZ,e1,q1,q2,q3,e2,e3]
def aaB(p v:Int×Int):Int:=p.1*v.2-p.2*v.1
def mb(p v:Int×Int)(b:Int):Int:=1000*b*nN p*rN v
def ait(c p v:Int×Int)(z b:Int):T:=.tup [pt (mvP c.1 (mb p v b*v.2-mb v p b*p.2) (z*rN p*rN v)),pt (mvP c.2 (mb v p b*p.1-mb p v b*v.1) (z*rN p*rN v))]
theorem al4{p v:Int×Int}(hp:vs p)(h:vs v):(aaB p v).natAbs≤2^35:=by
 have h1:=aaf hp.1.1 h.1.2
 have h2:=aaf hp.1.2 h.1.1
 unfold aaB
 omega
theorem avt{p v:Int×Int}(hp:vs p)(h:vs v)(hz:aaB p v≠0):aaB p v*rN p*rN v≠0∧(aaB p v*rN p*rN v).natAbs<2^400:=by
 have r:=acw h
 have r':=acw hp
 have z:=al4 hp h
 refine⟨Int.mul_ne_zero (Int.mul_ne_zero hz (by omega)) (by omega),?_⟩
 have h1:=aaf (a:=aaB p v) (b:=rN p) (m:=2^35) (n:=2^28) z (by omega)
 have h2:=aaf (a:=aaB p v*rN p) (b:=rN v) (m:=2^35*2^28) (n:=2^28) h1 (by omega)
 omega
theorem as7{c p v:Int×Int}{b:Int}(hc:sml c)(hp:vs p)(h:vs v)(hb:0≤b∧b≤1000)(hz:aaB p v≠0):run true fns sub0 aac (k+5) 18 [PT c,PT p,PT v,.val (.int (aaB p v)),.val (.int b)] s=.ok (.val (ait c p v (aaB p v) b)) s:=by
 rw[aad (F:=asm) rfl rfl]
 have e1:=aiz (k:=k+1) (s:=s) h
 have e1':=aiz (k:=k+1) (s:=s) hp
 have e4:=aiG (k:=k+2) (s:=s) h
 have e4':=aiG (k:=k+2) (s:=s) hp
 have r:=acw h
 have r':=acw hp
 have hW:=avt hp h hz
 have u:=h.1
 have u':=hp.1
 have q1:=aag (i:=1000) (j:=b) (aab (by decide))
 have q2:=aag (i:=1000*b) (j:=nN p) (aab (by omega))
 have q2':=aag (i:=1000*b) (j:=nN v) (aab (by omega))
 have q3:=aag (i:=1000*b*nN p) (j:=rN v) (aby (by omega))
 have q3':=aag (i:=1000*b*nN v) (j:=rN p) (aby (by omega))
 have y1:=aag (i:=mb p v b) (j:=v.2) (aby (by omega))
 have y2:=aag (i:=mb v p b) (j:=p.2) (aby (by omega))
 have y3:=aag (i:=mb v p b) (j:=p.1) (aby (by omega))
 have y4:=aag (i:=mb p v b) (j:=v.1) (aby (by omega))
 have q5:=aag (i:=aaB p v) (j:=rN p) (aby (by omega))
 have q6:=aag (i:=aaB p v*rN p) (j:=rN v) (aby (by omega))
 have e2:=adJ (k:=k) (s:=s) (c:=c.1) (part:=mb p v b*v.2-mb v p b*p.2) (W:=aaB p v*rN p*rN v) (by have:=hc.1;omega) hW.1 hW.2
 have e3:=adJ (k:=k) (s:=s) (c:=c.2) (part:=mb v p b*p.1-mb p v b*v.1) (W:=aaB p v*rN p*rN v) (by have:=hc.2;omega) hW.1 hW.2
 have hx:exs (cfX fns sub0 (k+4)) asI (aaC asm [PT c,PT p,PT v,.val (.int (aaB p v)),.val (.int b)]) s=.ret (.val (ait c p v (aaB p v) b)) s:=by
  unfold ait
  clear hW hz u u' r r'
  have m1:1000*b*nN p*rN v=mb p v b:=rfl
  have m2:1000*b*nN v*rN p=mb v p b:=rfl
  rw[m1]at q3
  rw[m2]at q3'
  clear m1 m2
  generalize mvP c.1 (mb p v b*v.2-mb v p b*p.2) (aaB p v*rN p*rN v)=P1 at *
  generalize mvP c.2 (mb v p b*p.1-mb p v b*v.1) (aaB p v*rN p*rN v)=P2 at *
  generalize aaB p v*rN p*rN v=W at *
  generalize aaB p v*rN p=W1 at *
  generalize aaB p v=Z at *
  generalize mb p v b*v.2=t1 at *
  generalize mb v p b*p.2=t2 at *
  generalize mb v p b*p.1=t3 at *
  generalize mb p v b*v.1=t4 at *
  generalize mb p v b=M1 at *
  generalize mb v p b=M2 at *
  generalize 1000*b*nN p=N1 at *
  generalize 1000*b*nN v=N2 at *
  generalize 1000*b=K at *
  generalize nN p=n1 at *
  generalize nN v=n2 at *
  generalize rN p=r1 at *
  generalize rN v=r2 at *
  simp[asI,e1,e1',e4,e4',q1,q2,q2',q3,q3',y1,y2,y3,y4,q5,q6,e2,e3]
 rw[hx]
 rfl
def akX(c p v:Int×Int)(b:Int):T:=if aaB p v=0 then arj c v b else ait c p v (aaB p v) b
theorem asu{c p v:Int×Int}{b:Int}(hc:sml c)(hp:vs p)(h:vs v)(hb:0≤b∧b≤1000):run true fns sub0 aac (k+6) 16 [PT c,PT p,PT v,.val (.int b)] s=.ok (.val (akX c p v b)) s:=by
 rw[aad (F:=awm) rfl rfl]
 have u':=hp.1
 have q1:=aag (i:=p.1) (j:=v.2) (aab (by omega))
 have q2:=aag (i:=p.2) (j:=v.1) (aab (by omega))
 have ec:p.1*v.2-p.2*v.1=aaB p v:=rfl
 unfold akX
 by_cases h0:aaB p v=0
 ·rw[if_pos h0]
  have e:=akx (k:=k) (s:=s) (c:=c) hc h hb
  rw[h0]at ec
  generalize p.1*v.2=z1 at *
  generalize p.2*v.1=z2 at *
  simp[arK,q1,q2,ec,e]
 ·rw[if_neg h0]
  have e:=as7 (k:=k) (s:=s) (c:=c) (b:=b) hc hp h hb h0
  generalize p.1*v.2=z1 at *
  generalize p.2*v.1=z2 at *
  generalize aaB p v=Z at *
  simp[arK,q1,q2,ec,e,h0]
def sm3(p:Int×Int):Prop:=p.1.natAbs≤2^16∧p.2.natAbs≤2^16
structure Fine(l:List (Int×Int)):Prop where
 n1000:l.length≤1000
 nc:NC l.length (cor l)
 sl:∀p∈l,sm3 p
theorem Fine.sml(F:Fine l):∀p∈l,sml p:=fun p hp=>by
 have:=F.sl p hp
 exact⟨by have:=this.1;omega,by have:=this.2;omega⟩
theorem Fine.s3(F:Fine l)(i:Nat):sm3 (cor l i):=by
 unfold cor
 rw[List.getD_eq_getElem?_getD]
 cases e:l[i % l.length]? with
 | none=>exact⟨by decide,by decide⟩
 | some p=>exact F.sl p (List.mem_of_getElem? e)
def dv(l:List (Int×Int))(i:Nat):Int×Int:=((cor l (i+1)).1-(cor l i).1,(cor l (i+1)).2-(cor l i).2)
def gv(l:List (Int×Int))(i:Nat):Int:=gdZ (dv l i).1 (dv l i).2
def pq(l:List (Int×Int))(i:Nat):Int×Int:=(Int.fdiv (dv l i).1 (gv l i),Int.fdiv (dv l i).2 (gv l i))
def ovL(lw:Bool)(v:Int×Int):Int×Int:=if lw then(v.2,-v.1)else(-v.2,v.1)
def lwB(l:List (Int×Int)):Bool:=decide (0<dsum l l.length)
def ov(l:List (Int×Int))(i:Nat):Int×Int:=ovL (lwB l) (pq l i)
theorem ad5{g i:Int}(h:0<g):i.natAbs≤(g*i).natAbs:=by
 rw[Int.natAbs_mul]
 have:1*i.natAbs≤g.natAbs*i.natAbs:=Nat.mul_le_mul_right _ (by omega)
 omega
section
variable(F:Fine l)
include F
theorem Fine.dv0(i:Nat):¬((dv l i).1=0∧(dv l i).2=0):=by
 rintro⟨h1,h2⟩
 apply F.nc.c0 i
 unfold dv at h1 h2
 exact Prod.ext (by omega) (by omega)
theorem Fine.gv0(i:Nat):0<gv l i:=by
 have h:=F.dv0 i
 unfold gv gdZ
 have:Nat.gcd (dv l i).1.natAbs (dv l i).2.natAbs≠0:=fun z=>by
  have:=Nat.gcd_eq_zero_iff.mp z
  omega
 omega
theorem Fine.pqs(i:Nat):(dv l i).1=gv l i*(pq l i).1∧(dv l i).2=gv l i*(pq l i).2∧Nat.Coprime (pq l i).1.natAbs (pq l i).2.natAbs:=by
 have g0:=F.gv0 i
 obtain⟨a,b,e1,e2,c⟩:=WayM.low (p:=(dv l i).1) (q:=(dv l i).2) (g:=gv l i) rfl g0
 unfold pq
 rw[e1,e2,Int.mul_fdiv_cancel_left a (by omega),Int.mul_fdiv_cancel_left b (by omega)]
 exact⟨rfl,rfl,c⟩
theorem Fine.dvs(i:Nat):(dv l i).1.natAbs≤2^17∧(dv l i).2.natAbs≤2^17:=by
 have h1:=F.s3 i
 have h2:=F.s3 (i+1)
 unfold sm3 at h1 h2
 unfold dv
 dsimp only
 omega
theorem Fine.gvs(i:Nat):(gv l i).natAbs<2^400:=by
 have h:=F.dvs i
 have h0:=F.dv0 i
 unfold gv gdZ
 by_cases h1:(dv l i).1=0
 ·have:=Nat.gcd_le_right (dv l i).1.natAbs (show 0<(dv l i).2.natAbs by omega)
  omega
 ·have:=Nat.gcd_le_left (dv l i).2.natAbs (show 0<(dv l i).1.natAbs by omega)
  omega
theorem Fine.vpq(i:Nat):vs (pq l i):=by
 obtain⟨e1,e2,c⟩:=F.pqs i
 have g0:=F.gv0 i
 have h:=F.dvs i
 have h0:=F.dv0 i
 have a1:=ad5 (i:=(pq l i).1) g0
 have a2:=ad5 (i:=(pq l i).2) g0
 rw[←e1]at a1
 rw[←e2]at a2
 refine⟨⟨by omega,by omega⟩,?_⟩
 rintro⟨z1,z2⟩
 rw[z1,Int.mul_zero]at e1
 rw[z2,Int.mul_zero]at e2
 exact h0 ⟨e1,e2⟩
theorem aq4{lw:Bool}{v:Int×Int}(h:vs v):vs (ovL lw v):=by
 obtain⟨⟨h1,h2⟩,h3⟩:=h
 unfold ovL vs
 cases lw
 ·simp only[Bool.false_eq_true,if_false]
  omega
 ·simp only[if_true]
  omega
theorem Fine.vov(i:Nat):vs (ov l i):=aq4 F (F.vpq i)
theorem Fine.outward{i:Nat}(hi:i<l.length){lw:Bool}:run true fns sub0 aac (k+2) 15 [LN l,.val (.int i),.val (.bl lw)] s=.ok (PT (ovL lw (pq l i))) s:=by
 rw[aad (F:=avS) rfl rfl]
 have e1:=aip (k:=k) (s:=s) hi
 have e2:=avw (k:=k) (s:=s) (dv l i).1.natAbs (dv l i).2.natAbs
 have e2':run true fns sub0 aac (k+1) arD [.val (.int ((dv l i).1.natAbs:Int)),.val (.int ((dv l i).2.natAbs:Int))] s=.ok (.val (.int (gv l i))) s:=e2
 have q1:=ab7 (i:=(dv l i).1) (j:=gv l i) (F.gv0 i) (F.gvs i)
 have q2:=ab7 (i:=(dv l i).2) (j:=gv l i) (F.gv0 i) (F.gvs i)
 have h1:(cor l (i+1)).1-(cor l i).1=(dv l i).1:=rfl
 have h2:(cor l (i+1)).2-(cor l i).2=(dv l i).2:=rfl
 unfold pq
 generalize cor l i=a at *
 generalize cor l (i+1)=b at *
 generalize gv l i=g at *
 generalize (dv l i).1=A at *
 generalize (dv l i).2=Z at *
 clear F e2
 unfold ovL
 cases lw
 ·simp[asM,e1,h1,h2,ab,e2',q1,q2,pt]
 ·simp[asM,e1,h1,h2,ab,e2',q1,q2,pt]
theorem aiC{lw:Bool}{a b:Int×Int}:aaB (ovL lw a) (ovL lw b)=aaB a b:=by
 unfold aaB ovL
 cases lw
 ·simp only[Bool.false_eq_true,if_false];grind
 ·simp only[if_true];grind
theorem Fine.same(i:Nat)(h:aaB (ov l i) (ov l (i+1))=0):pq l i=pq l (i+1):=by
 unfold ov at h
 rw[aiC F]at h
 obtain⟨a1,a2,a3⟩:=F.pqs i
 obtain⟨b1,b2,b3⟩:=F.pqs (i+1)
 have g1:=F.gv0 i
 have g2:=F.gv0 (i+1)
 have t:=aiE (F.nc.c1 i)
 have hv:=(F.vpq i).2
 have hw:=(F.vpq (i+1)).2
 unfold aaB at h
 have tz:ab9 (cor l (i+1)) (cor l i) (cor l (i+2))=0:=by
  unfold dv at a1 a2 b1 b2
  dsimp only at a1 a2 b1 b2
  rw[show i+1+1=i+2 by omega]at b1 b2
  unfold ab9
  generalize pq l i=p at *
  generalize pq l (i+1)=q at *
  grind
 have az:adu (cor l (i+1)) (cor l i) (cor l (i+2))=-(gv l i*gv l (i+1)*((pq l i).1*(pq l (i+1)).1+(pq l i).2*(pq l (i+1)).2)):=by
  unfold dv at a1 a2 b1 b2
  dsimp only at a1 a2 b1 b2
  rw[show i+1+1=i+2 by omega]at b1 b2
  unfold adu
  generalize pq l i=p at *
  generalize pq l (i+1)=q at *
  grind
 unfold aaK at t
 rw[tz,az]at t
 simp only[decide_true,Bool.true_and,decide_eq_false_iff_not]at t
 have gg:=Int.mul_pos g1 g2
 generalize pq l i=p at *
 generalize pq l (i+1)=q at *
 generalize gv l i*gv l (i+1)=G at *
 have hd:0≤p.1*q.1+p.2*q.2:=by
  apply Classical.byContradiction
  intro hn
  have:=Int.mul_pos gg (show 0 < -(p.1*q.1+p.2*q.2)by omega)
  rw[Int.mul_neg]at this
  omega
 have hne:p.1*q.1+p.2*q.2≠0:=by
  intro hz
  have s1:=WayM.sq_pos_of hv
  have s2:=WayM.sq_pos_of hw
  have:=Int.mul_pos s1 s2
  have e:(p.1*p.1+p.2*p.2)*(q.1*q.1+q.2*q.2)=(p.1*q.1+p.2*q.2)*(p.1*q.1+p.2*q.2)+(p.1*q.2-p.2*q.1)*(p.1*q.2-p.2*q.1):=by grind
  rw[hz,h]at e
  omega
 have:=WayM.prim a3 b3 (by omega) (show 0<p.1*q.1+p.2*q.2 by omega)
 exact Prod.ext this.1 this.2
end
structure Mv(c part W:Int)(q:Int×Int):Prop where
 pos:0<q.2
 cop:Nat.gcd q.1.natAbs q.2.natAbs=1
 e:(q.1-c*q.2)*W=part*q.2
 le:q.2≤(W.natAbs:Int)
theorem adS{c part W:Int}(h:W≠0):Mv c part W (mvP c part W):=by
 unfold mvP
 by_cases h0:W<0
 ·rw[if_pos h0]
  obtain⟨⟨a,b,e⟩,d⟩:=aqm (A:=c*(-W)+(-part)) (W:=-W) (by omega)
  refine⟨a,b,?_,by omega⟩
  generalize loP (c*(-W)+(-part)) (-W)=q at *
  grind
 ·rw[if_neg h0]
  obtain⟨⟨a,b,e⟩,d⟩:=aqm (A:=c*W+part) (W:=W) (by omega)
  refine⟨a,b,?_,by omega⟩
  generalize loP (c*W+part) W=q at *
  grind
theorem Mv.small{c part W:Int}{q:Int×Int}(M:Mv c part W q)(hW:W≠0)(hc:c.natAbs≤2^20)(hp:part.natAbs≤2^110)(hw:W.natAbs≤2^92):q.1.natAbs≤2^210∧q.2.natAbs≤2^92:=by
 have q2:q.2.natAbs≤2^92:=by
  have:=M.le
  have:=M.pos
  omega
 refine⟨?_,q2⟩
 have h1:=aaf hp q2
 rw[←M.e,Int.natAbs_mul]at h1
 have h2:(q.1-c*q.2).natAbs*1≤(q.1-c*q.2).natAbs*W.natAbs:=Nat.mul_le_mul_left _ (by omega)
 have h3:=aaf hc q2
 generalize c*q.2=z at *
 omega
structure CoOk(c p v:Int×Int)(b:Int)(X Y:Int×Int):Prop where
 p1:0<X.2
 p2:0<Y.2
 c1:Nat.gcd X.1.natAbs X.2.natAbs=1
 c2:Nat.gcd Y.1.natAbs Y.2.natAbs=1
 s1:X.1.natAbs≤2^210∧X.2.natAbs≤2^92
 s2:Y.1.natAbs≤2^210∧Y.2.natAbs≤2^92
 o1:(p.1*((X.1-c.1*X.2)*Y.2)+p.2*((Y.1-c.2*Y.2)*X.2))*rN p=1000*b*nN p*X.2*Y.2
 o2:(v.1*((X.1-c.1*X.2)*Y.2)+v.2*((Y.1-c.2*Y.2)*X.2))*rN v=1000*b*nN v*X.2*Y.2
 st:aaB p v=0→(X.1-c.1*X.2)*Y.2*v.2-(Y.1-c.2*Y.2)*X.2*v.1=0
abbrev fT2(X Y:Int×Int):T:=.tup [pt X,pt Y]
theorem afr{a b w:Int}(h:w≠0)(e:a*w=b*w):a=b:=Int.eq_of_mul_eq_mul_right h e
theorem ak6{c v:Int×Int}{b:Int}(hc:sml c)(h:vs v)(hb:0≤b∧b≤1000):∃X Y,arj c v b=fT2 X Y∧CoOk c v v b X Y:=by
 have r:=acw h
 have u:=h.1
 have b1:=aaf (a:=1000*b) (b:=v.1) (m:=1000000) (n:=2^17) (by omega) u.1
 have b2:=aaf (a:=1000*b) (b:=v.2) (m:=1000000) (n:=2^17) (by omega) u.2
 have m1:=adS (c:=c.1) (part:=1000*b*v.1) (W:=rN v) (by omega)
 have m2:=adS (c:=c.2) (part:=1000*b*v.2) (W:=rN v) (by omega)
 refine⟨_,_,rfl,?_⟩
 generalize mvP c.1 (1000*b*v.1) (rN v)=X at *
 generalize mvP c.2 (1000*b*v.2) (rN v)=Y at *
 have s1:=m1.small (by omega) hc.1 (by omega) (by omega)
 have s2:=m2.small (by omega) hc.2 (by omega) (by omega)
 have e1:=m1.e
 have e2:=m2.e
 have o:(v.1*((X.1-c.1*X.2)*Y.2)+v.2*((Y.1-c.2*Y.2)*X.2))*rN v=1000*b*nN v*X.2*Y.2:=by
  unfold nN
  generalize X.1-c.1*X.2=A at *
  generalize Y.1-c.2*Y.2=U at *
  generalize rN v=w at *
  grind
 refine⟨m1.pos,m2.pos,m1.cop,m2.cop,s1,s2,o,o,fun _=>?_⟩
 apply afr (w:=rN v) (by omega)
 rw[Int.zero_mul]
 generalize X.1-c.1*X.2=A at *
 generalize Y.1-c.2*Y.2=U at *
 generalize rN v=w at *
 grind
theorem akM{p v:Int×Int}{b:Int}(hp:vs p)(h:vs v)(hb:0≤b∧b≤1000){x:Int}(hx:x.natAbs≤2^17):(mb p v b*x).natAbs≤2^101:=by
 have r:=acw h
 have n:=akN hp
 unfold mb
 have h1:=aaf (a:=1000*b) (b:=nN p) (m:=2^20) (n:=2^35) (by omega) (by omega)
 have h2:=aaf (a:=1000*b*nN p) (b:=rN v) (m:=2^20*2^35) (n:=2^28) h1 (by omega)
 have h3:=aaf (a:=1000*b*nN p*rN v) (b:=x) (m:=2^20*2^35*2^28) (n:=2^17) h2 hx
 generalize 1000*b*nN p*rN v*x=z at *
 omega
theorem ayh{p v:Int×Int}(hp:vs p)(h:vs v):(aaB p v*rN p*rN v).natAbs≤2^92:=by
 have r:=acw h
 have r':=acw hp
 have z:=al4 hp h
 have h1:=aaf (a:=aaB p v) (b:=rN p) (m:=2^35) (n:=2^28) z (by omega)
 have h2:=aaf (a:=aaB p v*rN p) (b:=rN v) (m:=2^35*2^28) (n:=2^28) h1 (by omega)
 generalize aaB p v*rN p*rN v=z at *
 omega
theorem akp{c p v:Int×Int}{b:Int}(hc:sml c)(hp:vs p)(h:vs v)(hb:0≤b∧b≤1000)(hz:aaB p v≠0):∃X Y,ait c p v (aaB p v) b=fT2 X Y∧CoOk c p v b X Y:=by
 have r:=acw h
 have r':=acw hp
 have hW:=(avt hp h hz).1
 have w92:=ayh hp h
 have u:=h.1
 have u':=hp.1
 have t1:=akM hp h hb u.2
 have t2:=akM h hp hb u'.2
 have t3:=akM h hp hb u'.1
 have t4:=akM hp h hb u.1
 have m1:=adS (c:=c.1) (part:=mb p v b*v.2-mb v p b*p.2) (W:=aaB p v*rN p*rN v) hW
 have m2:=adS (c:=c.2) (part:=mb v p b*p.1-mb p v b*v.1) (W:=aaB p v*rN p*rN v) hW
 refine⟨_,_,rfl,?_⟩
 generalize mvP c.1 (mb p v b*v.2-mb v p b*p.2) (aaB p v*rN p*rN v)=X at *
 generalize mvP c.2 (mb v p b*p.1-mb p v b*v.1) (aaB p v*rN p*rN v)=Y at *
 have s1:=m1.small hW hc.1 (by clear m1 m2 w92 hW;omega) w92
 have s2:=m2.small hW hc.2 (by clear m1 m2 w92 hW;omega) w92
 have e1:=m1.e
 have e2:=m2.e
 refine⟨m1.pos,m2.pos,m1.cop,m2.cop,s1,s2,?_,?_,fun q=>absurd q hz⟩
 ·apply afr (w:=aaB p v*rN v) (Int.mul_ne_zero hz (by omega))
  clear m1 m2 s1 s2 t1 t2 t3 t4 w92 hW
  have ez:mb p v b=1000*b*nN p*rN v:=rfl
  rw[ez]at e1 e2
  have a1:p.1*((X.1-c.1*X.2)*Y.2)*(aaB p v*rN p*rN v)=p.1*Y.2*((1000*b*nN p*rN v*v.2-mb v p b*p.2)*X.2):=by rw[←e1];grind
  have a2:p.2*((Y.1-c.2*Y.2)*X.2)*(aaB p v*rN p*rN v)=p.2*X.2*((mb v p b*p.1-1000*b*nN p*rN v*v.1)*Y.2):=by rw[←e2];grind
  have a3:(p.1*((X.1-c.1*X.2)*Y.2)+p.2*((Y.1-c.2*Y.2)*X.2))*rN p*(aaB p v*rN v)=p.1*((X.1-c.1*X.2)*Y.2)*(aaB p v*rN p*rN v)+p.2*((Y.1-c.2*Y.2)*X.2)*(aaB p v*rN p*rN v):=by grind
  rw[a3,a1,a2]
  unfold aaB
  generalize nN p=n at *
  generalize rN v=w at *
  generalize mb v p b=m at *
  clear a1 a2 a3 e1 e2
  grind
 ·apply afr (w:=aaB p v*rN p) (Int.mul_ne_zero hz (by omega))
  clear m1 m2 s1 s2 t1 t2 t3 t4 w92 hW
  have ez:mb v p b=1000*b*nN v*rN p:=rfl
  rw[ez]at e1 e2
  have a1:v.1*((X.1-c.1*X.2)*Y.2)*(aaB p v*rN p*rN v)=v.1*Y.2*((mb p v b*v.2-1000*b*nN v*rN p*p.2)*X.2):=by rw[←e1];grind
  have a2:v.2*((Y.1-c.2*Y.2)*X.2)*(aaB p v*rN p*rN v)=v.2*X.2*((1000*b*nN v*rN p*p.1-mb p v b*v.1)*Y.2):=by rw[←e2];grind
  have a3:(v.1*((X.1-c.1*X.2)*Y.2)+v.2*((Y.1-c.2*Y.2)*X.2))*rN v*(aaB p v*rN p)=v.1*((X.1-c.1*X.2)*Y.2)*(aaB p v*rN p*rN v)+v.2*((Y.1-c.2*Y.2)*X.2)*(aaB p v*rN p*rN v):=by grind
  rw[a3,a1,a2]
  unfold aaB
  generalize nN v=n at *
  generalize rN p=w at *
  generalize mb p v b=m at *
  clear a1 a2 a3 e1 e2
  grind
theorem ajw{c p v:Int×Int}{b:Int}(hc:sml c)(hp:vs p)(h:vs v)(hb:0≤b∧b≤1000)(hs:aaB p v=0→p=v):∃X Y,akX c p v b=fT2 X Y∧CoOk c p v b X Y:=by
 unfold akX
 by_cases h0:aaB p v=0
 ·rw[if_pos h0]
  have e:=hs h0
  subst e
  exact ak6 hc h hb
 ·rw[if_neg h0]
  exact akp hc hp h hb h0
theorem aci(i:Nat):cor l (i % l.length)=cor l i:=by unfold cor;rw[Nat.mod_mod]
theorem ajL(i:Nat):cor l (i % l.length+1)=cor l (i+1):=by unfold cor;rw[Nat.mod_add_mod]
theorem agn(i:Nat):ov l (i % l.length)=ov l i:=by
 unfold ov pq gv dv
 rw[aci,ajL]
theorem alM(i:Nat):ov l (i+l.length)=ov l i:=by rw[←agn,Nat.add_mod_right,agn]
section
variable(F:Fine l)
include F
theorem Fine.corner{b:Int}(hb:0≤b∧b≤1000)(i:Nat):∃X Y,akX (cor l i) (ov l (i+l.length-1)) (ov l i) b=fT2 X Y∧CoOk (cor l i) (ov l (i+l.length-1)) (ov l i) b X Y:=by
 have n3:=F.nc.n3
 refine ajw (aaD F.sml i) (F.vov _) (F.vov _) hb fun h=>?_
 have e:ov l (i+l.length-1+1)=ov l i:=by rw[show i+l.length-1+1=i+l.length by omega,alM]
 rw[←e]at h ⊢
 unfold ov
 rw[F.same _ h]
theorem Fine.outline{b:Int}(hb:0≤b∧b≤1000):run true fns sub0 aac (k+7) 13 [LN l,.val (.int b)] s=.ok (.val (.lst ((List.range l.length).map fun i=>akX (cor l i) (ov l (i+l.length-1)) (ov l i) b))) s:=by
 have n3:=F.nc.n3
 rw[aad (F:=aqY) rfl rfl]
 have e1:=ads (k:=k+1) (s:=s) F.sml F.n1000
 rw[arM fun i j h1 h2=>F.nc.free rfl h1 h2]at e1
 have e2:=agJ (k:=k+5) (s:=s) F.sml (by omega)
 have key:=afi (C:=cfX fns sub0 (k+6)) (s:=s) (l:=l) (n:=l.length) (by omega) rfl F.n1000 (b:=b) (lw:=lwB l) (v:=ov l) (d:=fun i=>akX (cor l i) (ov l (i+l.length-1)) (ov l i) b) (aa3 e1 rfl) (aa3 e2 rfl) (fun i hi=>aa3 (F.outward (k:=k+4) (s:=s) hi) rfl) (fun i hi=>by
  rw[agn]
  exact aa3 (asu (k:=k) (s:=s) (aaD F.sml i) (F.vov _) (F.vov _) hb) rfl)
 have hx:exs (cfX fns sub0 (k+6)) ar0 (aaC aqY [LN l,.val (.int b)]) s=_:=key
 rw[hx]
 rfl
end
theorem amu(C:Cf){A0 A1:Option B}:∀(n m:Nat) (c:Option B),∃c',aac (fun σ s=>(ev C (.cmp .gt (.var 3) (.cst (.int 0))) .t σ s).bind fun x s1=>.of (asB x) s1) (fun σ s=>exs C adH σ s)
   [A0,A1,some (.val (.int m)),some (.val (.int n)),c] s=.next [A0,A1,some (.val (.int (Nat.gcd m n))),some (.val (.int 0)),c'] s:=by
 intro n
 induction n using Nat.strongRecOn with
 | _ n ih=>
  intro m c
  rw[aes]
  by_cases h:n=0
  ·subst h
   exact⟨c,by simp⟩
  ·have hn:0<n:=by omega
   have hd:=aay (i:=(m:Int)) (j:=(n:Int)) (by omega)
   rw[acC]at hd
   obtain⟨c',e⟩:=ih (m % n) (Nat.mod_lt _ hn) n (some (.val (.int ((m % n:Nat):Int))))
   refine⟨c',?_⟩
   rw[show Nat.gcd m n=Nat.gcd n (m % n)by rw[Nat.gcd_comm m n,Nat.gcd_rec n m,Nat.gcd_comm]]
   have hc:(ev C (.cmp .gt (.var 3) (.cst (.int 0))) .t [A0,A1,some (.val (.int m)),some (.val (.int n)),c] s).bind (fun x s1=>Res.of (asB x) s1)=.ok true s:=by simp[hn]
   have hb:exs C adH [A0,A1,some (.val (.int m)),some (.val (.int n)),c] s=.next [A0,A1,some (.val (.int n)),some (.val (.int ((m % n:Nat):Int))),some (.val (.int ((m % n:Nat):Int)))] s:=by
    generalize ((m % n:Nat):Int)=z at hd ⊢
    simp[hd]
   rw[hc]
   show(exs C adH [A0,A1,some (.val (.int m)),some (.val (.int n)),c] s).bind _=_
   rw[hb]
   exact e
theorem ali(a b:Int):run true fns sub0 aac (k+1) 44 [.val (.int a),.val (.int b)] s=.ok (.val (.int (gdZ a b))) s:=by
 rw[aad (F:=atb) rfl rfl]
 obtain⟨c',e⟩:=amu (s:=s) (cfX fns sub0 k) (A0:=some (.val (.int a))) (A1:=some (.val (.int b))) b.natAbs a.natAbs none
 have hx:exs (cfX fns sub0 k) aww (aaC atb [.val (.int a),.val (.int b)]) s=.ret (.val (.int (gdZ a b))) s:=by
  refine(aaa (σ1:=[some (.val (.int a)),some (.val (.int b)),some (.val (.int (a.natAbs:Int))),none,none]) (s1:=s) (by simp[ab])).trans ?_
  refine(aaa (σ1:=[some (.val (.int a)),some (.val (.int b)),some (.val (.int (a.natAbs:Int))),some (.val (.int (b.natAbs:Int))),none]) (s1:=s) (by simp[ab])).trans ?_
  refine(aaa ((agu rfl).trans e)).trans ?_
  simp[gdZ]
 rw[hx]
 rfl
theorem aj6{C:Cf}(hw:C.wl=aac){N:Int}(h0:0≤N)(hN:N<2^60):exs C auT [some (.val (.int N)),none,none] s=.ret (.val (.int (aaw N))) s:=by
 obtain⟨σ',e,⟨m,rfl,hI⟩,hout⟩:=aca (s:=s) (c:=fun σ s=>(ev C (.cmp .le (.bin .mul (.var 2) (.var 2)) (.var 0)) .t σ s).bind fun x s1=>.of (asB x) s1) (b:=fun σ s=>exs C ahX σ s)
  (fun σ=>∃m:Nat,σ=[some (.val (.int N)),some (.val (.int 0)),some (.val (.int ((2^m:Nat):Int)))]∧((2^m:Nat):Int)≤2*N+1) (fun σ=>match σ with | [_,_,some (.val (.int b))]=>(2*N+2-b).toNat | _=>0) (by
   rintro σ ⟨m,rfl,hI⟩
   have hp:0<(2^m:Nat):=Nat.two_pow_pos m
   have e2:((2^(m+1):Nat):Int)=((2^m:Nat):Int)*2:=by rw[Nat.pow_succ];omega
   generalize hb:((2^m:Nat):Int)=b at *
   have hb1:1≤b:=by omega
   have q1:=aag (i:=b) (j:=b) (aab (by omega))
   have q2:=aag (i:=b) (j:=2) (aab (by omega))
   by_cases hlt:b*b≤N
   ·have hbn:b≤N:=by
     have:=Int.mul_le_mul_of_nonneg_left hb1 (show 0≤b by omega)
     omega
    refine .inr ⟨by generalize b*b=z at *;simp[q1,hlt],[some (.val (.int N)),some (.val (.int 0)),some (.val (.int (b*2)))],by generalize b*2=z at *;simp[q2],⟨m+1,by rw[e2],by omega⟩,?_⟩
    show(2*N+2-b*2).toNat<(2*N+2-b).toNat
    omega
   ·exact .inl (by generalize b*b=z at *;simp[q1,hlt])) [some (.val (.int N)),some (.val (.int 0)),some (.val (.int 1))] ⟨0,rfl,by simp;omega⟩
 have hb1:0<(2^m:Nat):=Nat.two_pow_pos m
 have hlt:N<((2^m:Nat):Int)*((2^m:Nat):Int):=by
  have q1:=aag (i:=((2^m:Nat):Int)) (j:=((2^m:Nat):Int)) (aab (by omega))
  generalize ((2^m:Nat):Int)=b at *
  apply Classical.byContradiction
  intro hn
  generalize b*b=z at *
  simp[q1,show z≤N by omega]at hout
 obtain⟨σ2,e',⟨t,b,rfl,hJ⟩,hout2⟩:=aca (s:=s) (c:=fun σ s=>(ev C (.cmp .gt (.var 2) (.cst (.int 0))) .t σ s).bind fun x s1=>.of (asB x) s1) (b:=fun σ s=>exs C ahC σ s)
  (fun σ=>∃t b:Int,σ=[some (.val (.int N)),some (.val (.int t)),some (.val (.int b))]∧(0≤t∧t≤N∧t*t≤N)∧((∃m:Nat,b=((2^m:Nat):Int)∧b≤2*N+1∧N<(t+2*b)*(t+2*b))∨(b=0∧N<(t+1)*(t+1)))) (fun σ=>match σ with | [_,_,some (.val (.int b))]=>b.toNat | _=>0) (by
   rintro σ ⟨t,b,rfl,⟨t0,t1,t2⟩,hJ⟩
   rcases hJ with⟨m,hm,hb2,hN2⟩|⟨rfl,hN2⟩
   ·have hp:0<(2^m:Nat):=Nat.two_pow_pos m
    have hb1:1≤b:=by omega
    have q1:=aag (i:=t+b) (j:=t+b) (aab (by omega))
    have q2:=aaH (i:=b) (j:=2) (by decide) (by decide)
    have hf:(m=0∧b=1∧Int.fdiv b 2=0)∨(∃m',Int.fdiv b 2=((2^m':Nat):Int)∧b=2*Int.fdiv b 2):=by
     cases m with
     | zero=>left;refine⟨rfl,by simpa using hm,?_⟩;rw[show b=1 by simpa using hm];decide
     | succ m'=>
      right
      have e2:((2^(m'+1):Nat):Int)=2*((2^m':Nat):Int):=by rw[Nat.pow_succ];omega
      have e3:Int.fdiv b 2=((2^m':Nat):Int):=by
       rw[hm,e2];exact Int.mul_fdiv_cancel_left _ (by decide)
      exact⟨m',e3,by rw[e3,hm,e2]⟩
    have hlt2:Int.fdiv b 2<b:=by rcases hf with⟨_,h1,h2⟩|⟨m',h1,h2⟩<;>omega
    generalize hfb:Int.fdiv b 2=f at *
    have hfn:0≤f:=by rcases hf with⟨_,h1,h2⟩|⟨m',h1,h2⟩<;>omega
    right
    refine⟨by simp;omega,?_⟩
    by_cases hc:(t+b)*(t+b)≤N
    ·refine⟨[some (.val (.int N)),some (.val (.int (t+b))),some (.val (.int f))],by generalize (t+b)*(t+b)=z at *;simp[q1,q2,hc],⟨t+b,f,rfl,⟨by omega,?_,hc⟩,?_⟩,by show f.toNat<b.toNat;omega⟩
     ·have:=Int.mul_le_mul_of_nonneg_left (show 1≤t+b by omega) (show 0≤t+b by omega)
      omega
     ·rcases hf with⟨_,h1,h2⟩|⟨m',h1,h2⟩
      ·right
       refine⟨h2,?_⟩
       rw[show t+b+1=t+2*b by omega];exact hN2
      ·left
       refine⟨m',h1,by omega,?_⟩
       rw[show t+b+2*f=t+2*b by omega];exact hN2
    ·refine⟨[some (.val (.int N)),some (.val (.int t)),some (.val (.int f))],by generalize (t+b)*(t+b)=z at *;simp[q1,q2,hc],⟨t,f,rfl,⟨t0,t1,t2⟩,?_⟩,by show f.toNat<b.toNat;omega⟩
     rcases hf with⟨_,h1,h2⟩|⟨m',h1,h2⟩
     ·right
      refine⟨h2,?_⟩
      rw[h1]at hc;omega
     ·left
      refine⟨m',h1,by omega,?_⟩
      rw[show t+2*f=t+b by omega];omega
   ·exact .inl (by simp)) [some (.val (.int N)),some (.val (.int 0)),some (.val (.int ((2^m:Nat):Int)))] ⟨0,_,rfl,⟨by omega,h0,by omega⟩,.inl ⟨m,rfl,hI,by
    have hp':0<((2^m:Nat):Int):=Int.natCast_pos.mpr hb1
    generalize ((2^m:Nat):Int)=b at *
    have e1:(0+2*b)*(0+2*b)=4*(b*b):=by grind
    have:=Int.mul_nonneg (show 0≤b by omega) (show 0≤b by omega)
    omega⟩⟩
 have hr:t=aaw N:=by
  obtain⟨⟨t0,t1,t2⟩,hJ⟩:=hJ
  have hb0:¬0<b:=by
   intro hp
   simp[hp]at hout2
  rcases hJ with⟨m,hm,_⟩|⟨_,hN2⟩
  ·have hp:0<(2^m:Nat):=Nat.two_pow_pos m
   omega
  ·exact(abF t0 t2 hN2 h0).symm
 refine(aaa (σ1:=[some (.val (.int N)),some (.val (.int 0)),none]) (s1:=s) (by simp)).trans ?_
 refine(aaa (σ1:=[some (.val (.int N)),some (.val (.int 0)),some (.val (.int 1))]) (s1:=s) (by simp)).trans ?_
 refine(aaa ((agu hw).trans e)).trans ?_
 refine(aaa ((agu hw).trans e')).trans ?_
 rw[hr]
 simp
theorem am4{N:Int}(h0:0≤N)(hN:N<2^60):run true fns sub0 aac (k+1) 48 [.val (.int N)] s=.ok (.val (.int (aaw N))) s:=
 (aad (F:=auB) rfl rfl).trans (congrArg (aaL true false) (aj6 (C:=cfX fns sub0 k) rfl h0 hN))
theorem alO(hl:∀p∈l,sml p)(h0:0<l.length)(hn:l.length≤1000):run true fns sub0 aac (k+1) 49 [LN l] s=.ok (.val (.int (dsum l l.length))) s:=by
 rw[aad (F:=as8) rfl rfl]
 obtain⟨σ',e,c2,c3,c4,rfl⟩:=aaJ (g:=.one 2) (body:=fun σ s=>exs (cfX fns sub0 k) ahG σ s) (s:=s) (fun m σ=>∃c2 c3 c4,σ=[some (.val (.lst (l.map pt))),some (.val (.int (dsum l m))),c2,c3,c4]) (aai 0 l.length) 0 [some (.val (.lst (l.map pt))),some (.val (.int 0)),none,none,none] ⟨_,_,_,rfl⟩ (by
   rintro m t σ hm ⟨c2,c3,c4,rfl⟩
   obtain⟨rfl,hlt⟩:=aav hm
   have hlt:m<l.length:=by omega
   have hg:=aaU (abl (l:=l) h0 m)
   rw[Nat.mod_eq_of_lt hlt]at hg
   have hp:=ac7 hlt
   have sp:=aaD hl (m+l.length-1)
   have m1:=aag (i:=(cor l (m+l.length-1)).1) (j:=(cor l m).2) (aab (by have:=sp.1;omega))
   have m2:=aag (i:=(cor l (m+l.length-1)).2) (j:=(cor l m).1) (aab (by have:=sp.2;omega))
   refine⟨[some (.val (.lst (l.map pt))),some (.val (.int (dsum l m))),some (.val (.int m)),c3,c4],[some (.val (.lst (l.map pt))),some (.val (.int (dsum l (m+1)))),some (.val (.int m)),some (.val (pt (cor l (m+l.length-1)))),some (.val (pt (cor l m)))],?_,?_,_,_,_,by rw[Nat.zero_add]⟩
   ·simp[aal]
   ·simp[hp,hg,m1,m2,dsum])
 rw[aa1,show((l.length:Int)-0).toNat=l.length by omega,Nat.zero_add]at e
 have hx:exs (cfX fns sub0 k) av7 (aaC as8 [LN l]) s=.ret (.val (.int (dsum l l.length))) s:=by
  refine(aaa (σ1:=[some (.val (.lst (l.map pt))),some (.val (.int 0)),none,none,none]) (s1:=s) (by simp)).trans ?_
  refine(aaa ((aaV (ts:=aai 0 l.length) (s1:=s) (abm (n:=l.length) (by simp) hn) (by intro _ h;cases h)).trans e)).trans ?_
  simp
 rw[hx]
 rfl
theorem ahl{q:Int×Int}(h:0<q.2)(hc:Nat.gcd q.1.natAbs q.2.natAbs=1):run true fns sub0 aac (k+2) 50 [PT q] s=.ok (.val (.bl true)) s:=by
 rw[aad (F:=aw8) rfl rfl]
 have w1:=ajg (k:=k) (s:=s) q.1
 have w2:=ajg (k:=k) (s:=s) q.2
 have g:=ali (k:=k) (s:=s) q.1 q.2
 have e:gdZ q.1 q.2=1:=by unfold gdZ;omega
 rw[e]at g
 have t1:ael sub0 (.val (pt q)) .tuple=some true:=rfl
 have t2:b1R .len (.val (pt q))=some (.val (.int 2)):=rfl
 have t1':ael (cfX fns sub0 (k+1)).sub (.val (pt q)) .tuple=some true:=rfl
 simp[avg,t1,t1',t2,w1,w2,g,show ¬q.2<1 by omega]
theorem abN{i j:Int}(hi:i.natAbs<2^400)(hj:j.natAbs<2^400):ahr i j=true:=by
 have h1:=Nat.lt_trans hi afD
 have h2:=Nat.lt_trans hj afD
 unfold ahr
 simp[h1,h2]
theorem aft{i:Nat}(hi:i<l.length):aaQ (LN l) (i:Int)=some (pt (cor l i)):=by
 have h:=aaU (abl (l:=l) (by omega) i)
 rw[Nat.mod_eq_of_lt hi]at h
 exact h
theorem agk{i:Nat}(hi:i<l.length):aaQ (LN l) (((i+1) % l.length:Nat):Int)=some (pt (cor l (i+1))):=aaU (abl (l:=l) (by omega) (i+1))
theorem alp(lw:Bool)(v:Int×Int):nN (ovL lw v)=nN v:=by
 unfold nN ovL
 cases lw
 ·simp only[Bool.false_eq_true,if_false];grind
 ·simp only[if_true];grind
def smX(X:Int×Int):Prop:=X.1.natAbs≤2^210∧X.2.natAbs≤2^92
abbrev iV(i:Int):Option B:=some (.val (.int i))
abbrev g32(l:List (Int×Int))(i j:Nat)(X Y:Int×Int)(b:Int)(v5 v6 v7 v8 v9 v10 v11 v12 v13 v14 v15 v16 v17:Option B):Fr:=[some (.val (.lst (l.map pt))),iV i,iV j,some (.val (fT2 X Y)),iV b,v5,v6,v7,v8,v9,v10,v11,v12,v13,v14,v15,v16,v17]
@[simp] theorem avF (p:Int×Int):(R.val (pt p)).tup?=some [.int p.1,.int p.2]:=rfl
def onH(c v X Y:Int×Int)(b:Int):Prop:=(v.1*((X.1-c.1*X.2)*Y.2)+v.2*((Y.1-c.2*Y.2)*X.2))*rN v=1000*b*nN v*X.2*Y.2
theorem adO{c:Int}{X Y:Int×Int}(hc:c.natAbs≤2^20)(hX:smX X)(hY:smX Y):(X.1-c*X.2).natAbs<2^400:=by
 have h1:=aaf hc hX.2
 have h2:=hX.1
 generalize c*X.2=z at *
 omega
theorem ag6{C:Cf}(F:Fine l){i j:Nat}(hi:i<l.length)(hj:j<l.length){X Y:Int×Int}{b:Int}(hb:0≤b∧b≤1000)(hX:smX X)(hY:smX Y)
  (h25:∀a b:Int,C.cf 44 [.val (.int a),.val (.int b)] s=.ok (.val (.int (gdZ a b))) s) (h29:∀N:Int,0≤N→N<2^60→C.cf 48 [.val (.int N)] s=.ok (.val (.int (aaw N))) s)
  (h30:C.cf 49 [LN l] s=.ok (.val (.int (dsum l l.length))) s) (heq:onH (cor l i) (ov l j) X Y b):
  exs C auS (g32 l i j X Y b none none none none none none none none none none none none none) s=.ret (.val (.bl true)) s:=by
 have c1:=aft hj
 have c2:=agk hj
 have c3:=aft hi
 have md:=aej j l.length (by omega)
 have e25:=h25 (dv l j).1 (dv l j).2
 have eg:gdZ (dv l j).1 (dv l j).2=gv l j:=rfl
 rw[eg]at e25
 have q1:=ab7 (i:=(dv l j).1) (j:=gv l j) (F.gv0 j) (F.gvs j)
 have q2:=ab7 (i:=(dv l j).2) (j:=gv l j) (F.gv0 j) (F.gvs j)
 have ep:Int.fdiv (dv l j).1 (gv l j)=(pq l j).1:=rfl
 have eq':Int.fdiv (dv l j).2 (gv l j)=(pq l j).2:=rfl
 rw[ep]at q1
 rw[eq']at q2
 have hv:=F.vpq j
 have nb:=akN hv
 have e29:=h29 (1000000*nN (pq l j)) (by omega) (by omega)
 have hr:aaw (1000000*nN (pq l j))=rN (pq l j):=rfl
 rw[hr]at e29
 have rb:=acw hv
 have m1:=aag (i:=(pq l j).1) (j:=(pq l j).1) (aab (by have:=hv.1;omega))
 have m2:=aag (i:=(pq l j).2) (j:=(pq l j).2) (aab (by have:=hv.1;omega))
 have en:(pq l j).1*(pq l j).1+(pq l j).2*(pq l j).2=nN (pq l j):=rfl
 have sc:=aaD F.sml i
 have x1:=adO sc.1 hX hY
 have x2:=adO sc.2 hY hX
 have m3:=aag (i:=(cor l i).1) (j:=X.2) (aab (by have:=sc.1;omega))
 have m4:=aag (i:=(cor l i).2) (j:=Y.2) (aab (by have:=sc.2;omega))
 have m5:=aag (i:=X.1-(cor l i).1*X.2) (j:=Y.2) (abN x1 (by have:=hY.2;omega))
 have m6:=aag (i:=Y.1-(cor l i).2*Y.2) (j:=X.2) (abN x2 (by have:=hX.2;omega))
 have m7:=aag (i:=(pq l j).2) (j:=(X.1-(cor l i).1*X.2)*Y.2) (aab (by have:=hv.1;omega))
 have m8:=aag (i:=(pq l j).1) (j:=(Y.1-(cor l i).2*Y.2)*X.2) (aab (by have:=hv.1;omega))
 have m9:∀z:Int,opR .mul (.val (.int z)) (.val (.int (rN (pq l j))))=some (.val (.int (z*rN (pq l j)))):=fun z=>aag (aby (by omega))
 have m10:=aag (i:=1000000) (j:=nN (pq l j)) (aab (by decide))
 have m11:=aag (i:=1000) (j:=b) (aab (by decide))
 have m12:=aag (i:=1000*b) (j:=nN (pq l j)) (aab (by omega))
 have b12:=aaf (a:=1000*b) (b:=nN (pq l j)) (m:=2^20) (n:=2^35) (by omega) (by omega)
 have m13:=aag (i:=1000*b*nN (pq l j)) (j:=X.2) (aab (by omega))
 have b13:=aaf (a:=1000*b*nN (pq l j)) (b:=X.2) (m:=2^20*2^35) (n:=2^92) b12 hX.2
 have m14:=aag (i:=1000*b*nN (pq l j)*X.2) (j:=Y.2) (abN (by omega) (by have:=hY.2;omega))
 have hd:=F.nc.dsum rfl
 have hout:(if dsum l l.length<0 then 0-((pq l j).2*((X.1-(cor l i).1*X.2)*Y.2)-(pq l j).1*((Y.1-(cor l i).2*Y.2)*X.2))else(pq l j).2*((X.1-(cor l i).1*X.2)*Y.2)-(pq l j).1*((Y.1-(cor l i).2*Y.2)*X.2))*rN (pq l j)=1000*b*nN (pq l j)*X.2*Y.2:=by
  unfold onH at heq
  have r1:rN (ov l j)=rN (pq l j):=by unfold rN ov;rw[alp]
  have r2:nN (ov l j)=nN (pq l j):=by unfold ov;rw[alp]
  rw[r1,r2]at heq
  rw[←heq]
  congr 1
  unfold ov ovL lwB
  by_cases hn:dsum l l.length<0
  ·rw[if_pos hn,decide_eq_false (by omega)]
   simp only[Bool.false_eq_true,if_false]
   generalize (X.1-(cor l i).1*X.2)*Y.2=A
   generalize (Y.1-(cor l i).2*Y.2)*X.2=U
   grind
  ·rw[if_neg hn,decide_eq_true (by omega)]
   simp only[if_true]
   generalize (X.1-(cor l i).1*X.2)*Y.2=A
   generalize (Y.1-(cor l i).2*Y.2)*X.2=U
   grind
 have d1:(cor l (j+1)).1-(cor l j).1=(dv l j).1:=rfl
 have d2:(cor l (j+1)).2-(cor l j).2=(dv l j).2:=rfl
 clear heq F nb rb b12 b13 x1 x2 sc h25 h29 hX hY hv hi hj eg ep eq' hr
 generalize ((j+1) % l.length:Nat)=jn at *
 generalize cor l j=cj at *
 generalize cor l (j+1)=cj1 at *
 generalize cor l i=ci at *
 generalize dv l j=D at *
 generalize gv l j=g at *
 generalize pq l j=P at *
 generalize nN P=n at *
 generalize rN P=r at *
 generalize 1000000*n=n6 at *
 generalize 1000*b*n*X.2*Y.2=z14 at *
 generalize 1000*b*n*X.2=z13 at *
 generalize 1000*b*n=z12 at *
 generalize 1000*b=z11 at *
 generalize P.2*((X.1-ci.1*X.2)*Y.2)=z7 at *
 generalize P.1*((Y.1-ci.2*Y.2)*X.2)=z8 at *
 generalize (X.1-ci.1*X.2)*Y.2=z5 at *
 generalize (Y.1-ci.2*Y.2)*X.2=z6 at *
 generalize ci.1*X.2=z3 at *
 generalize ci.2*Y.2=z4 at *
 generalize P.1*P.1=z1 at *
 generalize P.2*P.2=z2 at *
 refine(aaa (σ1:=g32 l i j X Y b (some (.val (pt cj))) none none none none none none none none none none none none) (s1:=s) (by simp[c1])).trans ?_
 refine(aaa (σ1:=g32 l i j X Y b (some (.val (pt cj))) (some (.val (pt cj1))) none none none none none none none none none none none) (s1:=s) (by simp[md,c2])).trans ?_
 refine(aaa (σ1:=g32 l i j X Y b (some (.val (pt cj))) (some (.val (pt cj1))) (iV g) none none none none none none none none none none) (s1:=s) (by simp[d1,d2,e25])).trans ?_
 refine(aaa (σ1:=g32 l i j X Y b (some (.val (pt cj))) (some (.val (pt cj1))) (iV g) (iV P.1) none none none none none none none none none) (s1:=s) (by simp[d1,q1])).trans ?_
 refine(aaa (σ1:=g32 l i j X Y b (some (.val (pt cj))) (some (.val (pt cj1))) (iV g) (iV P.1) (iV P.2) none none none none none none none none) (s1:=s) (by simp[d2,q2])).trans ?_
 refine(aaa (σ1:=g32 l i j X Y b (some (.val (pt cj))) (some (.val (pt cj1))) (iV g) (iV P.1) (iV P.2) (iV n) none none none none none none none) (s1:=s) (by simp[m1,m2,en])).trans ?_
 refine(aaa (σ1:=g32 l i j X Y b (some (.val (pt cj))) (some (.val (pt cj1))) (iV g) (iV P.1) (iV P.2) (iV n) (iV X.1) (iV X.2) none none none none none) (s1:=s) (by simp[puts])).trans ?_
 refine(aaa (σ1:=g32 l i j X Y b (some (.val (pt cj))) (some (.val (pt cj1))) (iV g) (iV P.1) (iV P.2) (iV n) (iV X.1) (iV X.2) (iV Y.1) (iV Y.2) none none none) (s1:=s) (by simp[puts])).trans ?_
 refine(aaa (σ1:=g32 l i j X Y b (some (.val (pt cj))) (some (.val (pt cj1))) (iV g) (iV P.1) (iV P.2) (iV n) (iV X.1) (iV X.2) (iV Y.1) (iV Y.2) (iV z5) none none) (s1:=s) (by simp[c3,m3,m5])).trans ?_
 refine(aaa (σ1:=g32 l i j X Y b (some (.val (pt cj))) (some (.val (pt cj1))) (iV g) (iV P.1) (iV P.2) (iV n) (iV X.1) (iV X.2) (iV Y.1) (iV Y.2) (iV z5) (iV z6) none) (s1:=s) (by simp[c3,m4,m6])).trans ?_
 refine(aaa (σ1:=g32 l i j X Y b (some (.val (pt cj))) (some (.val (pt cj1))) (iV g) (iV P.1) (iV P.2) (iV n) (iV X.1) (iV X.2) (iV Y.1) (iV Y.2) (iV z5) (iV z6) (iV (z7-z8))) (s1:=s) (by simp[m7,m8])).trans ?_
 refine(aaa (σ1:=g32 l i j X Y b (some (.val (pt cj))) (some (.val (pt cj1))) (iV g) (iV P.1) (iV P.2) (iV n) (iV X.1) (iV X.2) (iV Y.1) (iV Y.2) (iV z5) (iV z6) (iV (if dsum l l.length<0 then 0-(z7-z8)else z7-z8))) (s1:=s) (by
  by_cases hn:dsum l l.length<0
  ·simp[h30,hn]
  ·simp[h30,hn])).trans ?_
 generalize (if dsum l l.length<0 then 0-(z7-z8)else z7-z8)=out at *
 have m9':=m9 out
 rw[hout]at m9'
 simp[m10,e29,m9',m11,m12,m13,m14]
abbrev g33(l:List (Int×Int))(i:Nat)(X Y:Int×Int)(v3 v4 v5 v6 v7 v8 v9 v10 v11 v12:Option B):Fr:=[some (.val (.lst (l.map pt))),iV i,some (.val (fT2 X Y)),v3,v4,v5,v6,v7,v8,v9,v10,v11,v12]
def stH(c v X Y:Int×Int):Prop:=(X.1-c.1*X.2)*Y.2*v.2-(Y.1-c.2*Y.2)*X.2*v.1=0
theorem Fine.bent(F:Fine l)(i:Nat)(h:(dv l i).1*(dv l (i+1)).2-(dv l i).2*(dv l (i+1)).1=0):aaB (ov l i) (ov l (i+1))=0:=by
 obtain⟨a1,a2,a3⟩:=F.pqs i
 obtain⟨b1,b2,b3⟩:=F.pqs (i+1)
 have g1:=F.gv0 i
 have g2:=F.gv0 (i+1)
 unfold ov
 rw[aiC F]
 rw[a1,a2,b1,b2]at h
 unfold aaB
 have e:gv l i*gv l (i+1)*((pq l i).1*(pq l (i+1)).2-(pq l i).2*(pq l (i+1)).1)=0:=by
  generalize pq l i=p at *
  generalize pq l (i+1)=q at *
  grind
 have gg:=Int.mul_pos g1 g2
 rcases Int.mul_eq_zero.mp e with z|z
 ·omega
 ·exact z
theorem aeE{C:Cf}(F:Fine l){i:Nat}(hi:i<l.length){X Y:Int×Int}(hX:smX X)(hY:smX Y)(hst:aaB (ov l (i+l.length-1)) (ov l i)=0→stH (cor l i) (ov l i) X Y):
  exs C awH (g33 l i X Y none none none none none none none none none none) s=.ret (.val (.bl true)) s:=by
 have n3:=F.nc.n3
 have c1:=ac7 hi
 have c2:=aft hi
 have c3:=agk hi
 have md:=aej i l.length (by omega)
 have e0:cor l (i+l.length-1+1)=cor l i:=by rw[show i+l.length-1+1=i+l.length by omega];exact F.nc.per i
 have eo:ov l (i+l.length-1+1)=ov l i:=by rw[show i+l.length-1+1=i+l.length by omega,alM]
 have d1:(cor l i).1-(cor l (i+l.length-1)).1=(dv l (i+l.length-1)).1:=by unfold dv;rw[e0]
 have d2:(cor l i).2-(cor l (i+l.length-1)).2=(dv l (i+l.length-1)).2:=by unfold dv;rw[e0]
 have d3:(cor l (i+1)).1-(cor l i).1=(dv l i).1:=rfl
 have d4:(cor l (i+1)).2-(cor l i).2=(dv l i).2:=rfl
 have s1:=F.dvs (i+l.length-1)
 have s2:=F.dvs i
 have m1:=aag (i:=(dv l (i+l.length-1)).1) (j:=(dv l i).2) (aab (by omega))
 have m2:=aag (i:=(dv l (i+l.length-1)).2) (j:=(dv l i).1) (aab (by omega))
 have sc:=aaD F.sml i
 have x1:=adO sc.1 hX hY
 have x2:=adO sc.2 hY hX
 have m3:=aag (i:=(cor l i).1) (j:=X.2) (aab (by have:=sc.1;omega))
 have m4:=aag (i:=(cor l i).2) (j:=Y.2) (aab (by have:=sc.2;omega))
 have m5:=aag (i:=X.1-(cor l i).1*X.2) (j:=Y.2) (abN x1 (by have:=hY.2;omega))
 have m6:=aag (i:=Y.1-(cor l i).2*Y.2) (j:=X.2) (abN x2 (by have:=hX.2;omega))
 have m7:=aag (i:=(X.1-(cor l i).1*X.2)*Y.2) (j:=(dv l i).1) (aby (by omega))
 have m8:=aag (i:=(Y.1-(cor l i).2*Y.2)*X.2) (j:=(dv l i).2) (aby (by omega))
 have hsum:(dv l (i+l.length-1)).1*(dv l i).2-(dv l (i+l.length-1)).2*(dv l i).1=0→(X.1-(cor l i).1*X.2)*Y.2*(dv l i).1+(Y.1-(cor l i).2*Y.2)*X.2*(dv l i).2=0:=fun h=>by
  have hb:=F.bent (i+l.length-1) (by
   have:dv l (i+l.length-1+1)=dv l i:=by
    unfold dv
    rw[e0,show i+l.length-1+1+1=i+1+l.length by omega,F.nc.per]
   rw[this];exact h)
  rw[eo]at hb
  have hs:=hst hb
  unfold stH ov ovL at hs
  obtain⟨a1,a2,_⟩:=F.pqs i
  rw[a1,a2]
  generalize (X.1-(cor l i).1*X.2)*Y.2=A at *
  generalize (Y.1-(cor l i).2*Y.2)*X.2=U at *
  generalize pq l i=P at *
  generalize gv l i=g at *
  cases hl:lwB l
  ·rw[hl]at hs
   simp only[Bool.false_eq_true,if_false]at hs
   clear hst m1 m2 m5 m6 m7 m8
   grind
  ·rw[hl]at hs
   simp only[if_true]at hs
   clear hst m1 m2 m5 m6 m7 m8
   grind
 clear hst F s1 s2 x1 x2 sc hX hY hi e0 eo n3
 generalize ((i+1) % l.length:Nat)=jn at *
 generalize cor l (i+l.length-1)=cp at *
 generalize cor l (i+1)=cn at *
 generalize cor l i=ci at *
 generalize dv l (i+l.length-1)=Dp at *
 generalize dv l i=D at *
 generalize (X.1-ci.1*X.2)*Y.2*D.1=z7 at *
 generalize (Y.1-ci.2*Y.2)*X.2*D.2=z8 at *
 generalize (X.1-ci.1*X.2)*Y.2=z5 at *
 generalize (Y.1-ci.2*Y.2)*X.2=z6 at *
 generalize ci.1*X.2=z3 at *
 generalize ci.2*Y.2=z4 at *
 generalize Dp.1*D.2=z1 at *
 generalize Dp.2*D.1=z2 at *
 refine(aaa (σ1:=g33 l i X Y (some (.val (pt cp))) none none none none none none none none none) (s1:=s) (by simp[c1])).trans ?_
 refine(aaa (σ1:=g33 l i X Y (some (.val (pt cp))) (some (.val (pt ci))) none none none none none none none none) (s1:=s) (by simp[c2])).trans ?_
 refine(aaa (σ1:=g33 l i X Y (some (.val (pt cp))) (some (.val (pt ci))) (some (.val (pt cn))) none none none none none none none) (s1:=s) (by simp[md,c3])).trans ?_
 refine(aaa (σ1:=g33 l i X Y (some (.val (pt cp))) (some (.val (pt ci))) (some (.val (pt cn))) (iV z1) none none none none none none) (s1:=s) (by simp[d1,d4,m1])).trans ?_
 refine(aaa (σ1:=g33 l i X Y (some (.val (pt cp))) (some (.val (pt ci))) (some (.val (pt cn))) (iV (z1-z2)) none none none none none none) (s1:=s) (by simp[d2,d3,m2])).trans ?_
 by_cases hz:z1-z2=0
 ·have hs:=hsum hz
  refine(aaa (σ1:=g33 l i X Y (some (.val (pt cp))) (some (.val (pt ci))) (some (.val (pt cn))) (iV (z1-z2)) none none none none none none) (s1:=s) (by simp[hz])).trans ?_
  refine(aaa (σ1:=g33 l i X Y (some (.val (pt cp))) (some (.val (pt ci))) (some (.val (pt cn))) (iV (z1-z2)) (iV X.1) (iV X.2) none none none none) (s1:=s) (by simp[puts])).trans ?_
  refine(aaa (σ1:=g33 l i X Y (some (.val (pt cp))) (some (.val (pt ci))) (some (.val (pt cn))) (iV (z1-z2)) (iV X.1) (iV X.2) (iV Y.1) (iV Y.2) none none) (s1:=s) (by simp[puts])).trans ?_
  refine(aaa (σ1:=g33 l i X Y (some (.val (pt cp))) (some (.val (pt ci))) (some (.val (pt cn))) (iV (z1-z2)) (iV X.1) (iV X.2) (iV Y.1) (iV Y.2) (iV z7) none) (s1:=s) (by simp[m3,m5,d3,m7])).trans ?_
  refine(aaa (σ1:=g33 l i X Y (some (.val (pt cp))) (some (.val (pt ci))) (some (.val (pt cn))) (iV (z1-z2)) (iV X.1) (iV X.2) (iV Y.1) (iV Y.2) (iV z7) (iV z8)) (s1:=s) (by simp[m4,m6,d4,m8])).trans ?_
  simp[hs]
 ·refine abw ?_
  simp[hz]
theorem ajQ{i n:Nat}(hi:i<n):opR .mod (.val (.int ((i:Int)-1))) (.val (.int (n:Int)))=some (.val (.int (((i+n-1) % n:Nat):Int))):=by
 rw[aay (by omega)]
 have e:Int.fmod ((i:Int)-1) (n:Int)=(((i+n-1) % n:Nat):Int):=by
  rw[←acC,show(((i+n-1:Nat)):Int)=((i:Int)-1)+(n:Int)by omega,Int.fmod_eq_emod_of_nonneg _ (by omega),Int.fmod_eq_emod_of_nonneg _ (by omega),Int.add_emod_right]
 rw[e]
structure HasL(C:Cf)(l:List (Int×Int))(b:Int)(s:Sto):Prop where
 h31:∀q:Int×Int,0<q.2→Nat.gcd q.1.natAbs q.2.natAbs=1→C.cf 50 [PT q] s=.ok (.val (.bl true)) s
 h32:∀(i j:Nat) (X Y:Int×Int),i<l.length→j<l.length→smX X→smX Y→onH (cor l i) (ov l j) X Y b→C.cf 51 [LN l,.val (.int i),.val (.int j),.val (fT2 X Y),.val (.int b)] s=.ok (.val (.bl true)) s
 h33:∀(i:Nat) (X Y:Int×Int),i<l.length→smX X→smX Y→(aaB (ov l (i+l.length-1)) (ov l i)=0→stH (cor l i) (ov l i) X Y)→C.cf 52 [LN l,.val (.int i),.val (fT2 X Y)] s=.ok (.val (.bl true)) s
theorem axy(k:Nat)(F:Fine l){b:Int}(hb:0≤b∧b≤1000):HasL (cfX fns sub0 (k+3)) l b s where
 h31:=fun q h1 h2=>aa3 (ahl (k:=k+1) h1 h2) rfl
 h32:=fun i j X Y hi hj hX hY ho=>by
  have n3:=F.nc.n3
  have e:=ag6 (C:=cfX fns sub0 (k+2)) (s:=s) F hi hj hb hX hY (fun a b=>aa3 (ali (k:=k+1) a b) rfl) (fun N h0 h1=>aa3 (am4 (k:=k+1) h0 h1) rfl) (aa3 (alO (k:=k+1) F.sml (by omega) F.n1000) rfl) ho
  exact aa3 ((aad (F:=avf) rfl rfl).trans (congrArg (aaL true false) e)) rfl
 h33:=fun i X Y hi hX hY hs=>by
  have e:=aeE (C:=cfX fns sub0 (k+2)) (s:=s) F hi hX hY hs
  exact aa3 ((aad (F:=avP) rfl rfl).trans (congrArg (aaL true false) e)) rfl
abbrev g34(l:List (Int×Int))(D:List T)(b:Int)(v3 v4:Option B):Fr:=[some (.val (.lst (l.map pt))),some (.val (.lst D)),iV b,v3,v4]
@[simp] theorem aw9 (sub:Nat→Nat→Bool) (p:Int×Int):ael sub (.val (pt p)) .tuple=some true:=rfl
theorem ajC{C:Cf}{b:Int}(hC:HasL C l b s)(hn:l.length≤1000){d:Nat→T}(hd:∀i,i<l.length→∃X Y,d i=fT2 X Y∧CoOk (cor l i) (ov l (i+l.length-1)) (ov l i) b X Y):
  exs C auW (g34 l ((List.range l.length).map d) b none none) s=.ret (.val (.bl true)) s:=by
 have hlen:((List.range l.length).map d).length=l.length:=by simp
 obtain⟨σ',e,c3,c4,rfl⟩:=aaJ (g:=.one 3) (body:=fun σ s=>exs C aiJ σ s) (s:=s) (fun _ σ=>∃c3 c4,σ=g34 l ((List.range l.length).map d) b c3 c4) (aai 0 l.length) 0 _ ⟨none,none,rfl⟩ (by
  rintro i t σ hi' ⟨c3,c4,rfl⟩
  obtain⟨rfl,hlt⟩:=aav hi'
  have hi:i<l.length:=by omega
  rw[Int.zero_add]
  obtain⟨X,Y,ed,K⟩:=hd i hi
  have g1:aaQ (.val (.lst ((List.range l.length).map d))) (i:Int)=some (fT2 X Y):=by rw[←ed];exact aaU (by simp[hi])
  have f1:=hC.h31 X K.p1 K.c1
  have f2:=hC.h31 Y K.p2 K.c2
  have mp:=ajQ hi
  have o1:=hC.h32 i ((i+l.length-1) % l.length) X Y hi (Nat.mod_lt _ (by omega)) K.s1 K.s2 (by rw[agn];exact K.o1)
  have o2:=hC.h32 i i X Y hi hi K.s1 K.s2 K.o2
  have o3:=hC.h33 i X Y hi K.s1 K.s2 K.st
  clear K hd ed
  refine⟨g34 l ((List.range l.length).map d) b (iV i) c4,g34 l ((List.range l.length).map d) b (iV i) (iV (((i+l.length-1) % l.length:Nat):Int)),rfl,?_,_,_,rfl⟩
  clear hlen
  generalize (List.range l.length).map d=D at *
  generalize ((i+l.length-1) % l.length:Nat)=ip at *
  refine(aaa (σ1:=g34 l D b (iV i) c4) (s1:=s) (by simp[g1])).trans ?_
  refine(aaa (σ1:=g34 l D b (iV i) c4) (s1:=s) (by simp[g1,f1,f2])).trans ?_
  refine(aaa (σ1:=g34 l D b (iV i) (iV ip)) (s1:=s) (by simp[mp])).trans ?_
  refine(aaa (σ1:=g34 l D b (iV i) (iV ip)) (s1:=s) (by simp[g1,o1])).trans ?_
  refine(aaa (σ1:=g34 l D b (iV i) (iV ip)) (s1:=s) (by simp[g1,o2])).trans ?_
  refine(aaa (σ1:=g34 l D b (iV i) (iV ip)) (s1:=s) (by simp[g1,o3])).trans ?_
  simp)
 generalize (List.range l.length).map d=D at *
 refine(aaa (σ1:=g34 l D b none none) (s1:=s) (by simp[hlen])).trans ?_
 refine(aaa ((aaV (ts:=aai 0 l.length) (s1:=s) (abm (n:=l.length) (by simp) hn) (by intro _ h;cases h)).trans e)).trans ?_
 simp
theorem aql(F:Fine l){b:Int}(hb:0≤b∧b≤1000):run true fns sub0 aac (k+4) 53 [LN l,.val (.lst ((List.range l.length).map fun i=>akX (cor l i) (ov l (i+l.length-1)) (ov l i) b)),.val (.int b)] s=.ok (.val (.bl true)) s:=
 (aad (F:=avv) rfl rfl).trans (congrArg (aaL true false) (ajC (axy k F hb) F.n1000 fun i _=>F.corner hb i))
end Pg
end IP
end
noncomputable section
namespace IP
namespace Pg
open SegM
structure Ch(n low:Nat)(X Y:Nat→Int):Prop where
 lo:2≤low∧low<n
 x0:X 0=0
 xl:X (n-1)=0
 up:∀i,i+1<low→X i<X (i+1)
 dn:∀i,low≤i→i+1<n→X (i+1)<X i
 yl:∀i,i<low→Y i<0
 yu:∀i,low≤i→i<n→0<Y i
 tp:(n=3∧low=2)∨(low+2≤n∧X (low-1)=X low)
def cy(n:Nat)(X Y:Nat→Int)(i:Nat):Int×Int:=(X (i % n),Y (i % n))
theorem aq6(p:Int×Int):fu 1 0 p=p.1:=by simp[fu]
theorem akz(p:Int×Int):fu (-1) 0 p=-p.1:=by simp[fu]
theorem awP(p:Int×Int):fu 0 1 p=p.2:=by simp[fu]
section
variable{n low:Nat}{X Y:Nat→Int}(H:Ch n low X Y)
include H
theorem Ch.mono{i j:Nat}(h:i<j)(hj:j<low):X i<X j:=by
 induction j with
 | zero=>omega
 | succ j ih=>
  have:=H.up j hj
  by_cases e:i=j
  ·subst e;exact this
  ·have:=ih (by omega) (by omega);omega
theorem Ch.anti{i j:Nat}(h:i<j)(hi:low≤i)(hj:j<n):X j<X i:=by
 induction j with
 | zero=>omega
 | succ j ih=>
  have:=H.dn j (by omega) hj
  by_cases e:i=j
  ·subst e;exact this
  ·have:=ih (by omega) (by omega);omega
theorem Ch.pos{i:Nat}(h0:0<i)(h:i<low):0<X i:=by
 have:=H.mono h0 h
 rw[H.x0]at this
 exact this
theorem Ch.pos2{i:Nat}(h0:low≤i)(h:i+1<n):0<X i:=by
 have:=H.anti (i:=i) (j:=n-1) (by omega) h0 (by omega)
 rw[H.xl]at this
 exact this
theorem Ch.at{i:Nat}(h:i<n):cy n X Y i=(X i,Y i):=by unfold cy;rw[Nat.mod_eq_of_lt h]
theorem Ch.atn:cy n X Y n=(X 0,Y 0):=by unfold cy;rw[Nat.mod_self]
theorem Ch.ne{a:Nat}(ha:a<n):cy n X Y a≠cy n X Y (a+1):=by
 have lo:=H.lo
 intro e
 by_cases h:a+1<n
 ·rw[H.at ha,H.at h]at e
  have e1:X a=X (a+1):=congrArg Prod.fst e
  have e2:Y a=Y (a+1):=congrArg Prod.snd e
  by_cases c1:a+1<low
  ·have:=H.up a c1;omega
  ·by_cases c2:a+1=low
   ·have:=H.yl a (by omega);have:=H.yu (a+1) (by omega) h;omega
   ·have:=H.dn a (by omega) h;omega
 ·have ea:a+1=n:=by omega
  rw[H.at ha,ea,H.atn]at e
  have e2:Y a=Y 0:=congrArg Prod.snd e
  have:=H.yl 0 (by omega);have:=H.yu a (by omega) ha;omega
theorem Ch.sep{a b:Nat}(hab:a+1<b)(hb:b<n)(hn:¬(a=0∧b+1=n)):ag8 (cy n X Y a) (cy n X Y (a+1)) (cy n X Y b) (cy n X Y (b+1)):=by
 have lo:=H.lo
 have tp:=H.tp
 rw[H.at (show a<n by omega),H.at (show a+1<n by omega),H.at hb]
 by_cases hl:b+1=n
 ·
  have xb:X b=0:=by have:=H.xl;rw[show n-1=b by omega]at this;exact this
  have x0:=H.x0
  rw[hl,H.atn]
  refine⟨-1,0,?_⟩
  simp only[akz]
  unfold aaS
  have p1:0<X a:=by
   by_cases c:a<low
   ·exact H.pos (by omega) c
   ·exact H.pos2 (by omega) (by omega)
  have p2:0<X (a+1):=by
   by_cases c:a+1<low
   ·exact H.pos (by omega) c
   ·exact H.pos2 (by omega) (by omega)
  omega
 ·rw[H.at (show b+1<n by omega)]
  by_cases c1:a+1<low
  ·have u1:=H.up a c1
   by_cases c2:b+1<low
   ·refine⟨1,0,?_⟩
    simp only[aq6]
    have:=H.mono hab (by omega)
    have:=H.up b c2
    unfold aaS
    omega
   ·by_cases c3:b+1=low
    ·refine⟨1,0,?_⟩
     simp only[aq6]
     have:=H.mono hab (by omega)
     have e:X b=X (b+1):=by
      rcases tp with t|t
      ·omega
      ·have:=t.2;rw[show low-1=b by omega,←c3]at this;exact this
     unfold aaS
     omega
    ·refine⟨0,1,?_⟩
     simp only[awP]
     have:=H.yl a (by omega)
     have:=H.yl (a+1) (by omega)
     have:=H.yu b (by omega) hb
     have:=H.yu (b+1) (by omega) (by omega)
     unfold aaS
     omega
  ·refine⟨-1,0,?_⟩
   simp only[akz]
   have d1:=H.anti (i:=a+1) (j:=b) hab (by omega) hb
   have d2:=H.dn b (by omega) (by omega)
   have d3:X (a+1)≤X a:=by
    by_cases c2:a+1=low
    ·rcases tp with t|t
     ·omega
     ·have:=t.2;rw[show low-1=a by omega,←c2]at this;omega
    ·have:=H.dn a (by omega) (by omega);omega
   unfold aaS
   omega
theorem Ch.corn{a:Nat}(ha:a<n):aju (cy n X Y a) (cy n X Y (a+1)) (cy n X Y (a+2)):=by
 have lo:=H.lo
 have tp:=H.tp
 have x0:=H.x0
 have xl:=H.xl
 by_cases h1:a+1=n
 ·
  have e2:cy n X Y (a+2)=(X 1,Y 1):=by
   unfold cy
   rw[show a+2=1+n by omega,Nat.add_mod_right,Nat.mod_eq_of_lt (by omega)]
  rw[H.at ha,h1,H.atn,e2]
  refine⟨1,0,.inl ?_⟩
  simp only[aq6]
  have:=H.pos (i:=1) (by omega) (by omega)
  rw[show n-1=a by omega]at xl
  omega
 ·by_cases h2:a+2=n
  ·
   rw[H.at ha,H.at (show a+1<n by omega),h2,H.atn]
   refine⟨1,0,.inr ?_⟩
   simp only[aq6]
   rw[show n-1=a+1 by omega]at xl
   have:0<X a:=by
    by_cases c:a<low
    ·exact H.pos (by omega) c
    ·exact H.pos2 (by omega) (by omega)
   omega
  ·rw[H.at ha,H.at (show a+1<n by omega),H.at (show a+2<n by omega)]
   by_cases c1:a+2<low
   ·refine⟨1,0,.inl ?_⟩
    simp only[aq6]
    have:=H.up a (by omega)
    have:=H.up (a+1) (by omega)
    rw[show a+1+1=a+2 by omega]at this
    omega
   ·by_cases c2:a+2=low
    ·rcases tp with t|t
     ·
      refine⟨Y a-Y (a+1),X (a+1)-X a,.inl ?_⟩
      unfold fu
      dsimp only
      have p1:=H.pos (i:=a+1) (by omega) (by omega)
      have ea:X a=0:=by rw[show a=0 by omega];exact x0
      have ec:X (a+2)=0:=by rw[show a+2=n-1 by omega];exact xl
      have y1:=H.yl a (by omega)
      have y2:=H.yu (a+2) (by omega) (by omega)
      rw[ea,ec]
      have e1:X (a+1)*(Y a-Y (a+1))+Y (a+1)*(X (a+1)-0)=X (a+1)*Y a:=by grind
      rw[e1]
      have e2:0*(Y a-Y (a+1))+Y a*(X (a+1)-0)=X (a+1)*Y a:=by grind
      have e3:0*(Y a-Y (a+1))+Y (a+2)*(X (a+1)-0)=X (a+1)*Y (a+2):=by grind
      rw[e2,e3]
      exact⟨Int.le_refl _,Int.mul_lt_mul_of_pos_left (by omega) p1⟩
     ·refine⟨-1,0,.inr ?_⟩
      simp only[akz]
      have:=t.2
      rw[show low-1=a+1 by omega,←c2]at this
      have:=H.up a (by omega)
      omega
    ·refine⟨-1,0,.inl ?_⟩
     simp only[akz]
     have d1:=H.dn (a+1) (by omega) (by omega)
     rw[show a+1+1=a+2 by omega]at d1
     by_cases c3:a+1=low
     ·rcases tp with t|t
      ·omega
      ·have:=t.2
       rw[show low-1=a by omega,←c3]at this
       omega
     ·have:=H.dn a (by omega) (by omega)
      omega
theorem Ch.area3(h3:n=3)(h2:low=2):0<abL (cy n X Y) n:=by
 have e0:=H.at (i:=0) (by omega)
 have e1:=H.at (i:=1) (by omega)
 have e2:=H.at (i:=2) (by omega)
 have e3:=H.atn
 have x0:=H.x0
 have xl:=H.xl
 have p1:=H.pos (i:=1) (by omega) (by omega)
 have y0:=H.yl 0 (by omega)
 have y2:=H.yu 2 (by omega) (by omega)
 subst h3
 have xl:X 2=0:=xl
 have ea:abL (cy 3 X Y) 3=0+crs (cy 3 X Y 0) (cy 3 X Y 1)+crs (cy 3 X Y 1) (cy 3 X Y 2)+crs (cy 3 X Y 2) (cy 3 X Y 3):=rfl
 rw[ea,e0,e1,e2,e3]
 unfold crs
 dsimp only
 rw[x0,xl]
 have:=Int.mul_pos p1 (show 0<Y 2-Y 0 by omega)
 rw[Int.mul_sub]at this
 have c:Y 0*X 1=X 1*Y 0:=Int.mul_comm _ _
 simp only[Int.zero_mul,Int.mul_zero]
 omega
theorem agz(Q:Nat→Int×Int):∀m,abL Q m=sm (fun i=>((Q i).1-(Q (i+1)).1)*((Q i).2+(Q (i+1)).2)) m+((Q m).1*(Q m).2-(Q 0).1*(Q 0).2)
 | 0=>by simp[abL,sm]
 | m+1=>by
  have ih:=agz Q m
  have e1:abL Q (m+1)=abL Q m+crs (Q m) (Q (m+1)):=rfl
  have e2:sm (fun i=>((Q i).1-(Q (i+1)).1)*((Q i).2+(Q (i+1)).2)) (m+1)=sm (fun i=>((Q i).1-(Q (i+1)).1)*((Q i).2+(Q (i+1)).2)) m+((Q m).1-(Q (m+1)).1)*((Q m).2+(Q (m+1)).2):=rfl
  rw[e1,e2,ih]
  unfold crs
  generalize sm (fun i=>((Q i).1-(Q (i+1)).1)*((Q i).2+(Q (i+1)).2)) m=z
  grind
theorem apv{f:Nat→Int}:∀m,(∀i,i<m→0≤f i)→0≤sm f m
 | 0,_=>Int.le_refl _
 | m+1,h=>by
  have:=apv m fun i hi=>h i (by omega)
  have:=h m (by omega)
  show 0≤sm f m+f m
  omega
theorem anv{a b:Int}(ha:a≤0)(hb:b≤0):0≤a*b:=by
 have:=Int.mul_nonneg (show 0≤-a by omega) (show 0≤-b by omega)
 rw[Int.neg_mul_neg]at this
 exact this
theorem Ch.area4(t:low+2≤n∧X (low-1)=X low):0<abL (cy n X Y) n:=by
 have lo:=H.lo
 rw[agz H]
 have e0:=H.at (i:=0) (by omega)
 have e1:=H.at (i:=1) (by omega)
 rw[H.atn,e0,Int.sub_self,Int.add_zero]
 obtain⟨m,hm⟩:∃m,n=m+1:=⟨n-1,by omega⟩
 generalize hf:(fun i=>((cy n X Y i).1-(cy n X Y (i+1)).1)*((cy n X Y i).2+(cy n X Y (i+1)).2))=f
 have nn:∀i,i<n→0≤f i:=fun i hi=>by
  rw[←hf]
  dsimp only
  by_cases h:i+1=n
  ·rw[H.at hi,h,H.atn]
   have x0:=H.x0
   have xl:=H.xl
   rw[show n-1=i by omega]at xl
   dsimp only
   rw[x0,xl]
   simp
  ·rw[H.at hi,H.at (show i+1<n by omega)]
   dsimp only
   by_cases c1:i+1<low
   ·have:=H.up i c1
    have:=H.yl i (by omega)
    have:=H.yl (i+1) c1
    exact anv H (by omega) (by omega)
   ·by_cases c2:i+1=low
    ·have:=t.2
     rw[show low-1=i by omega,←c2]at this
     rw[this]
     simp
    ·have:=H.dn i (by omega) (by omega)
     have:=H.yu i (by omega) hi
     have:=H.yu (i+1) (by omega) (by omega)
     exact Int.mul_nonneg (by omega) (by omega)
 have f0:0<f 0:=by
  rw[←hf]
  show 0<((cy n X Y 0).1-(cy n X Y 1).1)*((cy n X Y 0).2+(cy n X Y 1).2)
  rw[e0,e1]
  dsimp only
  have:=H.up 0 (by omega)
  have:=H.yl 0 (by omega)
  have:=H.yl 1 (by omega)
  have z:=Int.mul_pos (show 0 < -(X 0-X 1)by rw[show 0+1=1 from rfl]at *;omega) (show 0 < -(Y 0+Y 1)by omega)
  rw[Int.neg_mul_neg]at z
  exact z
 clear hf
 rw[hm,adW]
 have:=apv H (f:=fun i=>f (i+1)) m fun i hi=>nn (i+1) (by omega)
 omega
theorem Ch.nc:NC n (cy n X Y):=by
 have lo:=H.lo
 have pd:∀i d,cy n X Y (i+d)=cy n X Y (i % n+d):=fun i d=>by unfold cy;rw[Nat.mod_add_mod]
 have p0:∀i,cy n X Y i=cy n X Y (i % n):=fun i=>by unfold cy;rw[Nat.mod_mod]
 have pn:∀i,cy n X Y (i+n)=cy n X Y i:=fun i=>by unfold cy;rw[Nat.add_mod_right]
 have lt:∀i,i % n<n:=fun i=>Nat.mod_lt _ (by omega)
 refine⟨by have:=H.tp;omega,pn,fun i=>?_,fun i=>?_,fun i j h1 h2=>?_,?_⟩
 ·rw[p0 i,pd i 1];exact H.ne (lt i)
 ·rw[p0 i,pd i 1,pd i 2];exact H.corn (lt i)
 ·have e1:cy n X Y j=cy n X Y (i % n+(j-i)):=by rw[←pd i (j-i),show i+(j-i)=j by omega]
  have e2:cy n X Y (j+1)=cy n X Y (i % n+(j-i)+1):=by rw[show i % n+(j-i)+1=i % n+(j-i+1)by omega,←pd i (j-i+1),show i+(j-i+1)=j+1 by omega]
  rw[p0 i,pd i 1,e1,e2]
  have ha:=lt i
  generalize i % n=a at *
  obtain⟨d,hd⟩:∃d,j-i=d:=⟨_,rfl⟩
  rw[hd]
  by_cases c:a+d<n
  ·exact H.sep (by omega) c (by omega)
  ·have q1:cy n X Y (a+d)=cy n X Y (a+d-n):=by rw[←pn (a+d-n),show a+d-n+n=a+d by omega]
   have q2:cy n X Y (a+d+1)=cy n X Y (a+d-n+1):=by rw[←pn (a+d-n+1),show a+d-n+1+n=a+d+1 by omega]
   rw[q1,q2]
   exact(H.sep (a:=a+d-n) (b:=a) (by omega) ha (by omega)).swap
 ·have:0<abL (cy n X Y) n:=by
   rcases H.tp with t|t
   ·exact H.area3 t.1 t.2
   ·exact H.area4 t
  omega
end
end Pg
end IP
end
noncomputable section
namespace IP
namespace Pg
open L2
variable{k:Nat}{s:Sto}{l:List (Int×Int)}{row:List Int}
theorem ahN{ts:List T}{m:Nat}{t:T}(hl:ts.length=m+1)(h:ts[m]?=some t):aaQ (.bor ts) (-1)=some t:=by
 simp[aaQ,L2.atI,L2.ixN,hl]
 rw[if_pos (by omega)]
 have:((-1:Int)+((m:Int)+1)).toNat=m:=by omega
 simp[this,h]
theorem aeu{ts:List T}{m:Nat}{t:T}(hl:ts.length=m+1)(h:ts[m]?=some t):aaQ (.val (.lst ts)) (-1)=some t:=by
 simp[aaQ,L2.atI,L2.ixN,hl]
 rw[if_pos (by omega)]
 have:((-1:Int)+((m:Int)+1)).toNat=m:=by omega
 simp[this,h]
structure Far(far:List Int)(n:Nat):Prop where
 len:far.length=n
 z:far[0]?=some 0
 up:∀i,i+1<n→far.getD i 0<far.getD (i+1) 0
 bd:∀v∈far,0≤v∧v≤100
theorem adQ{xs:List Int}{v:Int}{i:Nat}(h:i<xs.length):(xs++[v]).getD i 0=xs.getD i 0:=by
 rw[List.getD_eq_getElem?_getD,List.getD_eq_getElem?_getD,List.getElem?_append_left h]
theorem ak9{xs:List Int}{v:Int}{n:Nat}(h:xs.length=n):(xs++[v]).getD n 0=v:=by
 rw[List.getD_eq_getElem?_getD,List.getElem?_append_right (by omega)]
 simp[h]
theorem ab2{xs:List Int}{i:Nat}(h:i<xs.length):xs.getD i 0=xs[i]:=by
 rw[List.getD_eq_getElem?_getD,List.getElem?_eq_getElem h]
 rfl
def gD(row:List Int)(i:Nat):Int:=row.getD i 0
theorem afH{row:List Int}{i:Nat}{v:Int}(h:row[i]?=some v):gD row i=v:=by unfold gD;rw[List.getD_eq_getElem?_getD,h];rfl
def stF(row:List Int)(a:Nat):Nat→List Int
 | 0=>[0]
 | m+1=>stF row a m++[(stF row a m).getD m 0+1+Int.fmod (gD row (a+m)) 4]
theorem ajl(hr:∀v∈row,aa6 v)(hl:58≤row.length){a n:Nat}(h1:1≤n)(hn:n≤24)(ha:a+n≤40):∃far:List Int,Far far n∧far=stF row a (n-1)∧run true fns sub0 aac (k+1) 45 [.val (.lst (iL row)),.val (.int a),.val (.int n)] s=.ok (.val (.lst (iL far))) s:=by
 obtain⟨σ',e,far,c,rfl,h2,hz,hu,h3,hp⟩:=aaJ (g:=.one 4) (body:=fun σ s=>exs (cfX fns sub0 k) ai9 σ s) (s:=s)
  (fun m σ=>∃(far:List Int) (c:Option B),σ=[some (.val (.lst (iL row))),iV a,iV n,some (.own (iL far)),c]∧far.length=m+1∧far[0]?=some 0∧(∀i,i+1<m+1→far.getD i 0<far.getD (i+1) 0)∧(∀v∈far,0≤v∧v≤4*m)∧far=stF row a m) (aai 0 ((n-1:Nat):Int)) 0 [some (.val (.lst (iL row))),iV a,iV n,some (.own [.int 0]),none] ⟨[0],none,rfl,rfl,rfl,fun i h=>by omega,by simp,rfl⟩ (by
   rintro m t σ hm ⟨far,c,rfl,h2,hz,hu,h3,hp⟩
   obtain⟨rfl,hlt⟩:=aav hm
   obtain⟨x,_,f1,fx⟩:=abe hr (m:=a+m) (by omega)
   rw[show((a+m:Nat):Int)=(a:Int)+(m:Int)by omega]at f1
   have hf:m<far.length:=by omega
   have g1:=ahN (ts:=iL far) (m:=m) (t:=.int far[m]) (by simp[h2]) (by simp[hf])
   have g2:=h3 _ (List.getElem_mem hf)
   have g3:=aay (i:=x) (j:=4) (by decide)
   have g4:=aap x (j:=4) (by decide)
   have hlim:far.length<lim:=Nat.lt_of_lt_of_le (show far.length<1000 by omega) abr
   refine⟨[some (.val (.lst (iL row))),iV a,iV n,some (.own (iL far)),iV m],[some (.val (.lst (iL row))),iV a,iV n,some (.own (iL (far++[far[m]+1+Int.fmod x 4]))),iV m],by simp[aal],by simp[f1,g1,g3,abE,aas,hlim],far++[far[m]+1+Int.fmod x 4],iV m,rfl,by simp[h2],?_,?_,?_,?_⟩
   ·rw[List.getElem?_append_left (by omega)];exact hz
   ·intro i hi
    by_cases q:i=m
    ·subst q
     rw[adQ hf,ak9 (by omega),ab2 hf]
     omega
    ·rw[adQ (by omega),adQ (by omega)]
     exact hu i (by omega)
   ·intro v hv
    rcases List.mem_append.mp hv with z|z
    ·have:=h3 v z;omega
    ·rw[List.mem_singleton.mp z];omega
   ·rw[show 0+m+1=m+1 by omega]
    show _=stF row a m++[(stF row a m).getD m 0+1+Int.fmod (gD row (a+m)) 4]
    rw[afH fx,←ab2 hf]
    rw[show 0+m=m by omega]at hp
    rw[←hp])
 rw[aa1]at h2 hu h3 hp
 refine⟨far,⟨by omega,hz,fun i hi=>hu i (by omega),fun v hv=>?_⟩,by rw[hp];congr 1;omega,?_⟩
 ·have:=h3 v hv
  omega
 ·rw[aad (F:=arB) rfl rfl]
  have en:(n:Int)-1=((n-1:Nat):Int):=by omega
  have hx:exs (cfX fns sub0 k) awt (aaC arB [.val (.lst (iL row)),.val (.int a),.val (.int n)]) s=.ret (.val (.lst (iL far))) s:=by
   refine(aaa (σ1:=[some (.val (.lst (iL row))),iV a,iV n,some (.own [.int 0]),none]) (s1:=s) (by simp[aba,aas])).trans ?_
   refine(aaa ((aaV (ts:=aai 0 ((n-1:Nat):Int)) (s1:=s) (abm (n:=n-1) (by simp[en]) (by omega)) (by intro _ h;cases h)).trans e)).trans ?_
   simp[frz]
  rw[hx]
  rfl
def ado(A B:Nat)(p:Int×Int):Prop:=p.1.natAbs≤A∧p.2.natAbs≤B
def smn(B:Nat)(p:Int×Int):Prop:=p.1.natAbs≤B∧p.2.natAbs≤B
theorem ad2{C:Cf}{c:E}{a b:List S}{σ:Fr}{d:Bool}(h:ev C c .t σ s=.ok (.val (.bl d)) s):ex C (.ifs c a b) σ s=if d=true then exs C a σ s else exs C b σ s:=by
 rw[ae6]
 rw[h]
 simp
theorem aia{xs:List Int}{m:Nat}(h:m<xs.length):aaQ (.val (.lst (iL xs))) (m:Int)=some (.int (xs.getD m 0)):=by rw[ab2 h];exact aaU (by simp[h])
theorem ahK{a b:Int}(ha:0≤a∧a≤100)(hb:0≤b∧b≤100):(a*b).natAbs≤10000:=aaf (m:=100) (n:=100) (by omega) (by omega)
abbrev g27(row:List Int)(n low high:Nat)(tall:Int)(bot tp:List Int)(v7 v8:Option B):Fr:=[some (.val (.lst (iL row))),iV n,iV low,iV high,iV tall,some (.val (.lst (iL bot))),some (.val (.lst (iL tp))),v7,v8]
def LoH(l:List (Int×Int))(bot:List Int)(tz:Int)(m:Nat):Prop:=∀i,i<m→∃y,l[i]?=some (bot.getD i 0*tz,y)∧y<0
def UpH(l:List (Int×Int))(low high:Nat)(tp:List Int)(bz:Int)(m:Nat):Prop:=∀i,i<m→∃y,l[low+i]?=some (tp.getD (high-1-i) 0*bz,y)∧0<y
theorem LoH.app{l:List (Int×Int)}{bot:List Int}{tz:Int}{m:Nat}(h:LoH l bot tz m)(p:Int×Int):LoH (l++[p]) bot tz m:=fun i hi=>by
 obtain⟨y,e,hy⟩:=h i hi
 exact⟨y,by rw[List.getElem?_append_left (List.getElem?_eq_some_iff.mp e).1];exact e,hy⟩
theorem UpH.app{l:List (Int×Int)}{low high:Nat}{tp:List Int}{bz:Int}{m:Nat}(h:UpH l low high tp bz m)(p:Int×Int):UpH (l++[p]) low high tp bz m:=fun i hi=>by
 obtain⟨y,e,hy⟩:=h i hi
 exact⟨y,by rw[List.getElem?_append_left (List.getElem?_eq_some_iff.mp e).1];exact e,hy⟩
def loF(row bot:List Int)(tz tall:Int)(m:Nat):List (Int×Int):=(List.range m).map fun i=>(bot.getD i 0*tz,-1-Int.fmod (gD row (26+i)) tall)
def upF(row tp:List Int)(bz tall:Int)(low high m:Nat):List (Int×Int):=(List.range m).map fun i=>(tp.getD (high-1-i) 0*bz,1+Int.fmod (gD row (26+low+i)) tall)
theorem ahi{C:Cf}(hr:∀v∈row,aa6 v)(hl:58≤row.length){n low high:Nat}(hlow:low≤24){tall tz:Int}{bot tp:List Int}(hb:Far bot low)(ht:0<tall∧tall≤900)(hz:0≤tz∧tz≤100)(tlast:aaQ (.val (.lst (iL tp))) (-1)=some (.int tz)):
  ∃(l:List (Int×Int)) (c:Option B),l=loF row bot (if 1<tz then tz else 1) tall low∧l.length=low∧LoH l bot (if 1<tz then tz else 1) low∧(∀p∈l,ado 10000 901 p)∧abH (.one 8) (fun σ s=>exs C afG σ s) (aai 0 low) (g27 row n low high tall bot tp (some (.own [])) none) s=.next (g27 row n low high tall bot tp (some (.own (l.map pt))) c) s:=by
 obtain⟨σ',e,l1,c,rfl,x1,x2,x3,x4⟩:=aaJ (g:=.one 8) (body:=fun σ s=>exs C afG σ s) (s:=s)
  (fun m σ=>∃(l:List (Int×Int)) (c:Option B),σ=g27 row n low high tall bot tp (some (.own (l.map pt))) c∧l.length=m∧LoH l bot (if 1<tz then tz else 1) m∧(∀p∈l,ado 10000 901 p)∧l=loF row bot (if 1<tz then tz else 1) tall m) (aai 0 low) 0 (g27 row n low high tall bot tp (some (.own [])) none) ⟨[],none,rfl,rfl,fun i h=>by omega,by simp,rfl⟩ (by
   rintro m t σ hm ⟨l,c,rfl,h2,h4,h3,hp⟩
   obtain⟨rfl,hlt⟩:=aav hm
   obtain⟨x,_,f1,fx⟩:=abe hr (m:=26+m) (by omega)
   rw[show((26+m:Nat):Int)=26+(m:Int)by omega]at f1
   have hbl:m<bot.length:=by have:=hb.len;omega
   have f2:=aia hbl
   have hbv:=hb.bd _ (List.getElem_mem hbl)
   rw[←ab2 hbl]at hbv
   have g1:=aay (i:=x) ht.1
   have g2:=aap x ht.1
   have g3:=aag (i:=bot.getD m 0) (j:=if 1<tz then tz else 1) (aab (by omega))
   have g4:=ahK (a:=bot.getD m 0) (b:=if 1<tz then tz else 1) hbv (by split<;>omega)
   have hlim:l.length<lim:=Nat.lt_of_lt_of_le (show l.length<1000 by omega) abr
   refine⟨g27 row n low high tall bot tp (some (.own (l.map pt))) (iV m),g27 row n low high tall bot tp (some (.own ((l++[(bot.getD m 0*(if 1<tz then tz else 1),-1-Int.fmod x tall)]).map pt))) (iV m),by simp[aal],?_,l++[(bot.getD m 0*(if 1<tz then tz else 1),-1-Int.fmod x tall)],iV m,rfl,by simp[h2],?_,?_,?_⟩
   ·generalize bot.getD m 0*(if 1<tz then tz else 1)=zz at *
    generalize bot.getD m 0=tw at *
    simp[f1,f2,g1,g3,tlast,abE,aas,hlim,pt]
   ·intro i hi
    by_cases q:i=m
    ·subst q
     exact⟨_,by rw[List.getElem?_append_right (by omega),show i-l.length=0 by omega];rfl,by omega⟩
    ·exact(h4.app _) i (by omega)
   ·intro v hv
    rcases List.mem_append.mp hv with z|z
    ·exact h3 v z
    ·rw[List.mem_singleton.mp z];exact⟨g4,by show(-1-Int.fmod x tall).natAbs≤901;omega⟩
   ·rw[show 0+m+1=m+1 by omega]
    rw[show 0+m=m by omega]at hp
    show _=loF row bot (if 1<tz then tz else 1) tall (m+1)
    unfold loF at hp ⊢
    rw[List.range_succ,List.map_append,←hp,List.map_cons,List.map_nil,afH fx])
 rw[aa1,show 0+((low:Int)-0).toNat=low by omega]at x1 x2 x4
 exact⟨l1,c,x4,x1,x2,x3,e⟩
theorem agE{C:Cf}(hr:∀v∈row,aa6 v)(hl:58≤row.length){n low high:Nat}(hlow:low+high≤24){tall bz tz:Int}{bot tp:List Int}(hb:Far tp high)(ht:0<tall∧tall≤900)(hz:0≤bz∧bz≤100)(blast:aaQ (.val (.lst (iL bot))) (-1)=some (.int bz)){l0:List (Int×Int)}(l0l:l0.length=low)(l0h:LoH l0 bot tz low)(l0b:∀p∈l0,ado 10000 901 p)(c0:Option B):
  ∃(l:List (Int×Int)) (c:Option B),l=l0++upF row tp bz tall low high high∧l.length=low+high∧LoH l bot tz low∧UpH l low high tp bz high∧(∀p∈l,ado 10000 901 p)∧abH (.one 8) (fun σ s=>exs C afI σ s) (aai 0 high) (g27 row n low high tall bot tp (some (.own (l0.map pt))) c0) s=.next (g27 row n low high tall bot tp (some (.own (l.map pt))) c) s:=by
 obtain⟨σ',e,l1,c,rfl,x1,x2,x3,x4,x5⟩:=aaJ (g:=.one 8) (body:=fun σ s=>exs C afI σ s) (s:=s)
  (fun m σ=>∃(l:List (Int×Int)) (c:Option B),σ=g27 row n low high tall bot tp (some (.own (l.map pt))) c∧l.length=low+m∧LoH l bot tz low∧UpH l low high tp bz m∧(∀p∈l,ado 10000 901 p)∧l=l0++upF row tp bz tall low high m) (aai 0 high) 0 (g27 row n low high tall bot tp (some (.own (l0.map pt))) c0) ⟨l0,c0,rfl,by omega,l0h,fun i h=>by omega,l0b,by simp[upF]⟩ (by
   rintro m t σ hm ⟨l,c,rfl,h2,h4,h5,h3,hp⟩
   obtain⟨rfl,hlt⟩:=aav hm
   obtain⟨x,_,f1,fx⟩:=abe hr (m:=26+low+m) (by omega)
   rw[show((26+low+m:Nat):Int)=26+(low:Int)+(m:Int)by omega]at f1
   have hbl:high-1-m<tp.length:=by have:=hb.len;omega
   have f2:=aia hbl
   rw[show((high-1-m:Nat):Int)=(high:Int)-1-(m:Int)by omega]at f2
   have hbv:=hb.bd _ (List.getElem_mem hbl)
   rw[←ab2 hbl]at hbv
   have g1:=aay (i:=x) ht.1
   have g2:=aap x ht.1
   have g3:=aag (i:=tp.getD (high-1-m) 0) (j:=bz) (aab (by omega))
   have g4:=ahK (a:=tp.getD (high-1-m) 0) (b:=bz) hbv hz
   have hlim:l.length<lim:=Nat.lt_of_lt_of_le (show l.length<1000 by omega) abr
   refine⟨g27 row n low high tall bot tp (some (.own (l.map pt))) (iV m),g27 row n low high tall bot tp (some (.own ((l++[(tp.getD (high-1-m) 0*bz,1+Int.fmod x tall)]).map pt))) (iV m),by simp[aal],?_,l++[(tp.getD (high-1-m) 0*bz,1+Int.fmod x tall)],iV m,rfl,by simp[h2];omega,h4.app _,?_,?_,?_⟩
   ·generalize tp.getD (high-1-m) 0*bz=zz at *
    generalize tp.getD (high-1-m) 0=tw at *
    simp[f1,f2,g1,g3,blast,abE,aas,hlim,pt]
   ·intro i hi
    by_cases q:i=m
    ·subst q
     exact⟨_,by rw[List.getElem?_append_right (by omega),show low+i-l.length=0 by omega];rfl,by omega⟩
    ·exact(h5.app _) i (by omega)
   ·intro v hv
    rcases List.mem_append.mp hv with z|z
    ·exact h3 v z
    ·rw[List.mem_singleton.mp z];exact⟨g4,by show(1+Int.fmod x tall).natAbs≤901;omega⟩
   ·rw[show 0+m+1=m+1 by omega]
    rw[show 0+m=m by omega]at hp
    show _=l0++upF row tp bz tall low high (m+1)
    unfold upF at hp ⊢
    rw[List.range_succ,List.map_append,←List.append_assoc,←hp,List.map_cons,List.map_nil,afH fx])
 rw[aa1,show 0+((high:Int)-0).toNat=high by omega]at x1 x3 x5
 exact⟨l1,c,x5,x1,x2,x3,x4,e⟩
theorem Far.z0{far:List Int}{n:Nat}(F:Far far n):far.getD 0 0=0:=by
 rw[List.getD_eq_getElem?_getD,F.z];rfl
theorem Far.pos{far:List Int}{n:Nat}(F:Far far n){i:Nat}(h0:0<i)(hi:i<n):0<far.getD i 0:=by
 induction i with
 | zero=>omega
 | succ i ih=>
  have:=F.up i hi
  by_cases e:i=0
  ·subst e;rw[F.z0]at this;exact this
  ·have:=ih (by omega) (by omega);omega
theorem Far.bdD{far:List Int}{n:Nat}(F:Far far n){i:Nat}(hi:i<n):0≤far.getD i 0∧far.getD i 0≤100:=by
 have hl:i<far.length:=by rw[F.len];exact hi
 rw[ab2 hl]
 exact F.bd _ (List.getElem_mem hl)
theorem asl{low high:Nat}{bot tp:List Int}(hb:Far bot low)(ht:Far tp high)(h2:2≤low)(hh:(low=2∧high=1)∨2≤high)(hl:l.length=low+high)
  (L:LoH l bot (if 1<tp.getD (high-1) 0 then tp.getD (high-1) 0 else 1) low) (U:UpH l low high tp (bot.getD (low-1) 0) high):NC l.length (cor l):=by
 have tz:0<(if 1<tp.getD (high-1) 0 then tp.getD (high-1) 0 else 1):=by split<;>omega
 have bz:=hb.pos (i:=low-1) (by omega) (by omega)
 have lX:∀i,i<low→(l.getD i (0,0)).1=bot.getD i 0*(if 1<tp.getD (high-1) 0 then tp.getD (high-1) 0 else 1)∧(l.getD i (0,0)).2<0:=fun i hi=>by
  obtain⟨y,e,hy⟩:=L i hi
  rw[List.getD_eq_getElem?_getD,e]
  exact⟨rfl,hy⟩
 have uX:∀i,i<high→(l.getD (low+i) (0,0)).1=tp.getD (high-1-i) 0*bot.getD (low-1) 0∧0<(l.getD (low+i) (0,0)).2:=fun i hi=>by
  obtain⟨y,e,hy⟩:=U i hi
  rw[List.getD_eq_getElem?_getD,e]
  exact⟨rfl,hy⟩
 have H:Ch (low+high) low (fun i=>(l.getD i (0,0)).1) (fun i=>(l.getD i (0,0)).2):=by
  refine⟨by omega,?_,?_,fun i hi=>?_,fun i hi hi2=>?_,fun i hi=>(lX i hi).2,fun i hi hi2=>?_,?_⟩
  ·show(l.getD 0 (0,0)).1=0
   rw[(lX 0 (by omega)).1,hb.z0,Int.zero_mul]
  ·show(l.getD (low+high-1) (0,0)).1=0
   rw[show low+high-1=low+(high-1)by omega,(uX (high-1) (by omega)).1,show high-1-(high-1)=0 by omega,ht.z0,Int.zero_mul]
  ·show(l.getD i (0,0)).1<(l.getD (i+1) (0,0)).1
   rw[(lX i (by omega)).1,(lX (i+1) hi).1]
   exact Int.mul_lt_mul_of_pos_right (hb.up i hi) tz
  ·show(l.getD (i+1) (0,0)).1<(l.getD i (0,0)).1
   obtain⟨j,rfl⟩:∃j,i=low+j:=⟨i-low,by omega⟩
   rw[show low+j+1=low+(j+1)by omega,(uX j (by omega)).1,(uX (j+1) (by omega)).1]
   have:=ht.up (high-1-(j+1)) (by omega)
   rw[show high-1-(j+1)+1=high-1-j by omega]at this
   exact Int.mul_lt_mul_of_pos_right this bz
  ·obtain⟨j,rfl⟩:∃j,i=low+j:=⟨i-low,by omega⟩
   exact(uX j (by omega)).2
  ·rcases hh with⟨q1,q2⟩|q
   ·left;omega
   ·right
    refine⟨by omega,?_⟩
    show(l.getD (low-1) (0,0)).1=(l.getD low (0,0)).1
    have e:=(uX 0 (by omega)).1
    rw[Nat.add_zero]at e
    rw[(lX (low-1) (by omega)).1,e,show high-1-0=high-1 by omega]
    have:=ht.pos (i:=high-1) (by omega) (by omega)
    rw[Int.mul_comm]
    congr 1
    split<;>omega
 have N:=H.nc
 rw[←hl]at N
 have e:cy l.length (fun i=>(l.getD i (0,0)).1) (fun i=>(l.getD i (0,0)).2)=cor l:=funext fun i=>rfl
 rw[e]at N
 exact N
def acD(l:List (Int×Int))(n:Nat):Prop:=∃(low high:Nat) (bot tp:List Int),n=low+high∧2≤low∧((low=2∧high=1)∨2≤high)∧Far bot low∧Far tp high∧l.length=low+high∧LoH l bot (if 1<tp.getD (high-1) 0 then tp.getD (high-1) 0 else 1) low∧UpH l low high tp (bot.getD (low-1) 0) high
structure Has27(C:Cf)(row:List Int)(s:Sto):Prop where
 h26:∀a n:Nat,1≤n→n≤24→a+n≤40→∃far:List Int,Far far n∧far=stF row a (n-1)∧C.cf 45 [.val (.lst (iL row)),.val (.int a),.val (.int n)] s=.ok (.val (.lst (iL far))) s
abbrev alv(row:List Int)(n:Nat)(v2 v3 v4 v5 v6:Option B):Fr:=[some (.val (.lst (iL row))),iV n,v2,v3,v4,v5,v6,none,none]
def adN(row:List Int)(n:Nat):Nat:=if 3<n then 2+(Int.fmod (gD row 0) ((n:Int)-3)).toNat else 2
def akg(row:List Int):Int:=if Int.fmod (gD row 1) 4=0 then 1 else if Int.fmod (gD row 1) 4=1 then 3 else if Int.fmod (gD row 1) 4=2 then 50 else 900
theorem ajf{z:Int}(h:0≤z∧z<4):aaQ (.val (.lst [.int 1,.int 3,.int 50,.int 900])) z=some (.int (if z=0 then 1 else if z=1 then 3 else if z=2 then 50 else 900)):=by
 have:z=0∨z=1∨z=2∨z=3:=by omega
 rcases this with rfl|rfl|rfl|rfl<;>rfl
theorem aj0{r:R}{z a b:Int}(h1:aaQ r z=some (.int a))(h2:aaQ r z=some (.int b)):a=b:=by
 rw[h1]at h2
 cases h2
 rfl
def abJ(row:List Int)(n:Nat):List (Int×Int):=
 loF row (stF row 2 (adN row n-1)) (if 1<(stF row (2+adN row n) (n-adN row n-1)).getD (n-adN row n-1) 0 then(stF row (2+adN row n) (n-adN row n-1)).getD (n-adN row n-1) 0 else 1) (akg row) (adN row n)
  ++ upF row (stF row (2+adN row n) (n-adN row n-1)) ((stF row 2 (adN row n-1)).getD (adN row n-1) 0) (akg row) (adN row n) (n-adN row n) (n-adN row n)
theorem agW{C:Cf}(hC:Has27 C row s)(hr:∀v∈row,aa6 v)(hl:58≤row.length){n:Nat}(h3:3≤n)(hn:n≤24):∃l:List (Int×Int),l=abJ row n∧acD l n∧(∀p∈l,ado 10000 901 p)∧exs C auR (alv row n none none none none none) s=.ret (LN l) s:=by
 obtain⟨v0,_,r0,x0⟩:=abe hr (m:=0) (by omega)
 obtain⟨v1,_,r1,x1'⟩:=abe hr (m:=1) (by omega)
 have r0':aaQ (.val (.lst (iL row))) 0=some (.int v0):=r0
 have r1':aaQ (.val (.lst (iL row))) 1=some (.int v1):=r1
 have hm:=aay (i:=v1) (j:=4) (by decide)
 have hz:=aap v1 (j:=4) (by decide)
 have hv1:=afH x1'
 have hv0:=afH x0
 obtain⟨tall,ht,e2⟩:=atJ (a:=1) (b:=3) (c:=50) (d:=900) hz.1 hz.2
 have ht0:0<tall∧tall≤900:=by omega
 obtain⟨low,lo0,lo1,lo2,lo3⟩:∃low:Nat,low=adN row n∧2≤low∧((n=3∧low=2)∨low+2≤n)∧ex C (.ifs (.cmp .gt (.var 1) (.cst (.int 3))) [(.asg 2 (.bin .add (.cst (.int 2)) (.bin .mod (.sub (.var 0) (.cst (.int 0))) (.bin .sub (.var 1) (.cst (.int 3))))))] []) (alv row n (iV 2) none none none none) s=.next (alv row n (iV low) none none none none) s:=by
  by_cases h:3<n
  ·have g1:=aay (i:=v0) (j:=(n:Int)-3) (by omega)
   have g2:=aap v0 (j:=(n:Int)-3) (by omega)
   have hlow:2+(Int.fmod v0 ((n:Int)-3)).toNat=adN row n:=by unfold adN;rw[if_pos h,hv0]
   generalize Int.fmod v0 ((n:Int)-3)=y at g1 g2 hlow
   refine⟨2+y.toNat,hlow,by omega,by omega,?_⟩
   rw[ad2 (d:=true) (by simp;omega)]
   rw[show((2+y.toNat:Nat):Int)=2+y by omega]
   simp[r0',g1]
  ·refine⟨2,by unfold adN;rw[if_neg h],by omega,by omega,?_⟩
   rw[ad2 (d:=false) (by simp;omega)]
   simp
 obtain⟨high,hi⟩:∃high:Nat,n=low+high:=⟨n-low,by omega⟩
 obtain⟨bot,fb,pb,b3⟩:=hC.h26 2 low (by omega) (by omega) (by omega)
 obtain⟨tp,ft,pt',t3⟩:=hC.h26 (2+low) high (by omega) (by omega) (by omega)
 rw[show((2+low:Nat):Int)=2+(low:Int)by omega]at t3
 have tl:=ft.len
 have bl:=fb.len
 have tlast:=aeu (ts:=iL tp) (m:=high-1) (t:=.int (tp.getD (high-1) 0)) (by simp;omega) (by rw[ab2 (show high-1<tp.length by omega)];simp[show high-1<tp.length by omega])
 have blast:=aeu (ts:=iL bot) (m:=low-1) (t:=.int (bot.getD (low-1) 0)) (by simp;omega) (by rw[ab2 (show low-1<bot.length by omega)];simp[show low-1<bot.length by omega])
 obtain⟨l1,c1,xp,x1,x2,x3,x4⟩:=ahi (C:=C) (s:=s) (n:=n) (high:=high) hr hl (by omega) fb ht0 (ft.bdD (i:=high-1) (by omega)) tlast
 obtain⟨l2,c2,yp,y1,y2,y3,y4,y5⟩:=agE (C:=C) (s:=s) (n:=n) hr hl (by omega) ft ht0 (fb.bdD (i:=low-1) (by omega)) blast x1 x2 x3 c1
 have htall:tall=akg row:=by
  unfold akg
  rw[hv1]
  have:=aj0 e2 (ajf hz)
  exact this
 refine⟨l2,?_,⟨low,high,bot,tp,hi,lo1,by omega,fb,ft,y1,y2,y3⟩,y4,?_⟩
 ·rw[yp,xp]
  unfold abJ
  rw[←lo0,←htall,show n-low=high by omega,←pb,←pt']
 have ehi:(n:Int)-(low:Int)=(high:Int):=by omega
 have b3':C.cf 45 [.val (.lst (iL row)),.val (.int 2),.val (.int low)] s=.ok (.val (.lst (iL bot))) s:=b3
 refine(aaa (σ1:=alv row n (iV 2) none none none none) (s1:=s) (by simp)).trans ?_
 refine(aaa lo3).trans ?_
 refine(aaa (σ1:=alv row n (iV low) (iV high) none none none) (s1:=s) (by simp[ehi])).trans ?_
 refine(aaa (σ1:=alv row n (iV low) (iV high) (iV tall) none none) (s1:=s) (by simp[r1',hm,e2])).trans ?_
 refine(aaa (σ1:=alv row n (iV low) (iV high) (iV tall) (some (.val (.lst (iL bot)))) none) (s1:=s) (by simp[b3'])).trans ?_
 refine(aaa (σ1:=alv row n (iV low) (iV high) (iV tall) (some (.val (.lst (iL bot)))) (some (.val (.lst (iL tp))))) (s1:=s) (by simp[t3])).trans ?_
 refine(aaa (σ1:=g27 row n low high tall bot tp (some (.own [])) none) (s1:=s) (by simp[aba,aas])).trans ?_
 refine(aaa ((aaV (ts:=aai 0 low) (s1:=s) (abm (n:=low) (by simp) (by omega)) (by intro _ h;cases h)).trans x4)).trans ?_
 refine(aaa ((aaV (ts:=aai 0 high) (s1:=s) (abm (n:=high) (by simp) (by omega)) (by intro _ h;cases h)).trans y5)).trans ?_
 simp[frz]
theorem akD(hr:∀v∈row,aa6 v)(hl:58≤row.length){n:Nat}(h3:3≤n)(hn:n≤24):acD (abJ row n) n∧(∀p∈abJ row n,ado 10000 901 p)∧run true fns sub0 aac (k+2) 46 [.val (.lst (iL row)),.val (.int n)] s=.ok (LN (abJ row n)) s:=by
 obtain⟨l,hp,h1,h2,e⟩:=agW (C:=cfX fns sub0 (k+1)) (s:=s) ⟨fun a n q1 q2 q3=>by
  obtain⟨far,f,fp,e⟩:=ajl (k:=k) (s:=s) hr hl q1 q2 q3
  exact⟨far,f,fp,aa3 e rfl⟩⟩ hr hl h3 hn
 subst hp
 exact⟨h1,h2,(aad (F:=avK) rfl rfl).trans (congrArg (aaL true false) e)⟩
theorem afS{C:Cf}{e:E}{i j:Nat}{x:Nat}{σ:Fr}{g:Int×Int→Int×Int}(hx:ev C (.var x) .i σ s=.ok (LN l) s)
  (h:∀p∈l,ev C e .v (put (put σ i (.int p.1)) j (.int p.2)) s=.ok (PT (g p)) s):ev C (.comp e (.many [i,j]) (.var x)) .v σ s=.ok (LN (l.map g)) s:=by
 refine ahV (ts:=l.map pt) (s1:=s) hx ?_
 clear hx
 induction l with
 | nil=>rfl
 | cons p l ih=>
  have h0:=h p (by simp)
  have h1:=ih fun y hy=>h y (by simp[hy])
  simp only[List.map_cons]
  unfold aat
  rw[show onO (aal σ (.many [i,j]) (pt p)) (fun σ'=>one (ev C e .v σ' s))=.ok (some (pt (g p))) s by show one (ev C e .v (put (put σ i (.int p.1)) j (.int p.2)) s)=_;rw[h0];rfl]
  simp only[Res.bind_ok]
  rw[h1]
  rfl
theorem aiu{ts:List T}{m:Nat}(h:m≤ts.length):aeL (.val (.lst ts)) (some (m:Int)) none=some (.val (.lst (ts.drop m))):=by
 have e:HT.sIx ts.length 0 (some (m:Int))=m:=by rw[HT.sIx_nat];omega
 have e2:HT.sIx ts.length ts.length none=ts.length:=rfl
 simp[aeL,am6,e,e2,←List.length_drop,List.take_length]
theorem aoO{ts:List T}{m:Nat}(h:m≤ts.length):aeL (.val (.lst ts)) none (some (m:Int))=some (.val (.lst (ts.take m))):=by
 have e:HT.sIx ts.length ts.length (some (m:Int))=m:=by rw[HT.sIx_nat];omega
 have e2:HT.sIx ts.length 0 none=0:=rfl
 simp[aeL,am6,e,e2]
theorem ahW{a b:List T}(h:a.length+b.length≤1000):opR .add (.val (.lst a)) (.val (.lst b))=some (.val (.lst (a++b))):=by
 have:a.length+b.length≤lim:=Nat.le_trans h abr
 simp[opR,this]
theorem ahx{l:List (Int×Int)}{m:Nat}(hm:m<l.length)(i:Nat):cor (l.drop m++l.take m) i=cor l (i+m):=by
 have hl:(l.drop m++l.take m).length=l.length:=by simp;omega
 unfold cor
 rw[hl,List.getD_eq_getElem?_getD,List.getD_eq_getElem?_getD]
 have hi:=Nat.mod_lt i (show 0<l.length by omega)
 have e:(i+m) % l.length=if i % l.length+m<l.length then i % l.length+m else i % l.length+m-l.length:=by
  rw[Nat.add_mod,Nat.mod_eq_of_lt hm]
  split
  ·exact Nat.mod_eq_of_lt (by assumption)
  ·rw[Nat.mod_eq_sub_mod (by omega)];exact Nat.mod_eq_of_lt (by omega)
 rw[e]
 generalize i % l.length=a at *
 by_cases k:a+m<l.length
 ·rw[if_pos k,List.getElem?_append_left (by simp;omega),List.getElem?_drop,Nat.add_comm]
 ·rw[if_neg k,List.getElem?_append_right (by simp;omega),List.length_drop,List.getElem?_take_of_lt (by omega),show a-(l.length-m)=a+m-l.length by omega]
theorem ajm{l:List (Int×Int)}(h0:0<l.length)(i:Nat):cor l.reverse i=cor l (l.length-1-i % l.length):=by
 unfold cor
 have hi:=Nat.mod_lt i h0
 rw[List.length_reverse,List.getD_eq_getElem?_getD,List.getD_eq_getElem?_getD,List.getElem?_reverse hi,Nat.mod_eq_of_lt (show l.length-1-i % l.length<l.length by omega)]
theorem acM{l:List (Int×Int)}(h0:0<l.length)(f:Int×Int→Int×Int)(i:Nat):cor (l.map f) i=f (cor l i):=by
 unfold cor
 have hi:=Nat.mod_lt i h0
 rw[List.length_map,List.getD_eq_getElem?_getD,List.getD_eq_getElem?_getD]
 simp[hi]
abbrev NCL(l:List (Int×Int)):Prop:=NC l.length (cor l)
theorem aep{l':List (Int×Int)}{n:Nat}{Q:Nat→Int×Int}(N:NC n Q)(hn:l'.length=n)(e:∀i,cor l' i=Q i):NCL l':=by
 have:cor l'=Q:=funext e
 unfold NCL
 rw[hn,this]
 exact N
theorem NCL.lean(N:NCL l)(L:Int):NCL (l.map (lean L)):=aep (NC.lean N L) (by simp) (acM (by have:=N.n3;omega) _)
theorem NCL.quart(N:NCL l):NCL (l.map quart):=aep (NC.quart N) (by simp) (acM (by have:=N.n3;omega) _)
theorem NCL.shf(N:NCL l)(x y:Int):NCL (l.map (shf x y)):=aep (NC.shf N x y) (by simp) (acM (by have:=N.n3;omega) _)
theorem NCL.rev(N:NCL l):NCL l.reverse:=aep (NC.rev N) (by simp) (ajm (by have:=N.n3;omega))
theorem NCL.rot(N:NCL l){m:Nat}(hm:m<l.length):NCL (l.drop m++l.take m):=aep (NC.rot N m) (by simp;omega) (ahx hm)
def gF(c:Int)(p:Int×Int):Int×Int:=if Int.fmod (Int.fdiv c 5) 2=1 then quart (lean (Int.fmod c 5-2) p)else lean (Int.fmod c 5-2) p
def rvF(c:Int)(l:List (Int×Int)):List (Int×Int):=if Int.fmod (Int.fdiv c 10) 2=1 then(l.map (gF c)).reverse else l.map (gF c)
def byF(c:Int)(n:Nat):Nat:=(Int.fmod (Int.fdiv c 20) (n:Int)).toNat
def swF(c:Int)(l:List (Int×Int)):List (Int×Int):=(rvF c l).drop (byF c l.length)++(rvF c l).take (byF c l.length)
theorem aee(c:Int)(l:List (Int×Int)):(rvF c l).length=l.length:=by unfold rvF;split<;>simp
theorem agb(c:Int){n:Nat}(h:0<n):byF c n<n:=by
 have:=aap (Int.fdiv c 20) (j:=(n:Int)) (by omega)
 unfold byF
 omega
theorem adZ{c:Int}(h:0<l.length):(swF c l).length=l.length:=by
 have:=agb c h
 have:=aee c l
 unfold swF
 simp
 omega
theorem NCL.gF(N:NCL l)(c:Int):NCL (l.map (gF c)):=by
 unfold Pg.gF
 split
 ·have:=(N.lean (Int.fmod c 5-2)).quart
  rwa [List.map_map]at this
 ·exact N.lean _
theorem NCL.swF(N:NCL l)(c:Int):NCL (swF c l):=by
 have n3:=N.n3
 have h:NCL (rvF c l):=by
  unfold rvF
  split
  ·exact(N.gF c).rev
  ·exact N.gF c
 exact h.rot (by rw[aee];exact agb c (by omega))
def piF(c:Int)(n i:Nat):Nat:=if Int.fmod (Int.fdiv c 10) 2=1 then n-1-(i+byF c n) % n else i+byF c n
theorem ace(h:0<l.length)(c:Int)(i:Nat):cor (swF c l) i=gF c (cor l (piF c l.length i)):=by
 have hb:=agb c h
 unfold swF
 rw[ahx (by rw[aee];exact hb)]
 unfold rvF piF
 split
 ·rw[ajm (by simp;exact h),List.length_map,acM h]
 ·rw[acM h]
def lin(p q:Int×Int)(z:Int):Int×Int:=(p.1+z*q.1,p.2+z*q.2)
theorem aqK(c:Int)(p q:Int×Int)(z:Int):gF c (lin p q z)=lin (gF c p) (gF c q) z:=by
 unfold gF lin quart lean
 split
 ·exact Prod.ext (by dsimp only;grind) (by dsimp only;grind)
 ·exact Prod.ext (by dsimp only;grind) (by dsimp only)
theorem abt{i:Nat}{p:Int×Int}(h:l[i]?=some p):cor l i=p:=by
 have hi:=(List.getElem?_eq_some_iff.mp h).1
 unfold cor
 rw[Nat.mod_eq_of_lt hi,List.getD_eq_getElem?_getD,h]
 rfl
theorem afJ{n:Nat}(f:Nat→Int×Int){i:Nat}(hi:i<n):cor ((List.range n).map f) i=f i:=abt (by simp[hi])
theorem ak2{a b:List (Int×Int)}(hl:a.length=b.length)(h:∀i,i<a.length→cor a i=cor b i):a=b:=by
 apply List.ext_getElem hl
 intro i h1 h2
 have:=h i h1
 rw[abt (p:=a[i]) (by simp[h1]),abt (p:=b[i]) (by simp[h2])]at this
 exact this
abbrev gs(b:B)(c:Int)(v2 v3 v4:Option B):Fr:=[some b,iV c,v2,v3,v4,none,none,none,none]
abbrev lV(l:List (Int×Int)):Option B:=some (.val (.lst (l.map pt)))
theorem ahu{C:Cf}(h0:0<l.length)(hn:l.length≤500)(c:Int){ra:R}(hra:ra=LN l∨ra=.bor (l.map pt)):exs C aw3 (gs (ofR ra) c none none none) s=.retO ((swF c l).map pt) s:=by
 have m5:=aay (i:=c) (j:=5) (by decide)
 have b5:=aap c (j:=5) (by decide)
 have d5:=aaH (i:=c) (j:=5) (by decide) (by decide)
 have d10:=aaH (i:=c) (j:=10) (by decide) (by decide)
 have d20:=aaH (i:=c) (j:=20) (by decide) (by decide)
 have n5:=aay (i:=Int.fdiv c 5) (j:=2) (by decide)
 have n10:=aay (i:=Int.fdiv c 10) (j:=2) (by decide)
 have n20:=aay (i:=Int.fdiv c 20) (j:=(l.length:Int)) (by omega)
 have b20:=aap (Int.fdiv c 20) (j:=(l.length:Int)) (by omega)
 have hby:((byF c l.length:Nat):Int)=Int.fmod (Int.fdiv c 20) (l.length:Int):=by unfold byF;omega
 rw[←hby]at n20
 have hbl:=agb c h0
 have a3:ev C (.comp ajj (.many [5,6]) (.var 0)) .v (gs (ofR ra) c (iV (Int.fmod c 5-2)) none none) s=.ok (LN (l.map (lean (Int.fmod c 5-2)))) s:=by
  refine afS (g:=lean (Int.fmod c 5-2)) (by rcases hra with rfl|rfl<;>simp[ofR]) fun p hp=>?_
  have mm:=aag (i:=Int.fmod c 5-2) (j:=p.2) (aab (by omega))
  have e:pt (lean (Int.fmod c 5-2) p)=.tup [.int (p.1+(Int.fmod c 5-2)*p.2),.int p.2]:=rfl
  rw[show PT (lean (Int.fmod c 5-2) p)=.val (.tup [.int (p.1+(Int.fmod c 5-2)*p.2),.int p.2])from rfl]
  clear n20 d20 hby hbl b20 hra
  generalize (Int.fmod c 5-2)*p.2=zz at *
  generalize Int.fmod c 5-2=w at *
  simp[mm]
 have c3:ex C (.ifs (.cmp .eq (.bin .mod (.bin .fdiv (.var 1) (.cst (.int 5))) (.cst (.int 2))) (.cst (.int 1))) [(.asg 3 (.comp afl (.many [7,8]) (.var 3)))] []) (gs (ofR ra) c (iV (Int.fmod c 5-2)) (lV (l.map (lean (Int.fmod c 5-2)))) none) s=.next (gs (ofR ra) c (iV (Int.fmod c 5-2)) (lV (l.map (gF c))) none) s:=by
  generalize hw:Int.fmod c 5-2=w at *
  by_cases hg:Int.fmod (Int.fdiv c 5) 2=1
  ·have hl1:l.map (gF c)=(l.map (lean w)).map quart:=by
    rw[List.map_map]
    exact List.map_congr_left fun p _=>by unfold gF;rw[if_pos hg,hw];rfl
   rw[hl1]
   generalize l.map (lean w)=l1 at *
   have e3:ev C (.comp afl (.many [7,8]) (.var 3)) .v (gs (ofR ra) c (iV w) (lV l1) none) s=.ok (LN (l1.map quart)) s:=by
    refine afS (g:=quart) (by simp) fun p hp=>?_
    rw[show PT (quart p)=.val (.tup [.int (0-p.2),.int p.1])from rfl]
    simp
   rw[ad2 (d:=true) (by simp[d5,n5,hg])]
   exact(aaa (act e3)).trans (by simp)
  ·have hl1:l.map (gF c)=l.map (lean w):=List.map_congr_left fun p _=>by unfold gF;rw[if_neg hg,hw]
   rw[hl1]
   generalize l.map (lean w)=l1 at *
   rw[ad2 (d:=false) (by simp[d5,n5,hg])]
   simp
 have f3:ex C (.ifs (.cmp .eq (.bin .mod (.bin .fdiv (.var 1) (.cst (.int 10))) (.cst (.int 2))) (.cst (.int 1))) [(.asg 3 (.rev (.var 3)))] []) (gs (ofR ra) c (iV (Int.fmod c 5-2)) (lV (l.map (gF c))) none) s=.next (gs (ofR ra) c (iV (Int.fmod c 5-2)) (lV (rvF c l)) none) s:=by
  unfold rvF
  generalize l.map (gF c)=l2 at *
  by_cases hg:Int.fmod (Int.fdiv c 10) 2=1
  ·rw[if_pos hg,ad2 (d:=true) (by simp[d10,n10,hg])]
   simp
  ·rw[if_neg hg,ad2 (d:=false) (by simp[d10,n10,hg])]
   simp
 have rl:=aee c l
 unfold swF
 generalize rvF c l=l3 at *
 generalize byF c l.length=m at *
 have u1:=aiu (ts:=l3.map pt) (m:=m) (by simp;omega)
 have u2:=aoO (ts:=l3.map pt) (m:=m) (by simp;omega)
 have hadd:opR .add (.val (.lst ((l3.map pt).drop m))) (.val (.lst ((l3.map pt).take m)))=some (.val (.lst ((l3.map pt).drop m++(l3.map pt).take m))):=ahW (by simp;omega)
 refine(aaa (σ1:=gs (ofR ra) c (iV (Int.fmod c 5-2)) none none) (s1:=s) (by simp[m5])).trans ?_
 refine(aaa (act a3)).trans ?_
 refine(aaa c3).trans ?_
 refine(aaa f3).trans ?_
 refine(aaa (σ1:=gs (ofR ra) c (iV (Int.fmod c 5-2)) (lV l3) (iV m)) (s1:=s) (by simp[d20,rl,n20])).trans ?_
 simp[aba,u1,u2,hadd]
theorem afC(h0:0<l.length)(hn:l.length≤500)(c:Int){ra:R}(hra:ra=LN l∨ra=.bor (l.map pt)):run true fns sub0 aac (k+1) 47 [ra,.val (.int c)] s=.ok (LN (swF c l)) s:=
 (aad (F:=aw6) rfl rfl).trans (congrArg (aaL true true) (ahu (C:=cfX fns sub0 k) h0 hn c hra))
structure PcOk(c:List Spt):Prop where
 n3:3≤c.length
 n24:c.length≤24
 fit:∀p∈c,p.fit
def j6(a b c:Int×Int):Spt:=⟨a.1,a.2,b.1,b.2,c.1,c.2⟩
theorem aiF{xs ys:List T}(hx:xs≠[])(hy:ys≠[])(h:xs.length+ys.length≤1000):opR .add (.val (.tup xs)) (.val (.tup ys))=some (.val (.tup (xs++ys))):=by
 show(if xs≠[]∧ys≠[]∧xs.length+ys.length≤lim then some (R.val (.tup (xs++ys)))else none)=_
 rw[if_pos ⟨hx,hy,Nat.le_trans h abr⟩]
theorem ayi(a b:Int×Int):opR .add (PT a) (PT b)=some (.val (.tup [.int a.1,.int a.2,.int b.1,.int b.2])):=aiF (by simp) (by simp) (by simp)
theorem arT(a b c:Int×Int):opR .add (.val (.tup [.int a.1,.int a.2,.int b.1,.int b.2])) (PT c)=some (.val (tS (j6 a b c))):=aiF (by simp) (by simp) (by simp)
def wy(l:List (Int×Int))(k:Nat):Int:=if(cor l k).2<0 then -1 else 1
def gg(row:List Int)(i:Nat)(q:Int):Int:=Int.fmod (Int.fdiv (gD row i) q) 5
def gU(row:List Int)(a:Nat)(c:Int)(l:List (Int×Int))(n:Nat):List (Int×Int):=(List.range n).map fun k=>(Int.fmod c 7-3,wy l k*gg row (a+26+k) 1000)
def gW(row:List Int)(a:Nat)(c:Int)(l:List (Int×Int))(n:Nat):List (Int×Int):=(List.range n).map fun k=>(Int.fmod (Int.fdiv c 7) 7-3,wy l k*gg row (a+26+k) 5000)
abbrev g54(row:List Int)(a n:Nat)(c:Int)(v4 v5 v6 v7 v8:Option B):Fr:=[some (.val (.lst (iL row))),iV a,iV n,iV c,v4,v5,v6,v7,v8,none]
abbrev oV(l:List (Int×Int)):Option B:=some (.own (l.map pt))
theorem aiq{C:Cf}(hr:∀v∈row,aa6 v){a n:Nat}(hl:a+26+n≤row.length)(hn:n≤24)(c:Int){l0:List (Int×Int)}(h0:l0.length=n):
  ∃(c7 c8:Option B),abH (.one 7) (fun σ s=>exs C af1 σ s) (aai 0 n) (g54 row a n c (lV l0) (oV []) (oV []) none none) s=.next (g54 row a n c (lV l0) (oV (gU row a c l0 n)) (oV (gW row a c l0 n)) c7 c8) s:=by
 have m7:=aay (i:=c) (j:=7) (by decide)
 have d7:=aaH (i:=c) (j:=7) (by decide) (by decide)
 have m77:=aay (i:=Int.fdiv c 7) (j:=7) (by decide)
 obtain⟨σ',e,u,d,c7,c8,rfl,x1,x2⟩:=aaJ (g:=.one 7) (body:=fun σ s=>exs C af1 σ s) (s:=s)
  (fun m σ=>∃(u d:List (Int×Int)) (c7 c8:Option B),σ=g54 row a n c (lV l0) (oV u) (oV d) c7 c8∧u=gU row a c l0 m∧d=gW row a c l0 m) (aai 0 n) 0 (g54 row a n c (lV l0) (oV []) (oV []) none none) ⟨[],[],none,none,rfl,rfl,rfl⟩ (by
   rintro m t σ hm ⟨u,d,c7,c8,rfl,h1,h2⟩
   obtain⟨rfl,hlt⟩:=aav hm
   rw[show 0+m=m by omega]at h1 h2
   obtain⟨x,_,f1,fx⟩:=abe hr (m:=a+26+m) (by omega)
   rw[show((a+26+m:Nat):Int)=(a:Int)+26+(m:Int)by omega]at f1
   have hm0:m<l0.length:=by omega
   have g1:=aaU (ts:=l0.map pt) (n:=m) (t:=pt (cor l0 m)) (by rw[abt (p:=l0[m]) (by simp[hm0])];simp[hm0])
   have q1:=aaH (i:=x) (j:=1000) (by decide) (by decide)
   have q5:=aaH (i:=x) (j:=5000) (by decide) (by decide)
   have p1:=aay (i:=Int.fdiv x 1000) (j:=5) (by decide)
   have p5:=aay (i:=Int.fdiv x 5000) (j:=5) (by decide)
   have r1:=aap (Int.fdiv x 1000) (j:=5) (by decide)
   have r5:=aap (Int.fdiv x 5000) (j:=5) (by decide)
   have e1:gg row (a+26+m) 1000=Int.fmod (Int.fdiv x 1000) 5:=by unfold gg;rw[afH fx]
   have e5:gg row (a+26+m) 5000=Int.fmod (Int.fdiv x 5000) 5:=by unfold gg;rw[afH fx]
   have hul:u.length=m:=by rw[h1];simp[gU]
   have hdl:d.length=m:=by rw[h2];simp[gW]
   have hlu:u.length<lim:=Nat.lt_of_lt_of_le (show u.length<1000 by omega) abr
   have hld:d.length<lim:=Nat.lt_of_lt_of_le (show d.length<1000 by omega) abr
   have ew:ev C (.sub (.lst [(.cst (.int 1)),(.neg (.cst (.int 1)))]) (.b1 .int (.cmp .lt (.sub (.sub (.var 4) (.var 7)) (.cst (.int 1))) (.cst (.int 0))))) .v (g54 row a n c (lV l0) (oV u) (oV d) (iV m) c8) s=.ok (.val (.int (wy l0 m))) s:=by
    unfold wy
    generalize cor l0 m=P at *
    by_cases hy:P.2<0
    ·rw[if_pos hy];simp[g1,hy]
    ·rw[if_neg hy];simp[g1,hy]
   have hw:wy l0 m=1∨wy l0 m=-1:=by unfold wy;split<;>simp
   have U1:gU row a c l0 (m+1)=u++[(Int.fmod c 7-3,wy l0 m*Int.fmod (Int.fdiv x 1000) 5)]:=by rw[h1];unfold gU;rw[List.range_succ,List.map_append,List.map_cons,List.map_nil,e1]
   have D1:gW row a c l0 (m+1)=d++[(Int.fmod (Int.fdiv c 7) 7-3,wy l0 m*Int.fmod (Int.fdiv x 5000) 5)]:=by rw[h2];unfold gW;rw[List.range_succ,List.map_append,List.map_cons,List.map_nil,e5]
   clear e1 e5 g1 h1 h2
   generalize wy l0 m=w at *
   generalize Int.fmod (Int.fdiv x 1000) 5=w1 at *
   generalize Int.fmod (Int.fdiv x 5000) 5=w5 at *
   generalize Int.fdiv x 1000=y1 at *
   generalize Int.fdiv x 5000=y5 at *
   generalize Int.fmod (Int.fdiv c 7) 7=z77 at *
   generalize Int.fdiv c 7=f7 at *
   generalize Int.fmod c 7=z7 at *
   have t1:=aag (i:=w) (j:=w1) (aab (by omega))
   have t5:=aag (i:=w) (j:=w5) (aab (by omega))
   refine⟨g54 row a n c (lV l0) (oV u) (oV d) (iV m) c8,g54 row a n c (lV l0) (oV (u++[(z7-3,w*w1)])) (oV (d++[(z77-3,w*w5)])) (iV m) (iV w),by simp[aal],?_,_,_,iV m,iV w,rfl,by rw[show 0+m+1=m+1 by omega,U1],by rw[show 0+m+1=m+1 by omega,D1]⟩
   refine(aaa (σ1:=g54 row a n c (lV l0) (oV u) (oV d) (iV m) (iV w)) (s1:=s) (act ew)).trans ?_
   refine(aaa (σ1:=g54 row a n c (lV l0) (oV (u++[(z7-3,w*w1)])) (oV d) (iV m) (iV w)) (s1:=s) (by simp[m7,f1,q1,p1,t1,abE,aas,hlu,pt])).trans ?_
   refine(aaa (σ1:=g54 row a n c (lV l0) (oV (u++[(z7-3,w*w1)])) (oV (d++[(z77-3,w*w5)])) (iV m) (iV w)) (s1:=s) (by simp[d7,m77,f1,q5,p5,t5,abE,aas,hld,pt])).trans ?_
   simp)
 rw[aa1,show 0+((n:Int)-0).toNat=n by omega]at x1 x2
 subst x1 x2
 exact⟨c7,c8,e⟩
def glF(B U W:List (Int×Int))(f:Int)(n:Nat):List Spt:=(List.range n).map fun i=>j6 (cor (swF f B) i) (cor (swF f U) i) (cor (swF f W) i)
def glP(row:List Int)(a n:Nat)(c:Int):List Spt:=glF (abJ (row.drop a) n) (gU row a c (abJ (row.drop a) n) n) (gW row a c (abJ (row.drop a) n) n) (Int.fdiv c 49) n
theorem axQ{C:Cf}{n:Nat}(h0:0<n)(hn:n≤24){a:Nat}{c:Int}{b u d:List (Int×Int)}(hb:b.length=n)(hu:u.length=n)(hd:d.length=n)(c7 c8:Option B):
  ev C (.comp afh (.one 9) (.rng1 (.var 2))) .v (g54 row a n c (lV b) (oV u) (oV d) c7 c8) s=.ok (.val (aaY ((List.range n).map fun i=>j6 (cor b i) (cor u i) (cor d i)))) s:=by
 have key:=aaz (C:=C) (e:=afh) (it:=.rng1 (.var 2)) (i:=9) (σ:=g54 row a n c (lV b) (oV u) (oV d) c7 c8) (s:=s) (List.range n) (fun k:Nat=>T.int k) (fun i=>tS (j6 (cor b i) (cor u i) (cor d i))) (by
  rw[show((List.range n).map fun k:Nat=>T.int k)=aai 0 (n:Int)by unfold aai;simp]
  exact afX (n:=n) (by simp) (by omega)) (fun m hm=>by
  have hm:=List.mem_range.mp hm
  have g1:=aaU (ts:=b.map pt) (n:=m) (t:=pt (cor b m)) (by rw[abt (p:=b[m]'(by omega)) (by simp[hb,hm])];simp[hb,hm])
  have g2:=acU (ts:=u.map pt) (n:=m) (t:=pt (cor u m)) (by rw[abt (p:=u[m]'(by omega)) (by simp[hu,hm])];simp[hu,hm])
  have g3:=acU (ts:=d.map pt) (n:=m) (t:=pt (cor d m)) (by rw[abt (p:=d[m]'(by omega)) (by simp[hd,hm])];simp[hd,hm])
  have a4:=ayi (cor b m) (cor u m)
  have a6:=arT (cor b m) (cor u m) (cor d m)
  generalize j6 (cor b m) (cor u m) (cor d m)=J at *
  generalize cor b m=x at *
  generalize cor u m=y at *
  generalize cor d m=z at *
  simp[g1,g2,g3,a4,a6])
 rw[key]
 simp
theorem aoq{c:Int}{p:Int×Int}{A B:Nat}(h:ado A B p)(hAB:B≤A):smn (A+2*B) (gF c p):=by
 have b5:=aap c (j:=5) (by decide)
 have hb:((Int.fmod c 5-2)*p.2).natAbs≤2*B:=aaf (by omega) h.2
 have h1:=h.1
 have h2:=h.2
 have e1:(lean (Int.fmod c 5-2) p).1=p.1+(Int.fmod c 5-2)*p.2:=rfl
 have e2:(lean (Int.fmod c 5-2) p).2=p.2:=rfl
 unfold gF
 generalize lean (Int.fmod c 5-2) p=q at *
 unfold smn quart
 split
 ·dsimp only;omega
 ·omega
theorem afm(h:0<l.length)(i:Nat):cor l i∈l:=by
 have hi:=Nat.mod_lt i h
 rw[←aci,abt (p:=l[i % l.length]) (by simp[hi])]
 exact List.getElem_mem hi
theorem aqg{B U W:List (Int×Int)}{f:Int}{n:Nat}(h3:3≤n)(hn:n≤24)(hB:B.length=n)(hU:U.length=n)(hW:W.length=n)(b1:∀p∈B,ado 10000 901 p)(b2:∀p∈U,ado 3 3 p∨ado 4 4 p)(b3:∀p∈W,ado 3 3 p∨ado 4 4 p):PcOk (glF B U W f n):=by
 refine⟨by simp[glF];exact h3,by simp[glF];exact hn,fun p hp=>?_⟩
 obtain⟨i,_,rfl⟩:=List.mem_map.mp hp
 rw[ace (by omega),ace (by omega),ace (by omega)]
 have q1:=aoq (c:=f) (b1 _ (afm (by omega) (piF f B.length i))) (by decide)
 have w:∀p:Int×Int,(ado 3 3 p∨ado 4 4 p)→smn 12 (gF f p):=fun p h=>by
  have:ado 4 4 p:=by rcases h with h|h;exact⟨Nat.le_trans h.1 (by decide),Nat.le_trans h.2 (by decide)⟩;exact h
  exact aoq this (by decide)
 have q2:=w _ (b2 _ (afm (by omega) (piF f U.length i)))
 have q3:=w _ (b3 _ (afm (by omega) (piF f W.length i)))
 unfold smn at q1 q2 q3
 simp only[Spt.fit,j6]
 omega
theorem aqw(l:List (Int×Int))(k:Nat):wy l k=1∨wy l k=-1:=by unfold wy;split<;>simp
theorem ajS(row:List Int)(i:Nat)(q:Int):0≤gg row i q∧gg row i q<5:=aap _ (by decide)
theorem asJ(row:List Int)(a:Nat)(c:Int)(l:List (Int×Int))(n:Nat):∀p∈gU row a c l n,ado 3 3 p∨ado 4 4 p:=fun p hp=>by
 obtain⟨i,_,rfl⟩:=List.mem_map.mp hp
 have h1:=aap c (j:=7) (by decide)
 have h2:=ajS row (a+26+i) 1000
 refine .inr ⟨by show(Int.fmod c 7-3).natAbs≤4;omega,?_⟩
 show(wy l i*gg row (a+26+i) 1000).natAbs≤4
 rcases aqw l i with h|h<;>rw[h]<;>omega
theorem ase(row:List Int)(a:Nat)(c:Int)(l:List (Int×Int))(n:Nat):∀p∈gW row a c l n,ado 3 3 p∨ado 4 4 p:=fun p hp=>by
 obtain⟨i,_,rfl⟩:=List.mem_map.mp hp
 have h1:=aap (Int.fdiv c 7) (j:=7) (by decide)
 have h2:=ajS row (a+26+i) 5000
 refine .inr ⟨by show(Int.fmod (Int.fdiv c 7) 7-3).natAbs≤4;omega,?_⟩
 show(wy l i*gg row (a+26+i) 5000).natAbs≤4
 rcases aqw l i with h|h<;>rw[h]<;>omega
theorem ah2(hr:∀v∈row,aa6 v){a n:Nat}(hl:a+58≤row.length)(ha:a≤500)(h3:3≤n)(hn:n≤24)(c:Int):PcOk (glP row a n c)∧acD (abJ (row.drop a) n) n∧run true fns sub0 aac (k+3) 54 [.val (.lst (iL row)),.val (.int a),.val (.int n),.val (.int c)] s=.ok (.val (aaY (glP row a n c))) s:=by
 obtain⟨hH,hb0,e0⟩:=akD (k:=k) (s:=s) (row:=row.drop a) (fun v hv=>hr v (List.mem_of_mem_drop hv)) (by simp;omega) h3 hn
 have h0:(abJ (row.drop a) n).length=n:=by
  obtain⟨low,high,_,_,q1,_,_,_,_,q2,_⟩:=hH
  omega
 refine⟨aqg h3 hn h0 (by simp[gU]) (by simp[gW]) hb0 (asJ row a c _ n) (ase row a c _ n),hH,?_⟩
 have cut:=aiu (ts:=iL row) (m:=a) (by simp;omega)
 rw[show iL (row.drop a)=(iL row).drop a by simp[iL,List.map_drop]]at e0
 unfold glP
 generalize abJ (row.drop a) n=l0 at *
 obtain⟨c7,c8,e1⟩:=aiq (C:=cfX fns sub0 (k+2)) (s:=s) hr (a:=a) (n:=n) (by omega) hn c h0
 have hu:(gU row a c l0 n).length=n:=by simp[gU]
 have hd:(gW row a c l0 n).length=n:=by simp[gW]
 have d49:=aaH (i:=c) (j:=49) (by decide) (by decide)
 generalize gU row a c l0 n=u at *
 generalize gW row a c l0 n=d at *
 generalize Int.fdiv c 49=f at *
 have eb:=afC (k:=k+1) (s:=s) (l:=l0) (by omega) (by omega) f (ra:=LN l0) (.inl rfl)
 have eu:=afC (k:=k+1) (s:=s) (l:=u) (by omega) (by omega) f (ra:=.bor (u.map pt)) (.inr rfl)
 have ed:=afC (k:=k+1) (s:=s) (l:=d) (by omega) (by omega) f (ra:=.bor (d.map pt)) (.inr rfl)
 have el:=axQ (C:=cfX fns sub0 (k+2)) (s:=s) (row:=row) (a:=a) (c:=c) (by omega) hn (b:=swF f l0) (u:=swF f u) (d:=swF f d) (by rw[adZ (by omega)];exact h0) (by rw[adZ (by omega)];exact hu) (by rw[adZ (by omega)];exact hd) c7 c8
 unfold glF
 generalize (List.range n).map (fun i=>j6 (cor (swF f l0) i) (cor (swF f u) i) (cor (swF f d) i))=L at *
 generalize swF f l0=b' at *
 generalize swF f u=u' at *
 generalize swF f d=d' at *
 rw[aad (F:=as5) rfl rfl]
 have hx:exs (cfX fns sub0 (k+2)) auZ (aaC as5 [.val (.lst (iL row)),.val (.int a),.val (.int n),.val (.int c)]) s=.ret (.val (aaY L)) s:=by
  refine(aaa (σ1:=g54 row a n c (lV l0) none none none none) (s1:=s) (by simp[cut,e0])).trans ?_
  refine(aaa (σ1:=g54 row a n c (lV l0) (oV []) none none none) (s1:=s) (by simp[aba,aas])).trans ?_
  refine(aaa (σ1:=g54 row a n c (lV l0) (oV []) (oV []) none none) (s1:=s) (by simp[aba,aas])).trans ?_
  refine(aaa ((aaV (ts:=aai 0 n) (s1:=s) (abm (n:=n) (by simp) (by omega)) (by intro _ h;cases h)).trans e1)).trans ?_
  refine(aaa (σ1:=g54 row a n c (lV b') (oV u) (oV d) c7 c8) (s1:=s) (by simp[d49,eb])).trans ?_
  refine(aaa (σ1:=g54 row a n c (lV b') (oV u') (oV d) c7 c8) (s1:=s) (by simp[d49,eu,aba,aas];rfl)).trans ?_
  refine(aaa (σ1:=g54 row a n c (lV b') (oV u') (oV d') c7 c8) (s1:=s) (by simp[d49,ed,aba,aas];rfl)).trans ?_
  exact abw (aev el)
 rw[hx]
 rfl
end Pg
end IP
end
noncomputable section
namespace IP
namespace Pg
open L2 SegM
variable{k:Nat}{s:Sto}{l:List (Int×Int)}{row:List Int}
def plP(p:Spt)(z:Int):Int×Int:=(pX p z,pY p z)
theorem aot(p:Spt)(z:Int):tI (plc p z)=pt (plP p z):=by rw[aoY];rfl
def lnZ(c:List Spt)(z:Int):List (Int×Int):=c.map fun p=>plP p z
theorem adK(c:List Spt)(z:Int):tIs (anc c z)=.lst ((lnZ c z).map pt):=by
 unfold tIs lnZ anc
 rw[List.map_map,List.map_map]
 congr 1
 exact List.map_congr_left fun p _=>aot p z
theorem alR(c:List Spt)(z:Int):(lnZ c z).length=c.length:=by simp[lnZ]
theorem ank{c:List Spt}(h:∀p∈c,p.fit){z:Int}(hz:-6≤z∧z≤6):∀p∈lnZ c z,sm3 p:=fun p hp=>by
 obtain⟨q,hq,rfl⟩:=List.mem_map.mp hp
 have h1:=arS (h q hq) hz
 have h2:=arW (h q hq) hz
 exact⟨by show(pX q z).natAbs≤2^16;omega,by show(pY q z).natAbs≤2^16;omega⟩
def ada(B:List (Int×Int))(cx t:Int)(g:Nat→Int)(n:Nat):List (Int×Int):=((List.range n).map fun i=>((cor B i).1,(cor B i).2+t*(wy B i*g i))).map (shf (t*cx) 0)
theorem ago{B:List (Int×Int)}{n:Nat}(H:acD B n){cx t:Int}(ht:0≤t){g:Nat→Int}(hg:∀i,0≤g i):NCL (ada B cx t g n):=by
 obtain⟨low,high,bot,tp,q1,q2,q3,fb,ft,q4,L,U⟩:=H
 unfold ada
 refine NCL.shf ?_ _ _
 have hlen:((List.range n).map fun i=>((cor B i).1,(cor B i).2+t*(wy B i*g i))).length=low+high:=by simp;omega
 refine asl fb ft q2 q3 hlen (fun i hi=>?_) fun i hi=>?_
 ·obtain⟨y,e,hy⟩:=L i hi
  refine⟨y+t*(wy B i*g i),?_,?_⟩
  ·rw[List.getElem?_map,List.getElem?_range (by omega)]
   simp[abt e]
  ·unfold wy
   rw[abt e,if_pos hy]
   have:=Int.mul_nonneg ht (hg i)
   rw[Int.neg_one_mul,Int.mul_neg]
   omega
 ·obtain⟨y,e,hy⟩:=U i hi
  refine⟨y+t*(wy B (low+i)*g (low+i)),?_,?_⟩
  ·rw[List.getElem?_map,List.getElem?_range (by omega)]
   simp[abt e]
  ·unfold wy
   rw[abt e,if_neg (by show ¬y<0;omega)]
   have:=Int.mul_nonneg ht (hg (low+i))
   rw[Int.one_mul]
   omega
theorem ai5(B:List (Int×Int))(cx t:Int)(g:Nat→Int)(n:Nat):(ada B cx t g n).length=n:=by simp[ada]
theorem ail(b u d:Int×Int)(z:Int):plP (j6 b u d) z=if z<0 then lin b d (-z)else lin b u z:=by
 unfold plP pX pY j6 lin
 split<;>rfl
theorem adt{B V:List (Int×Int)}{f cx t:Int}{g:Nat→Int}{n:Nat}(h0:0<n)(hB:B.length=n)(hV:V=(List.range n).map fun i=>(cx,wy B i*g i)):(List.range n).map (fun i=>lin (cor (swF f B) i) (cor (swF f V) i) t)=swF f (ada B cx t g n):=by
 have hVl:V.length=n:=by rw[hV];simp
 have hGl:=ai5 B cx t g n
 refine ak2 (by simp[adZ (show 0<(ada B cx t g n).length by omega),hGl]) fun i hi=>?_
 have hi:i<n:=by simpa using hi
 rw[afJ _ hi,ace (by omega),ace (by omega),ace (by omega),←aqK,hB,hVl,hGl]
 congr 1
 have hm:=Nat.mod_lt (piF f n i) h0
 have e1:cor B (piF f n i)=cor B (piF f n i % n):=by have:=aci (l:=B) (piF f n i);rw[hB]at this;exact this.symm
 have e2:cor V (piF f n i)=cor V (piF f n i % n):=by have:=aci (l:=V) (piF f n i);rw[hVl]at this;exact this.symm
 have e3:cor (ada B cx t g n) (piF f n i)=cor (ada B cx t g n) (piF f n i % n):=by have:=aci (l:=ada B cx t g n) (piF f n i);rw[hGl]at this;exact this.symm
 rw[e1,e2,e3]
 generalize piF f n i % n=m at *
 have e4:cor V m=(cx,wy B m*g m):=by rw[hV,afJ _ hm]
 have e5:cor (ada B cx t g n) m=shf (t*cx) 0 ((cor B m).1,(cor B m).2+t*(wy B m*g m)):=by
  unfold ada
  rw[List.map_map,afJ _ hm]
  rfl
 rw[e4,e5]
 unfold lin shf
 exact Prod.ext (by dsimp only) (by dsimp only;omega)
theorem aoB{a n:Nat}(h0:0<n)(H:acD (abJ (row.drop a) n) n)(c z:Int):NCL (lnZ (glP row a n c) z):=by
 have hB:(abJ (row.drop a) n).length=n:=by
  obtain⟨low,high,_,_,q1,_,_,_,_,q2,_⟩:=H
  omega
 unfold glP glF lnZ
 rw[List.map_map]
 by_cases hz:z<0
 ·have e:(List.range n).map ((fun p=>plP p z)∘fun i=>j6 (cor (swF (Int.fdiv c 49) (abJ (row.drop a) n)) i) (cor (swF (Int.fdiv c 49) (gU row a c (abJ (row.drop a) n) n)) i) (cor (swF (Int.fdiv c 49) (gW row a c (abJ (row.drop a) n) n)) i))=(List.range n).map fun i=>lin (cor (swF (Int.fdiv c 49) (abJ (row.drop a) n)) i) (cor (swF (Int.fdiv c 49) (gW row a c (abJ (row.drop a) n) n)) i) (-z):=
   List.map_congr_left fun i _=>by show plP _ z=_;rw[ail,if_pos hz]
  rw[e,adt (V:=gW row a c (abJ (row.drop a) n) n) (cx:=Int.fmod (Int.fdiv c 7) 7-3) (g:=fun i=>gg row (a+26+i) 5000) h0 hB rfl]
  exact(ago H (by omega) fun i=>(ajS row (a+26+i) 5000).1).swF _
 ·have e:(List.range n).map ((fun p=>plP p z)∘fun i=>j6 (cor (swF (Int.fdiv c 49) (abJ (row.drop a) n)) i) (cor (swF (Int.fdiv c 49) (gU row a c (abJ (row.drop a) n) n)) i) (cor (swF (Int.fdiv c 49) (gW row a c (abJ (row.drop a) n) n)) i))=(List.range n).map fun i=>lin (cor (swF (Int.fdiv c 49) (abJ (row.drop a) n)) i) (cor (swF (Int.fdiv c 49) (gU row a c (abJ (row.drop a) n) n)) i) z:=
   List.map_congr_left fun i _=>by show plP _ z=_;rw[ail,if_neg hz]
  rw[e,adt (V:=gU row a c (abJ (row.drop a) n) n) (cx:=Int.fmod c 7-3) (g:=fun i=>gg row (a+26+i) 1000) h0 hB rfl]
  exact(ago H (by omega) fun i=>(ajS row (a+26+i) 1000).1).swF _
theorem ag1{a n:Nat}(h:PcOk (glP row a n c))(h3:3≤n)(H:acD (abJ (row.drop a) n) n){z:Int}(hz:-6≤z∧z≤6):Fine (lnZ (glP row a n c) z):=
 ⟨by rw[alR];have:=h.n24;omega,aoB (by omega) H c z,ank h.fit hz⟩
theorem anz{h:Int}(h1:1≤h∧h≤5):NCL [(0,0),(9,0),(9,h),(0,9)]:=by
 have f0:∀i,i<4→cor [(0,0),(9,0),(9,h),(0,9)] i=if i=0 then(0,0)else if i=1 then(9,0)else if i=2 then(9,h)else(0,9):=fun i hi=>by
  match i,hi with
  | 0,_=>rfl
  | 1,_=>rfl
  | 2,_=>rfl
  | 3,_=>rfl
 have pm:∀i d,cor [(0,0),(9,0),(9,h),(0,9)] (i+d)=cor [(0,0),(9,0),(9,h),(0,9)] ((i % 4+d) % 4):=fun i d=>by
  have:=aci (l:=[(0,0),(9,0),(9,h),(0,9)]) (i+d)
  rw[←this]
  congr 1
  show(i+d) % 4=(i % 4+d) % 4
  omega
 have cs:∀i,i % 4=0∨i % 4=1∨i % 4=2∨i % 4=3:=fun i=>by omega
 refine⟨by simp,fun i=>by unfold cor;rw[Nat.add_mod_right],fun i=>?_,fun i=>?_,fun i j a b=>?_,?_⟩
 ·have e0:=pm i 0
  have e1:=pm i 1
  rw[Nat.add_zero]at e0
  rw[e0,e1]
  rcases cs i with q|q|q|q<;>rw[q]<;>rw[f0 _ (by decide),f0 _ (by decide)]<;>simp
  omega
 ·have e0:=pm i 0
  rw[Nat.add_zero]at e0
  rw[e0,pm i 1,pm i 2]
  rcases cs i with q|q|q|q<;>rw[q]<;>rw[f0 _ (by decide),f0 _ (by decide),f0 _ (by decide)]<;>simp
  ·exact⟨0,1,.inl (by unfold fu;dsimp only;omega)⟩
  ·exact⟨-1,0,.inl (by unfold fu;dsimp only;omega)⟩
  ·exact⟨1,0,.inr (by unfold fu;dsimp only;omega)⟩
  ·exact⟨1,0,.inl (by unfold fu;dsimp only;omega)⟩
 ·have hj:j % 4=(i % 4+2) % 4:=by simp at b;omega
  have e0:=pm i 0
  rw[Nat.add_zero]at e0
  have e2:=pm j 0
  rw[Nat.add_zero]at e2
  rw[e0,pm i 1,e2,pm j 1]
  rcases cs i with q|q|q|q<;>rw[hj,q]<;>rw[f0 _ (by decide),f0 _ (by decide),f0 _ (by decide),f0 _ (by decide)]<;>simp
  ·exact⟨0,1,by unfold aaS fu;dsimp only;omega⟩
  ·exact⟨-1,0,by unfold aaS fu;dsimp only;omega⟩
  ·exact⟨0,-1,by unfold aaS fu;dsimp only;omega⟩
  ·exact⟨1,0,by unfold aaS fu;dsimp only;omega⟩
 ·show abL _ 4≠0
  have:abL (cor [(0,0),(9,0),(9,h),(0,9)]) 4=0+crs (cor [(0,0),(9,0),(9,h),(0,9)] 0) (cor [(0,0),(9,0),(9,h),(0,9)] 1)+crs (cor [(0,0),(9,0),(9,h),(0,9)] 1) (cor [(0,0),(9,0),(9,h),(0,9)] 2)+crs (cor [(0,0),(9,0),(9,h),(0,9)] 2) (cor [(0,0),(9,0),(9,h),(0,9)] 3)+crs (cor [(0,0),(9,0),(9,h),(0,9)] 3) (cor [(0,0),(9,0),(9,h),(0,9)] 4):=rfl
  have e4:=pm 3 1
  rw[show(3+1:Nat)=4 from rfl]at e4
  rw[this,e4,f0 0 (by decide),f0 1 (by decide),f0 2 (by decide),f0 3 (by decide)]
  unfold crs
  simp
  omega
end Pg
end IP
end
noncomputable section
namespace IP
namespace Pg
open L2
variable{k:Nat}{s:Sto}{l:List (Int×Int)}{row:List Int}
theorem aeI{A:Ad}{B:Bk}(hb:BAt s A B){p:Int}(hp:p<0∨B.pc.length≤p)(t:T):run true fns sub0 aac (k+4) iz6 [slf A,.val (.int p),.val t] s=.exc ar8 s:=by
 rw[aad (F:=Fz6) rfl rfl]
 have h1:=afo (k:=k+1) hb hp
 simp[bz6,hb.li,h1]
theorem aec{A:Ad}{B:Bk}(hb:BAt s A B){i:Nat}{c:List Spt}(h:B.pc[i]?=some c){z:Int}(hz:z < -6∨6<z):run true fns sub0 aac (k+4) iz6 [slf A,.val (.int i),.val (.int z)] s=.exc xz2 s:=by
 rw[aad (F:=Fz6) rfl rfl]
 have h1:=adp (k:=k+1) hb h
 have h2:=aeV (k:=k) hb (v:=aaY c) (t:=.int z) (z:=z) rfl hz
 simp[bz6,hb.li,h1,h2]
theorem afs{C:Cf}{r:R}(e:C.cf 0 [LN l] s=.ok r s)(hN:r.isNon=false)(b:Int):exs C ar0 [some (.val (.lst (l.map pt))),some (.val (.int b)),none,none,none,none] s=.exc 6 [some (.val (.lst (l.map pt))),some (.val (.int b)),none,none,none,none] s:=
 aiY (by simp[e,hN])
theorem adG(hl:∀p∈l,sml p)(hn:l.length≤1000)(hN:(fp (abM l) l.length).isNon=false){b:Int}:run true fns sub0 aac (k+6) 13 [LN l,.val (.int b)] s=.exc axh s:=
 (aad (F:=aqY) rfl rfl).trans (congrArg (aaL true false) (afs (C:=cfX fns sub0 (k+5)) (aa3 (ads (k:=k) (s:=s) hl hn) rfl) hN b))
theorem ab6{C:Cf}{A:Ad}{fs:List (Option T)}(li:(R.val (.loc A.o)).locI s 0=some (A.o,fs)){p b:Int}{t:T}{r1 r2:Res R}(e1:C.cf 34 [slf A,.val (.int p),.val t] s=r1)
  (h:(∃d,r1=.exc d s∧r2=.exc d s)∨(∃L,r1=.ok L s∧C.cf 13 [L,.val (.int b)] s=r2)):aaL true false (exs C aqZ [some (.val (.loc A.o)),some (.val (.int p)),some (.val (.int b)),some (.val t)] s)=r2:=by
 rcases h with⟨d,q1,q2⟩|⟨L,q1,q2⟩
 ·rw[q1]at e1
  rw[q2]
  simp[aqZ,li,e1]
 ·rw[q1]at e1
  simp[aqZ,li,e1,q2]
  cases r2<;>rfl
section
variable{A:Ad}{B:Bk}(hb:BAt s A B)
include hb
theorem aga{i:Nat}{c:List Spt}(h:B.pc[i]?=some c){t:T}{z b:Int}(ht:meant B t=some z)(hz:-6≤z∧z≤6)(F:Fine (lnZ c z))(hb1:0≤b∧b≤1000):∃D,run true fns sub0 aac (k+8) 22 [slf A,.val (.int i),.val (.int b),.val t] s=.ok (.val (.lst D)) s∧∀k,run true fns sub0 aac (k+4) 53 [LN (lnZ c z),.val (.lst D),.val (.int b)] s=.ok (.val (.bl true)) s:=by
 have e1:=aeK (k:=k+3) hb h ht hz
 rw[adK]at e1
 exact⟨_,(aad (F:=ap1) rfl rfl).trans (ab6 (C:=cfX fns sub0 (k+7)) hb.li (aa3 e1 rfl) (.inr ⟨_,rfl,aa3 (F.outline (k:=k) (s:=s) hb1) rfl⟩)),fun k=>aql (k:=k) (s:=s) F hb1⟩
theorem afn{p b:Int}(hp:p<0∨B.pc.length≤p)(t:T):run true fns sub0 aac (k+5) 22 [slf A,.val (.int p),.val (.int b),.val t] s=.exc 4 s:=
 (aad (F:=ap1) rfl rfl).trans (ab6 (C:=cfX fns sub0 (k+4)) hb.li (aa3 (aeI (k:=k) hb hp t) rfl) (.inl ⟨_,rfl,rfl⟩))
theorem aeB{i:Nat}{c:List Spt}(h:B.pc[i]?=some c){z b:Int}(hz:z < -6∨6<z):run true fns sub0 aac (k+5) 22 [slf A,.val (.int i),.val (.int b),.val (.int z)] s=.exc 1 s:=
 (aad (F:=ap1) rfl rfl).trans (ab6 (C:=cfX fns sub0 (k+4)) hb.li (aa3 (aec (k:=k) hb h hz) rfl) (.inl ⟨_,rfl,rfl⟩))
theorem adi{i:Nat}{c:List Spt}(h:B.pc[i]?=some c){z b:Int}(hz:-6≤z∧z≤6)(sl:∀p∈lnZ c z,sml p)(hn:(lnZ c z).length≤1000)(hN:(fp (abM (lnZ c z)) (lnZ c z).length).isNon=false):run true fns sub0 aac (k+7) 22 [slf A,.val (.int i),.val (.int b),.val (.int z)] s=.exc 6 s:=by
 have e1:=aeK (k:=k+2) hb h (t:=.int z) (z:=z) rfl hz
 rw[adK]at e1
 exact(aad (F:=ap1) rfl rfl).trans (ab6 (C:=cfX fns sub0 (k+6)) hb.li (aa3 e1 rfl) (.inr ⟨_,rfl,aa3 (adG (k:=k) (s:=s) sl hn hN) rfl⟩))
end
theorem abC{C:Cf}(hs:C.sub=sub0){A:Ad}{p b z:Int}{d:Nat}(hd:sub0 d 0=true)(e:C.cf 22 [slf A,.val (.int p),.val (.int b),.val (.int z)] s=.exc d s):
  exs C arP [some (.val (.loc A.o)),some (.val (.int p)),some (.val (.int b)),some (.val (.int z)),none,none] s=.ret (.val (.int ((if sub0 d 4=true then 1 else 0)+2*(if sub0 d 1=true then 1 else 0)+4*(if sub0 d 6=true then 1 else 0)))) s:=by
 have m2:=aag (i:=2) (j:=if sub0 d 1=true then 1 else 0) (aab (by decide))
 have m4:=aag (i:=4) (j:=if sub0 d 6=true then 1 else 0) (aab (by decide))
 refine(aaa (σ1:=[some (.val (.loc A.o)),some (.val (.int p)),some (.val (.int b)),some (.val (.int z)),some (.val (.int 0)),none]) (s1:=s) (by simp)).trans ?_
 refine(aaa ((agR (d:=d) (i:=5) (σ1:=[some (.val (.loc A.o)),some (.val (.int p)),some (.val (.int b)),some (.val (.int z)),some (.val (.int 0)),none]) (s1:=s) (σ2:=[some (.val (.loc A.o)),some (.val (.int p)),some (.val (.int b)),some (.val (.int z)),some (.val (.int ((if sub0 d 4=true then 1 else 0)+2*(if sub0 d 1=true then 1 else 0)+4*(if sub0 d 6=true then 1 else 0)))),some (.val (.exc d))]) (s2:=s) (aiY (by simp[e])) (by rw[hs];exact hd) ?_).trans rfl)).trans ?_
 ·refine(aaa (σ1:=[some (.val (.loc A.o)),some (.val (.int p)),some (.val (.int b)),some (.val (.int z)),some (.val (.int ((if sub0 d 4=true then 1 else 0)+2*(if sub0 d 1=true then 1 else 0)+4*(if sub0 d 6=true then 1 else 0)))),some (.val (.exc d))]) (s1:=s) (by simp[hs,m2,m4])).trans acY
 ·simp
theorem agS{C:Cf}{A:Ad}{p b z:Int}{D:R}(e:C.cf 22 [slf A,.val (.int p),.val (.int b),.val (.int z)] s=.ok D s):
  exs C arP [some (.val (.loc A.o)),some (.val (.int p)),some (.val (.int b)),some (.val (.int z)),none,none] s=.ret (.val (.int 0)) s:=by
 refine(aaa (σ1:=[some (.val (.loc A.o)),some (.val (.int p)),some (.val (.int b)),some (.val (.int z)),some (.val (.int 0)),none]) (s1:=s) (by simp)).trans ?_
 refine(aaa (ahM (aaa (σ1:=[some (.val (.loc A.o)),some (.val (.int p)),some (.val (.int b)),some (.val (.int z)),some (.val (.int 0)),none]) (s1:=s) (by simp[e]) |>.trans acY))).trans ?_
 simp
end Pg
end IP
end
noncomputable section
namespace IP
namespace Pg
open L2
variable{s:Sto}{l:List (Int×Int)}{row ns:List Int}
abbrev qd(h:Int):List (Int×Int):=[(0,0),(9,0),(9,h),(0,9)]
def P1(e:Int):List Spt:=[⟨0,0,0,0,0,0⟩,⟨9,0,0,0,0,0⟩,⟨9,e,0,-1,0,-1⟩,⟨0,9,0,0,0,0⟩]
def P2(e:Int):List Spt:=[⟨0,0,0,0,0,0⟩,⟨9,0,0,0,0,0⟩,⟨9,e,0,0,0,0⟩,⟨0,9,0,0,0,0⟩]
theorem aqQ(e z:Int):lnZ (P1 e) z=qd (if z<0 then e+z else e-z):=by
 unfold lnZ P1 plP pX pY
 by_cases h:z<0
 ·simp[h]
 ·simp[h];omega
theorem anP(e z:Int):lnZ (P2 e) z=qd e:=by
 unfold lnZ P2 plP pX pY
 by_cases h:z<0<;>simp[h]
theorem alr{h:Int}(hh:-100≤h∧h≤100):∀p∈qd h,sm3 p:=fun p hp=>by
 simp at hp
 rcases hp with rfl|rfl|rfl|rfl<;>exact⟨by simp,by simp;try omega⟩
theorem ano{h:Int}(hh:1≤h∧h≤5):Fine (qd h):=⟨by simp,anz hh,alr (by omega)⟩
theorem ak8{h:Int}(hh:-6≤h∧h≤0):(fp (abM (qd h)) (qd h).length).isNon=false:=by
 have:h=-6∨h=-5∨h=-4∨h=-3∨h=-2∨h=-1∨h=0:=by omega
 rcases this with rfl|rfl|rfl|rfl|rfl|rfl|rfl<;>rfl
def jn(p q:Spt):Spt:=⟨p.x,p.y,q.a,q.b,q.c,q.d⟩
@[simp] theorem awO (p:Spt) (s:Sto):(R.val (tS p)).dr s=.val (tS p):=rfl
structure Has(C:Cf)(ns:List Int):Prop where
 stir:∃row:List Int,row.length=60∧(∀v∈row,aa6 v)∧C.cf 43 [.val (.lst (iL ns)),.val (.int 60)] []=.ok (.val (.lst (iL row))) []
 grow:∀(s:Sto) (row:List Int) (n:Nat) (c:Int),(∀v∈row,aa6 v)→row.length=60→3≤n→n≤24→PcOk (glP row 1 n c)∧acD (abJ (row.drop 1) n) n∧C.cf 54 [.val (.lst (iL row)),.val (.int 1),.val (.int n),.val (.int c)] s=.ok (.val (aaY (glP row 1 n c))) s
 new:∀(σ:Fr) (s:Sto),∃(s':Sto) (A:Ad),ev C (.new 0 26 4 [] []) .v σ s=.ok (slf A) s'∧BAt s' A ⟨0,[],[],[]⟩
 add:∀(s:Sto) (A:Ad) (B:Bk) (c:List Spt),BAt s A B→B.pc.length<10→PcOk c→B.mrk.length≤10→∃s' A',A'.o=A.o∧C.cf 27 [slf A,.val (aaY c),.val .non] s=.ok (.val (.int B.pc.length)) s'∧BAt s' A' ⟨B.size,B.pc++[c],B.mrk++[c.map fun _=>[]],B.sm⟩
 letOut:∀(s:Sto) (A:Ad) (B:Bk) (st:Int),BAt s A B→0≤st→(-6≤B.size+st∧B.size+st≤6)→∃s',C.cf 29 [slf A,.val (.int st)] s=.ok (.val (.int (B.size+st))) s'∧BAt s' A ⟨B.size+st,B.pc,B.mrk,B.sm⟩
 takeIn:∀(s:Sto) (A:Ad) (B:Bk) (st:Int),BAt s A B→0≤st→(-6≤B.size+-st∧B.size+-st≤6)→∃s',C.cf 30 [slf A,.val (.int st)] s=.ok (.val (.int (B.size+-st))) s'∧BAt s' A ⟨B.size+-st,B.pc,B.mrk,B.sm⟩
 place:∀(s:Sto) (p:Spt) (z:Int),(-6≤z∧z≤6)→C.cf 55 [.val (tS p),.val (.int z)] s=.ok (.val (tI (plc p z))) s
 hem:∀(s:Sto) (A:Ad) (B:Bk) (i:Nat) (c:List Spt) (t:T) (z b:Int),BAt s A B→B.pc[i]?=some c→meant B t=some z→(-6≤z∧z≤6)→Fine (lnZ c z)→(0≤b∧b≤1000)→∃D,C.cf 22 [slf A,.val (.int i),.val (.int b),.val t] s=.ok (.val (.lst D)) s∧C.cf 53 [LN (lnZ c z),.val (.lst D),.val (.int b)] s=.ok (.val (.bl true)) s
 ref1:∀(s:Sto) (A:Ad) (B:Bk) (p b z:Int),BAt s A B→(p<0∨B.pc.length≤p)→C.cf 56 [slf A,.val (.int p),.val (.int b),.val (.int z)] s=.ok (.val (.int 1)) s
 ref2:∀(s:Sto) (A:Ad) (B:Bk) (i:Nat) (c:List Spt) (b z:Int),BAt s A B→B.pc[i]?=some c→(z < -6∨6<z)→C.cf 56 [slf A,.val (.int i),.val (.int b),.val (.int z)] s=.ok (.val (.int 2)) s
 ref4:∀(s:Sto) (A:Ad) (B:Bk) (i:Nat) (c:List Spt) (b z h:Int),BAt s A B→B.pc[i]?=some c→(-6≤z∧z≤6)→(0≤b∧b≤1000)→lnZ c z=qd h→(-6≤h∧h≤5)→C.cf 56 [slf A,.val (.int i),.val (.int b),.val (.int z)] s=.ok (.val (.int (if h≤0 then 4 else 0))) s
 moves:∀(s:Sto) (A:Ad) (B:Bk) (i j:Nat) (cs:List Spt) (p q:Spt),BAt s A B→B.pc[i]?=some cs→cs[j]?=some p→q.fit→∃s',C.cf 28 [slf A,.val (.int i),.val (.int j),.val (.tup [.int q.a,.int q.b]),.val (.tup [.int q.c,.int q.d])] s=.ok (.val .non) s'∧BAt s' A ⟨B.size,B.pc.set i (cs.set j (jn p q)),B.mrk,B.sm⟩
theorem ana{p:Int×Int}(h:sm3 p):sml p:=⟨by have:=h.1;omega,by have:=h.2;omega⟩
theorem has(k:Nat)(ns:List Int):Has (cfX fns sub0 (k+9)) ns where
 stir:=by
  obtain⟨row,h1,h2,h3⟩:=aph (k:=k+7) (s:=[]) ns 60 (by decide)
  exact⟨row,h1,h2,aa3 h3 rfl⟩
 grow:=fun s row n c hr hl h1 h2=>by
  obtain⟨a,b,e⟩:=ah2 (k:=k+6) (s:=s) hr (a:=1) (by omega) (by decide) h1 h2 c
  exact⟨a,b,aa3 e rfl⟩
 new:=fun σ s=>by
  obtain⟨s',A,e,h,_⟩:=anR (k:=k+8) (σ:=σ) s
  exact⟨s',A,e,h⟩
 add:=fun s A B c h h0 h1 h2=>by
  obtain⟨s',e,q,_⟩:=af8 (k:=k+5) h c (c.map fun _=>[]) (t:=.non) (.inr ⟨rfl,rfl⟩) h0 h1.n3 h1.n24 (by simp) (fun l hl=>by obtain⟨_,_,rfl⟩:=List.mem_map.mp hl;simp) h1.fit (fun l hl=>by obtain⟨_,_,rfl⟩:=List.mem_map.mp hl;simp) h2
  exact⟨s',⟨A.o,A.a,A.b,A.c,A.ls++[s.length]⟩,rfl,aa3 e rfl,q⟩
 letOut:=fun s A B st h h0 hz=>by
  obtain⟨s',e,q,_⟩:=agi (k:=k+6) h h0 hz
  exact⟨s',aa3 ((ajc (k:=k+6) h).trans e) rfl,q⟩
 takeIn:=fun s A B st h h0 hz=>by
  obtain⟨s',e,q,_⟩:=agi (k:=k+6) h h0 hz
  exact⟨s',aa3 ((ahz (k:=k+6) h).trans e) rfl,q⟩
 place:=fun s p z hz=>aa3 (afc (k:=k+8) (s:=s) p hz) rfl
 hem:=fun s A B i c t z b h hc ht hz F hb=>by
  obtain⟨D,e1,e2⟩:=aga (k:=k+1) h hc ht hz F hb
  exact⟨D,aa3 e1 rfl,aa3 (e2 (k+5)) rfl⟩
 ref1:=fun s A B p b z h hp=>aa3 ((aad (F:=aoW) rfl rfl).trans (congrArg (aaL true false) (abC (C:=cfX fns sub0 (k+8)) rfl (d:=4) rfl (aa3 (afn (k:=k+3) h hp _) rfl)))) rfl
 ref2:=fun s A B i c b z h hc hz=>aa3 ((aad (F:=aoW) rfl rfl).trans (congrArg (aaL true false) (abC (C:=cfX fns sub0 (k+8)) rfl (d:=1) rfl (aa3 (aeB (k:=k+3) h hc hz) rfl)))) rfl
 ref4:=fun s A B i c b z h hB hc hz hb hq hh=>by
  by_cases h0:h≤0
  ·rw[if_pos h0]
   exact aa3 ((aad (F:=aoW) rfl rfl).trans (congrArg (aaL true false) (abC (C:=cfX fns sub0 (k+8)) rfl (d:=6) rfl (aa3 (adi (k:=k+1) hB hc hz (by rw[hq];exact fun p hp=>ana (alr (by omega) p hp)) (by rw[hq];simp) (by rw[hq];exact ak8 (by omega))) rfl)))) rfl
  ·rw[if_neg h0]
   obtain⟨D,e1,_⟩:=aga (k:=k) hB hc (t:=.int z) (z:=z) rfl hz (by rw[hq];exact ano (by omega)) hb
   exact aa3 ((aad (F:=aoW) rfl rfl).trans (congrArg (aaL true false) (agS (C:=cfX fns sub0 (k+8)) (aa3 e1 rfl)))) rfl
 moves:=fun s A B i j cs p q h h1 h2 hq=>by
  obtain⟨_,_,f1,f2,f3,f4⟩:=hq
  obtain⟨s',e,r,_⟩:=ahp (k:=k+7) h h1 h2 (a:=q.a) (b:=q.b) (c:=q.c) (d:=q.d) (by simp only[arG,List.all_cons,List.all_nil,aj2,Bool.and_true,Bool.and_eq_true,decide_eq_true_eq];omega)
  exact⟨s',aa3 e rfl,r⟩
abbrev g57(ns row:List Int)(v2 v3 v4 v5 v6 v7 v8 v9 v10:Option B):Fr:=[some (.val (.lst (iL ns))),some (.val (.lst (iL row))),v2,v3,v4,v5,v6,v7,v8,v9,v10,none,none]
abbrev sV(c:List Spt):Option B:=some (.val (aaY c))
theorem apm(row:List Int)(a n:Nat)(c:Int){i:Nat}(hi:i<n):(glP row a n c)[i]?=some (j6 (cor (swF (Int.fdiv c 49) (abJ (row.drop a) n)) i) (cor (swF (Int.fdiv c 49) (gU row a c (abJ (row.drop a) n) n)) i) (cor (swF (Int.fdiv c 49) (gW row a c (abJ (row.drop a) n) n)) i)):=by
 unfold glP glF
 rw[List.getElem?_map,List.getElem?_range hi]
 rfl
theorem afb(row:List Int)(a n:Nat)(c:Int):(glP row a n c).length=n:=by simp[glP,glF]
theorem agP{C:Cf}(hC:Has C ns){A:Ad}{z0:Int}{c0 c1 q1:List Spt}{mk:List (List (List Spt))}{n:Nat}(hB:BAt s A ⟨z0,[c0,q1],mk,[]⟩)(hn:n≤24)(l0:c0.length=n)(l1:c1.length=n)(fit:∀p∈c1,p.fit)(same:∀(i:Nat) (p q:Spt),c0[i]?=some p→c1[i]?=some q→jn p q=q){v4 v5 v6 v7 v9:Option B}:
  ∃s' v10,BAt s' A ⟨z0,[c1,q1],mk,[]⟩∧abH (.one 10) (fun σ s=>exs C adX σ s) (aai 0 n) (g57 ns row (iV n) (sV c1) v4 v5 v6 v7 (some (.val (.loc A.o))) v9 none) s=.next (g57 ns row (iV n) (sV c1) v4 v5 v6 v7 (some (.val (.loc A.o))) v9 v10) s':=by
 obtain⟨σ',s',e,v10,rfl,h1⟩:=ae3 (g:=.one 10) (body:=fun σ s=>exs C adX σ s)
  (fun m σ s=>∃v10,σ=g57 ns row (iV n) (sV c1) v4 v5 v6 v7 (some (.val (.loc A.o))) v9 v10∧BAt s A ⟨z0,[c1.take m++c0.drop m,q1],mk,[]⟩) (aai 0 n) 0 (g57 ns row (iV n) (sV c1) v4 v5 v6 v7 (some (.val (.loc A.o))) v9 none) s ⟨none,rfl,by simpa using hB⟩ (by
   rintro m t σ s hm ⟨v10,rfl,h1⟩
   obtain⟨rfl,hlt⟩:=aav hm
   rw[show 0+m=m by omega]at h1
   have hm0:m<c0.length:=by omega
   have hm1:m<c1.length:=by omega
   have x0:c0[m]?=some c0[m]:=by simp[hm0]
   have x1:c1[m]?=some c1[m]:=by simp[hm1]
   have hj:=same m _ _ x0 x1
   have ht:(c1.take m).length=m:=by simp;omega
   have hat:(c1.take m++c0.drop m)[m]?=some c0[m]:=by
    rw[List.getElem?_append_right (by omega),ht,Nat.sub_self,List.getElem?_drop]
    exact x0
   have hset:(c1.take m++c0.drop m).set m c1[m]=c1.take (m+1)++c0.drop (m+1):=by
    rw[List.drop_eq_getElem_cons hm0]
    have:(c1.take m++c0[m]::c0.drop (m+1)).set m c1[m]=c1.take m++(c1[m]::c0.drop (m+1)):=by
     rw[List.set_append_right _ _ (by omega),ht,Nat.sub_self]
     rfl
    rw[this,List.take_succ,x1,List.append_assoc]
    rfl
   have hf:=fit _ (List.getElem_mem hm1)
   obtain⟨s',e,h2⟩:=hC.moves s A _ 0 m _ _ _ h1 (by rfl) hat hf
   rw[hj,hset]at h2
   have g1:=aaU (ts:=c1.map tS) (n:=m) (t:=tS c1[m]) (by simp[hm1])
   generalize c1[m]=q at *
   have cut2:aeL (.val (tS q)) (some 2) (some 4)=some (.val (.tup [.int q.a,.int q.b])):=rfl
   have cut4:aeL (.val (tS q)) (some 4) none=some (.val (.tup [.int q.c,.int q.d])):=rfl
   have li:=h1.li
   have e:C.cf 28 [.val (.loc A.o),.val (.int 0),.val (.int m),.val (.tup [.int q.a,.int q.b]),.val (.tup [.int q.c,.int q.d])] s=.ok (.val .non) s':=e
   refine⟨g57 ns row (iV n) (sV c1) v4 v5 v6 v7 (some (.val (.loc A.o))) v9 (iV m),g57 ns row (iV n) (sV c1) v4 v5 v6 v7 (some (.val (.loc A.o))) v9 (iV m),s',by simp[aal],?_,iV m,rfl,?_⟩
   ·clear hset hat
    refine(aaa (σ1:=g57 ns row (iV n) (sV c1) v4 v5 v6 v7 (some (.val (.loc A.o))) v9 (iV m)) (s1:=s') (by simp[li,g1,cut2,cut4,e])).trans acY
   ·rw[show 0+m+1=m+1 by omega]
    exact h2)
 rw[aa1,show 0+((n:Int)-0).toNat=n by omega]at h1
 rw[List.take_of_length_le (by omega),List.drop_eq_nil_of_le (by omega),List.append_nil]at h1
 exact⟨s',v10,h1,e⟩
theorem amM{C:Cf}(hC:Has C ns):∃s',exs C aqz (aaC an2 [.val (.lst (iL ns))]) []=.ret (.val (.bl true)) s':=by
 obtain⟨row,hl,hr,e1⟩:=hC.stir
 obtain⟨v0,_,r0,_⟩:=abe hr (m:=0) (by omega)
 obtain⟨v52,_,r52,_⟩:=abe hr (m:=52) (by omega)
 obtain⟨v53,_,r53,_⟩:=abe hr (m:=53) (by omega)
 obtain⟨v54,_,r54,_⟩:=abe hr (m:=54) (by omega)
 obtain⟨v55,_,r55,_⟩:=abe hr (m:=55) (by omega)
 obtain⟨v56,_,r56,_⟩:=abe hr (m:=56) (by omega)
 obtain⟨v57,_,r57,_⟩:=abe hr (m:=57) (by omega)
 have r0:aaQ (.val (.lst (iL row))) 0=some (.int v0):=r0
 have r52:aaQ (.val (.lst (iL row))) 52=some (.int v52):=r52
 have r53:aaQ (.val (.lst (iL row))) 53=some (.int v53):=r53
 have r54:aaQ (.val (.lst (iL row))) 54=some (.int v54):=r54
 have r55:aaQ (.val (.lst (iL row))) 55=some (.int v55):=r55
 have r56:aaQ (.val (.lst (iL row))) 56=some (.int v56):=r56
 have r57:aaQ (.val (.lst (iL row))) 57=some (.int v57):=r57
 have m22:=aay (i:=v0) (j:=22) (by decide)
 have b22:=aap v0 (j:=22) (by decide)
 obtain⟨n,hn⟩:∃n:Nat,3+Int.fmod v0 22=(n:Int):=⟨(3+Int.fmod v0 22).toNat,by omega⟩
 have m53:=aay (i:=v53) (j:=13) (by decide)
 have b53:=aap v53 (j:=13) (by decide)
 obtain⟨z0,hz0⟩:∃z0,Int.fmod v53 13-6=z0:=⟨_,rfl⟩
 have m54:=aay (i:=v54) (j:=13) (by decide)
 have b54:=aap v54 (j:=13) (by decide)
 obtain⟨z,hz⟩:∃z,Int.fmod v54 13-6=z:=⟨_,rfl⟩
 have m55:=aay (i:=v55) (j:=1001) (by decide)
 have b55:=aap v55 (j:=1001) (by decide)
 have m56:=aay (i:=v56) (j:=6) (by decide)
 have b56:=aap v56 (j:=6) (by decide)
 have m49:=aay (i:=v57) (j:=49) (by decide)
 have b49:=aap v57 (j:=49) (by decide)
 have d49:=aaH (i:=v52) (j:=49) (by decide) (by decide)
 have t49:=aag (i:=Int.fdiv v52 49) (j:=49) (by simp[ahr])
 have hf:Int.fdiv (Int.fdiv v52 49*49+Int.fmod v57 49) 49=Int.fdiv v52 49:=by
  rw[Int.fdiv_eq_ediv_of_nonneg _ (by decide)]
  omega
 obtain⟨c',hc'⟩:∃c',Int.fdiv v52 49*49+Int.fmod v57 49=c':=⟨_,rfl⟩
 rw[hc']at hf
 generalize Int.fmod v0 22=w22 at *
 generalize Int.fmod v53 13=w53 at *
 generalize Int.fmod v54 13=w54 at *
 generalize Int.fmod v55 1001=b at *
 generalize Int.fmod v56 6=e at *
 generalize Int.fmod v57 49=w57 at *
 obtain⟨ok0,H,g0⟩:=hC.grow [] row n v52 hr hl (by omega) (by omega)
 obtain⟨s1,A0,E1,B1⟩:=hC.new (g57 ns row (iV n) (sV (glP row 1 n v52)) (iV z0) (iV z) (iV b) (iV e) none none none) []
 obtain⟨s2,A1,a1,E2,B2⟩:=hC.add s1 A0 _ _ B1 (by simp) ok0 (by simp)
 have okP:PcOk (P1 e):=⟨by simp[P1],by simp[P1],fun p hp=>by
  simp[P1]at hp
  rcases hp with rfl|rfl|rfl|rfl<;>simp[Spt.fit]<;>omega⟩
 obtain⟨s3,A,a2,E3,B3⟩:=hC.add s2 A1 _ _ B2 (by simp) okP (by simp)
 have B3:BAt s3 A ⟨0,[glP row 1 n v52,P1 e],[(glP row 1 n v52).map fun _=>[],(P1 e).map fun _=>[]],[]⟩:=B3
 have aA0:A0.o=A.o:=a1.symm.trans a2.symm
 have aA1:A1.o=A.o:=a2.symm
 obtain⟨s4,B4,E4⟩:∃s4,BAt s4 A ⟨z0,[glP row 1 n v52,P1 e],[(glP row 1 n v52).map fun _=>[],(P1 e).map fun _=>[]],[]⟩∧ex C (.ifs (.cmp .gt (.var 4) (.cst (.int 0))) [(.exp (.meth (.var 8) 0 29 [(.var 4)] []))] [(.exp (.meth (.var 8) 0 30 [(.bin .sub (.cst (.int 0)) (.var 4))] []))]) (g57 ns row (iV n) (sV (glP row 1 n v52)) (iV z0) (iV z) (iV b) (iV e) (some (.val (.loc A.o))) none none) s3=.next (g57 ns row (iV n) (sV (glP row 1 n v52)) (iV z0) (iV z) (iV b) (iV e) (some (.val (.loc A.o))) none none) s4:=by
  have li:=B3.li
  by_cases h:0<z0
  ·obtain⟨s4,q1,q2⟩:=hC.letOut s3 A _ z0 B3 (by omega) (by show -6≤0+z0∧0+z0≤6;omega)
   have q2:BAt s4 A ⟨0+z0,[glP row 1 n v52,P1 e],[(glP row 1 n v52).map fun _=>[],(P1 e).map fun _=>[]],[]⟩:=q2
   rw[Int.zero_add]at q2
   refine⟨s4,q2,(ajy (s1:=s3) (by simp[h])).trans ?_⟩
   generalize glP row 1 n v52=G at *
   refine(aaa (al8 (s1:=s4) (r:=.val (.int (0+z0))) ?_)).trans acY
   have q1:C.cf 29 [.val (.loc A.o),.val (.int z0)] s3=.ok (.val (.int (0+z0))) s4:=q1
   simp[li,q1]
  ·obtain⟨s4,q1,q2⟩:=hC.takeIn s3 A _ (0-z0) B3 (by omega) (by show -6≤0+-(0-z0)∧0+-(0-z0)≤6;omega)
   have q2:BAt s4 A ⟨0+-(0-z0),[glP row 1 n v52,P1 e],[(glP row 1 n v52).map fun _=>[],(P1 e).map fun _=>[]],[]⟩:=q2
   rw[show 0+-(0-z0)=z0 by omega]at q2
   refine⟨s4,q2,(ak0 (s1:=s3) (by simp[h])).trans ?_⟩
   generalize glP row 1 n v52=G at *
   refine(aaa (al8 (s1:=s4) (r:=.val (.int (0+-(0-z0)))) ?_)).trans acY
   have q1:C.cf 30 [.val (.loc A.o),.val (.int (0-z0))] s3=.ok (.val (.int (0+-(0-z0)))) s4:=q1
   generalize 0+-(0-z0)=w at *
   generalize hw:(0-z0)=w2 at *
   simp at hw
   simp[li,hw,q1]
 obtain⟨D4,H4,K4⟩:=hC.hem s4 A _ 0 _ .non z0 b B4 rfl rfl (by omega) (ag1 ok0 (by omega) H (by omega)) (by omega)
 obtain⟨ok1,_,g1⟩:=hC.grow s4 row n c' hr hl (by omega) (by omega)
 obtain⟨s5,v10,B5,E5⟩:=agP (row:=row) hC B4 (c1:=glP row 1 n c') (n:=n) (by omega) (afb ..) (afb ..) ok1.fit (fun i p q hp hq=>by
  have hi:i<n:=by have:=(List.getElem?_eq_some_iff.mp hp).1;rwa [afb]at this
  rw[apm _ _ _ _ hi]at hp hq
  cases hp
  cases hq
  unfold jn j6
  rw[hf]) (v4:=iV z0) (v5:=iV z) (v6:=iV b) (v7:=iV e) (v9:=lV (lnZ (glP row 1 n v52) z0))
 obtain⟨D5,H5,K5⟩:=hC.hem s5 A _ 0 _ (.int z) z b B5 rfl rfl (by omega) (ag1 ok1 (by omega) H (by omega)) (by omega)
 have R1:=hC.ref1 s5 A _ 2 b 7 B5 (.inr (by simp))
 have R2:=hC.ref1 s5 A _ (-1) b 0 B5 (.inl (by decide))
 have R3:=hC.ref2 s5 A _ 1 _ b (-7) B5 rfl (.inl (by decide))
 have R4:=hC.ref2 s5 A _ 0 _ b 7 B5 rfl (.inr (by decide))
 have R5:=hC.ref4 s5 A _ 1 _ b z _ B5 rfl (by omega) (by omega) (aqQ e z) (by split<;>omega)
 obtain⟨s6,E6,B6⟩:=hC.moves s5 A _ 1 2 _ ⟨9,e,0,-1,0,-1⟩ ⟨0,0,0,0,0,0⟩ B5 rfl rfl (by simp[Spt.fit])
 have B6:BAt s6 A ⟨z0,[glP row 1 n c',P2 e],[(glP row 1 n v52).map fun _=>[],(P1 e).map fun _=>[]],[]⟩:=B6
 have R6:=hC.ref4 s6 A _ 1 _ b z e B6 rfl (by omega) (by omega) (anP e z) (by omega)
 have L0:ev C (.comp ad7 (.one 11) (.var 3)) .v (g57 ns row (iV n) (sV (glP row 1 n v52)) (iV z0) (iV z) (iV b) (iV e) (some (.val (.loc A.o))) none none) s4=.ok (LN (lnZ (glP row 1 n v52) z0)) s4:=by
  have:=aaz (C:=C) (e:=ad7) (it:=.var 3) (i:=11) (σ:=g57 ns row (iV n) (sV (glP row 1 n v52)) (iV z0) (iV z) (iV b) (iV e) (some (.val (.loc A.o))) none none) (s:=s4) (glP row 1 n v52) tS (fun p=>tI (plc p z0)) (by simp) (fun p hp=>by have:=hC.place s4 p z0 (by omega);simp[this])
  rw[this,show T.lst (List.map (fun p=>tI (plc p z0)) (glP row 1 n v52))=.lst ((lnZ (glP row 1 n v52) z0).map pt)by rw[←adK];simp[tIs,anc]]
 have L1:∀v9 v10,ev C (.comp adV (.one 12) (.var 3)) .v (g57 ns row (iV n) (sV (glP row 1 n c')) (iV z0) (iV z) (iV b) (iV e) (some (.val (.loc A.o))) v9 v10) s5=.ok (LN (lnZ (glP row 1 n c') z)) s5:=fun v9 v10=>by
  have:=aaz (C:=C) (e:=adV) (it:=.var 3) (i:=12) (σ:=g57 ns row (iV n) (sV (glP row 1 n c')) (iV z0) (iV z) (iV b) (iV e) (some (.val (.loc A.o))) v9 v10) (s:=s5) (glP row 1 n c') tS (fun p=>tI (plc p z)) (by simp) (fun p hp=>by have:=hC.place s5 p z (by omega);simp[this])
  rw[this,show T.lst (List.map (fun p=>tI (plc p z)) (glP row 1 n c'))=.lst ((lnZ (glP row 1 n c') z).map pt)by rw[←adK];simp[tIs,anc]]
 have li1:=B1.li
 have li2:=B2.li
 have li5:=B5.li
 rw[aA0]at li1
 rw[aA1]at li2
 have E1:ev C (.new 0 26 4 [] []) .v (g57 ns row (iV n) (sV (glP row 1 n v52)) (iV z0) (iV z) (iV b) (iV e) none none none) []=.ok (.val (.loc A.o)) s1:=by rw[←aA0];exact E1
 have E2:C.cf 27 [.val (.loc A.o),.val (aaY (glP row 1 n v52)),.val .non] s1=.ok (.val (.int 0)) s2:=by rw[←aA0];exact E2
 have F3:C.cf 27 [.val (.loc A.o),.val (.lst [.tup [.int 0,.int 0,.int 0,.int 0,.int 0,.int 0],.tup [.int 9,.int 0,.int 0,.int 0,.int 0,.int 0],.tup [.int 9,.int e,.int 0,.int (-1),.int 0,.int (-1)],.tup [.int 0,.int 9,.int 0,.int 0,.int 0,.int 0]]),.val .non] s2=.ok (.val (.int 1)) s3:=by rw[←aA1];exact E3
 have E6:C.cf 28 [.val (.loc A.o),.val (.int 1),.val (.int 2),.val (.tup [.int 0,.int 0]),.val (.tup [.int 0,.int 0])] s5=.ok (.val .non) s6:=E6
 have H4:C.cf 22 [.val (.loc A.o),.val (.int 0),.val (.int b),.val .non] s4=.ok (.val (.lst D4)) s4:=H4
 have H5:C.cf 22 [.val (.loc A.o),.val (.int 0),.val (.int b),.val (.int z)] s5=.ok (.val (.lst D5)) s5:=H5
 have R3:C.cf 56 [.val (.loc A.o),.val (.int 1),.val (.int b),.val (.int (-7))] s5=.ok (.val (.int 2)) s5:=R3
 have R4:C.cf 56 [.val (.loc A.o),.val (.int 0),.val (.int b),.val (.int 7)] s5=.ok (.val (.int 2)) s5:=R4
 have R5:C.cf 56 [.val (.loc A.o),.val (.int 1),.val (.int b),.val (.int z)] s5=.ok (.val (.int (if(if z<0 then e+z else e-z)≤0 then 4 else 0))) s5:=R5
 have R6:C.cf 56 [.val (.loc A.o),.val (.int 1),.val (.int b),.val (.int z)] s6=.ok (.val (.int (if e≤0 then 4 else 0))) s6:=R6
 have w5:∀c:Bool,ahr 4 (if c then 1 else 0)=true:=fun c=>aab (by decide)
 generalize glP row 1 n v52=G0 at *
 generalize glP row 1 n c'=G1 at *
 generalize lnZ G0 z0=N0 at *
 generalize lnZ G1 z=N1 at *
 refine⟨s6,?_⟩
 refine(aaa (σ1:=g57 ns row none none none none none none none none none) (s1:=[]) (by simp[e1])).trans ?_
 refine(aaa (σ1:=g57 ns row (iV n) none none none none none none none none) (s1:=[]) (by simp[r0,m22,hn])).trans ?_
 refine(aaa (σ1:=g57 ns row (iV n) (sV G0) none none none none none none none) (s1:=[]) (by simp[r52,g0])).trans ?_
 refine(aaa (σ1:=g57 ns row (iV n) (sV G0) (iV z0) none none none none none none) (s1:=[]) (by simp[r53,m53,hz0])).trans ?_
 refine(aaa (σ1:=g57 ns row (iV n) (sV G0) (iV z0) (iV z) none none none none none) (s1:=[]) (by simp[r54,m54,hz])).trans ?_
 refine(aaa (σ1:=g57 ns row (iV n) (sV G0) (iV z0) (iV z) (iV b) none none none none) (s1:=[]) (by simp[r55,m55])).trans ?_
 refine(aaa (σ1:=g57 ns row (iV n) (sV G0) (iV z0) (iV z) (iV b) (iV e) none none none) (s1:=[]) (by simp[r56,m56])).trans ?_
 refine(aaa (σ1:=g57 ns row (iV n) (sV G0) (iV z0) (iV z) (iV b) (iV e) (some (.val (.loc A.o))) none none) (s1:=s1) (act E1)).trans ?_
 refine(aaa (σ1:=g57 ns row (iV n) (sV G0) (iV z0) (iV z) (iV b) (iV e) (some (.val (.loc A.o))) none none) (s1:=s2) (by simp[li1,E2])).trans ?_
 refine(aaa (σ1:=g57 ns row (iV n) (sV G0) (iV z0) (iV z) (iV b) (iV e) (some (.val (.loc A.o))) none none) (s1:=s3) (by simp[li2,F3])).trans ?_
 refine(aaa E4).trans ?_
 refine(aaa (σ1:=g57 ns row (iV n) (sV G0) (iV z0) (iV z) (iV b) (iV e) (some (.val (.loc A.o))) (lV N0) none) (s1:=s4) (act L0)).trans ?_
 refine(aaa (σ1:=g57 ns row (iV n) (sV G0) (iV z0) (iV z) (iV b) (iV e) (some (.val (.loc A.o))) (lV N0) none) (s1:=s4) (by simp[H4,K4])).trans ?_
 refine(aaa (σ1:=g57 ns row (iV n) (sV G1) (iV z0) (iV z) (iV b) (iV e) (some (.val (.loc A.o))) (lV N0) none) (s1:=s4) (by simp[r52,d49,t49,r57,m49,hc',g1])).trans ?_
 refine(aaa ((aaV (ts:=aai 0 n) (s1:=s4) (abm (n:=n) (by simp) (by omega)) (by intro _ h;cases h)).trans E5)).trans ?_
 refine(aaa (σ1:=g57 ns row (iV n) (sV G1) (iV z0) (iV z) (iV b) (iV e) (some (.val (.loc A.o))) (lV N1) v10) (s1:=s5) (act (L1 _ _))).trans ?_
 refine(aaa (σ1:=g57 ns row (iV n) (sV G1) (iV z0) (iV z) (iV b) (iV e) (some (.val (.loc A.o))) (lV N1) v10) (s1:=s5) (by simp[H5,K5])).trans ?_
 refine(aaa (σ1:=g57 ns row (iV n) (sV G1) (iV z0) (iV z) (iV b) (iV e) (some (.val (.loc A.o))) (lV N1) v10) (s1:=s5) (by simp[R1,R2])).trans ?_
 refine(aaa (σ1:=g57 ns row (iV n) (sV G1) (iV z0) (iV z) (iV b) (iV e) (some (.val (.loc A.o))) (lV N1) v10) (s1:=s5) (by simp[R3,R4])).trans ?_
 refine(aaa (σ1:=g57 ns row (iV n) (sV G1) (iV z0) (iV z) (iV b) (iV e) (some (.val (.loc A.o))) (lV N1) v10) (s1:=s5) ?_).trans ?_
 ·obtain⟨za,hza⟩:∃za,(if z<0 then -z else z)=za:=⟨_,rfl⟩
  have hq:((if z<0 then e+z else e-z)≤0)↔e≤za:=by rw[←hza];split<;>omega
  have o1:=aag (i:=4) (j:=1) (aab (by decide))
  have o0:=aag (i:=4) (j:=0) (aab (by decide))
  by_cases q:e≤za
  ·rw[if_pos (hq.mpr q)]at R5
   simp[R5,hza,q,o1]
  ·rw[if_neg (fun x=>q (hq.mp x))]at R5
   simp[R5,hza,q,o0]
 refine(aaa (σ1:=g57 ns row (iV n) (sV G1) (iV z0) (iV z) (iV b) (iV e) (some (.val (.loc A.o))) (lV N1) v10) (s1:=s6) (by simp[li5,E6])).trans ?_
 have o1:=aag (i:=4) (j:=1) (aab (by decide))
 have o0:=aag (i:=4) (j:=0) (aab (by decide))
 by_cases q:e=0
 ·rw[if_pos (by omega)]at R6
  simp[R6,q,o1]
 ·rw[if_neg (by omega)]at R6
  simp[R6,q,o0]
theorem asH(k:Nat)(ns:List Int):∃s,run true fns sub0 aac (k+10) atu [.val (.lst (ns.map .int))] []=.ok (.val (.bl true)) s:=by
 obtain⟨s',e⟩:=amM (has k ns)
 refine⟨s',?_⟩
 rw[aad (F:=an2) rfl rfl,e]
 rfl
theorem math:axp:=fun ns _=>asH 6 ns
end Pg
end IP
end
noncomputable section
/--=1F2VMHY]<<0?:4ZkmO;S:0n2ZCn4Ff6b4Y8ceWB2f9N::gj=hK^?5C85\6dU1H9Y^0]Sd6gZT[Mh4VER7445OBm??S[HVK?mT?2ZFJHnmU^6f8`D4J=^F^i:8>Oh=Kka=pl9cnN1<;bb8:9m0a>BIfU96?jOQ;4Cg>oE?B9L5g>;0m`5ScHZoT:A>8=g25;An6il0:WgpXmmCkZU=Ie9W12><5H6H6<1UiFdWP:;1IZ2PBP945n3PjZH6VDb7KL[5\SjGmm3L6hjU]B4VE?:4WZKEa;Dh5X7aD<;JL399^pK:Npm0<m6h=Z>E9<=nU6EZ5nl^n6_J>Of`7hmVjGF;L<[A0bDn3o2GTLED8I1_V03HW^BPcjHN>>Y?M`30CX]2YW^BeND1o`?L[f<nI;6bK=[^ojEaYj:L71D;3=P2?fU=I87XjLGda10lOM4_oHlK4=lf[9i8[MjX6WT0VgY>HhC=7`DeEUlI:O5V?B<M=VRGM5ODQcJEVaCB?CLQ0KM<K?a:3RRkf\0KWJ4pl1So819ld9TV8T9iBD`K8?B<Z9FbI2B:>VK:lVZeOZ>bg`QK1^fh6;`?Em7gfb56:bj3=OXMW]i<Xo8KW\VmL12jJAfL4K\R=<S85fQ2CS_173ZpSkJ;>40;QBWJMOaPJ`:K:U?Bjlp3j6IECaCOLl`M3DN98G5:ATi6\7k48cW[8k2ef\7J7K:iL?GMZ8p[BM9n;=5`o[367GA2k0DnMDMfGa9NQ3JM52Mh`;6_a5V0?]H010k15KOnboE3RQCWIGmFYp5_mo0dXY=lW5LjVo?eGgUK1=3]9_NDkhV0PppW=IBS;\;le4DIKDP2B:\UTiGMkpXE<`mIEP1P`;U7aSWVjl9eE\4I=\nI;H]6i9M8mEn<1?35>6b3=2Me6PF0ThHXn?LP>740S<Q2YEPih:PXG7DSga?D5Vbc20pRR^L9<68ULD6H>;91Xb:i1l[]^?hGEdV?BhGT0``_RLmBXOK:bV]9H3XH\A1?DX5K3SM_m=Q>nNQR>;T`<iPVJkjm6:a1BYEM]5Z<]\:oX<f[l_d61=Y2S;Ed9=LY?d>]FQRg=Dk=GAkD3X8Rop=b0BPO\[H5S=OfkOHMK9gp2eOQNF5d=ph:aTPAfRc^`Y5NTTQcCJ3:c9i=YS<=D>80<iRP<2iP1dR7HEOBInCX[l;[82bR5k\OP9;18gl0R0QV63P^?3bMO=^;SoW2_A0=Qg<N:\:WJ=R\B7YcQ7ON>p1b>]eW9dnOf]59f`UddS]UOF1_P;[ET[5ZI6HUDb>mBRO\7`^WNZ^HX>1=cTFi[0LBOn;_?7FSL=<XA;5O\bZ260YY=F]fRg^IOl;?P2S1mZgDna8Bcj]jcgP7P<3PAO[CnbLh8j26MY\C1D>=OM^R`1Vgbp6LSjOFL0E;m?LCU[DE8LPE;]WCX<K^Ynj>:1kI=98P5C7LWLC\aNUPd?NAX=8i^S>O?a0bOl;8jBP8=>9PH\5APn4:cd\;SO6PT8]0PZR8SK2>5o5biOeAadD4SYJY3JaBWF7V=^hQP;Ppf6j[CNnX8N`j5C50o1IVXea6A:HQD2RPo74OOb3bg;aYB>_A0B16U_[b:jD<o_EXjGn5MjaWNZ<fFc0Q3NcHpMiDK9cOgZed_m`J44Cl=Oo3N0j7MJT1LN^`4H1k_EIeGkL8l<i44C2pm1Io2RP[H8bImed>TpIfOA[Lgd?U7P>e\a4VH>VkWKn29O=D;EQCFYgaJTW>gM<CJCU:?01njl;F0;DGH=gmUN]d]f<14GIiH<G^`Ep4=b:;m6]ocU3ppM;TDUd\P:GS[fcdQ7P75og68m1g4Pi6iDNkQ1o[432hd;dcp=eWn2_0=i]B:3\96ACG]0XUb_`19gW3<0;<cm87O6g`F?bkX0`X5ig?6MJT7S7PT3PNmk?5B?RhJi:LlU7dn2BDL?6`E8FLAYSH^MEV?7m^P1p?Em743Nj7=U\3D?0k49JfReI`:3<oW6BQV`R49:7Mc:4XI1o;O7`Q7\`k`19?i^6FB`9OX;b^Qk:=cb835lVaaKDWhcT3ebMH2ICVkb7[5FB3Z^jiT4f3f66elK5j5BSHQ^VCQJ^05Na9[7K[F_1kIb]P18QM8:aURd>ia5:C1?S07gf_:^A<ka?EAfH22l6T>;IDo1J<51;KGWWEQ<\N0XNc9Wc9K0^9PiA]GAn<Lg=\HERE4=i1d>_`W8d2`?_I2GlV9TD6c^T0a6IbELSA`o6[1C=KDLTkE4ap9NJ<2HT=74J4RQiQKe?1BOJ=Q=4j4Y7bVGIXhFS[[4U_1d]SW;em3gYSEK9O^I]9JloF97G_EQ0MQA59Da9ZL=\aeEg:icXc?WE:Z2amGjb2Pa_BBe:mT7?_:`;hfT>IF;[2M2<cGVaF3kOH5ZbF9WB1e]o7LGNR1k9C74pd59n84:>h6OTdL44_:eQi0^5:Hl?7Epb3F^WX7c>\g1[Sg6FNj7d:cbgU3[C12Kf?[>08p0S6^7UASXpnDl4=QpfaK<GFI;6]pZb8_W^S4EcP;NFN35><afc:X;b_i61ToJDgFBUG`:lFp[]lb?Wf8f5K0\G0I9Y==G?SWlA=949I6T:NnGCRB54B3Ej9JjZG7;;\IYLZ?p];e\PNVQiN><8iNO`I42V866DpL1oLg^;F0bZGcQR8ilE407IB2T53c89gH<F]:ce;V9X>X:]i^5T`4b;\f8M=Y?m>hR06OUgdhQ7^p71<QF[IU1^49nGTg[6W>6dJJ>:Q:e005APTUEML0p0Fd\KLOBGMB?VF<b\IQUZg5e]9XI8F;DI7Z1NJZPIjfE0[b0G]TEnH;<C?^f86IX;;6:k8:ogn][c87[93o1a<eZ1Q?GHj>0KfW3bDK6D=`;jZ5:Q_X2`Zh]J;b1A>o`OO8O9Bphfn?4dkD1LXFXT1?dH93[nbbf=07NR2a6^C5X_FJR6g[07Y4fE;n9QAMjBCk:VX<W[k4FhTQJp2GkH<E0i3Qd0^;;Y:K59HH?JDOm=HLZ:<?iHSnK`>W4Y357URLUZ\2T3=`PFhJ=R`>6f;5F5Whc3K2AMER<EegH>3A5B`8cfEF0<ingSS?e:IB=XmFdFDXic]51M^`X2VCXf7S9bOL723Fc7p?PM?5j`Fh;Zo_>MiP8UN>G=^Q:=Nk;j0O?8\Cfj^MD<3H0d7YmZ;a7>0_Y56=4d:2MoYbB4=h3d>>];jg;CSIK7Ic_^Lb:<ZA=\jjObYF156740LYXmp5LN>J0IlAbD3nU:`]O4XE5XTX2DShaAfYBLN02XKnnB_=T56oYGLA8MCfd<bdThap1>GQ3^5gXYIpc>n0RZ`B79a6_h7flZ`8pgGl=6e3560J0==W<Qg8=iXpB7D:YFpNdA1=P46hQ=S`fVp2J1\GJQ;bG1558R>kL2I1g[^7CYoN3ZIL7f39PK`=05min6dBH8mm1:b;?DN\NNW:kT\?9WY\BFp76U?DcS]YW1jMm6e`RPJ4]]RK8?U3j6\W4Sd2<i<0AnT3MZ>k1^QO;h>\?2meMj1TfS4F61mgCC48HC893c5f738ZG52h\<SN5OVln;B<1F?H9\aC=9Uo_KhDiap5A<=UBSCpYK3jlI:B?]4iA;m3IV:m]BU?>\iKN^cA:?28AJaOR>[_\U0L]9fgLf78T7:lV6A^:6Xm0AYcGo]0Keh7IG9<C<dKfd9ZoPQGaU3<n4Ta<a1kpj585nH4YYb3dSl4M=\KS]f>3h?d\>aSoAjnT3hlB;d[8e5[9VQ7X<m4;^70EpiEfmN_^I1A;dLWk>ZmL;R`38W\GY<l5d\]h1bkI\W8Kg4d9V`6364WK<^6K[BJ<3=V6Fp_h?QI6DDS?I5U0bR74Wf9AhIDpf2JcG3:XgR6G=NM5CCY1V5W<C_[SPie\>M3P\bW0:ip1M6\f?k01Lh;Z?F[kg0eXJ1j3n14i>A0RlH<Yd`lEGH98T:EQ34nI\RP9;g]mH1foKh:82DogeWNc^E?_pE>4[Y\b_6mSFPbQRdIo57G?=5`ak8h04^2dE;Da:[1Rn>^CEpGDj;AN<V6]Kjji=^lThIgDTAg7nQZ6B1>6K`>:lAOB=_UX7;doa0Gh46NH5C?idnVU`p46<>^>le:k4<>m1TldXS3_44[4T5f:fAW[5A]>efa9HDV5KejSP:f<BN6Y^IPjBjgEj<6a`G3LTWCd<5F6p7Jb1?\<^p?5ZMA1fi?aBNGMTMbKV5XKjp4kHCBA7FbVb=^OOoM9Fe[TlBojW19k^FkHp>:JO2l>og9iSplQ37M82:U53QJ02Loj`Qd^Oo80UAXENQf8m<>VoGck^a7b1lf1ImHkSUg<j4d3jLnQ831;\p;0Bk8mi5YjBALphaEA;dXiF6_]f?M5AbO2^O\f0]0Lc:XXZXoO1<?6a\DF_MUL7[XeSaAiQMD?=Z5QKOK9Ti2XPeb8n]89D7<29f`=GAco3URoG7^LQY[9cY<IVBc<T;?]plDEPbDN377S]31MJ^Up>e7WAQnBW;i4:PJA51XDaO6L[X2iEe;XZ=Hhk]Emj?2G1B8ipXEOWK3>O8`iAA5:3b?eWpBRlK:3k0PL7aILno0f98X:6?NegHf:A:1?g?MnkF4684GNIh4Bm2iD\PDAC93Z5d<KmGPgb\`:gpQbepI2Uk?QbNl]6jp8_5PJK\QCVSQF<2Xal=hmF6I3RTBnF0kO8E37gT]K]6NS046k3l_^B;Dg7NoN[kWgUOW=FeZg3HF`]X71FlmE2:So_2H9caUF\faG80Z:b9cUpS44:]KT<b9Bb0>3hHhMpPbh`1;oVCFQNTF?7kMKhHdBV1Y3IHC;ULmJ6j;C[>9;:iRX?41LC4VQ1jMX3eGemMmUPBi9I8i\D69Q[44lK=Mp>_F=8:hoWnK<in[i4bWCl8X_O^R3`OpFJHBQU21Bk?E4?M3ZK;91BZR4jT;d8PD^V=NG5C58AWGfop=Jln3`=3Z;k]7g<<p_SP8k25]i:e:hY_\fn:]0kY?Cpd9nA_>hUh1cM^f766:?P_I>0gKZ2p5pO5cBI7A=8[2HRcmpAF8X4JD1alTZP0ComgATYo_3;UjaL=;S2DN0CK3QK;F<Xm=DDfjG_CJI=4neFeXJ\ano7TTM8c:a4hG90VL0ppm;go7UkbV3W[k;k;dlbEXoKSf:<OAFA>X[GRI?kWK56;?[jQ?AIVDSmnOn3<QED:CeLZKg:?WIF]0l4>=0lKFp_hp9GB2[_5cMY^0]n<X;fE^BKdRo;Y_=k]2Cp_h?E^P?\dmWa64djP\:I8`<`4kb1a\f5P7Z7MW:[eFX`gR;jZ4Zf485o55K0HK0m1DE1>D?_PN6<A>F6li8K\TEjR;8HlP=7<jfgl6p60kcYYQ;=5dbfNZM`<U>7<NWSf?p_;F<C33hZ:Ek^40mTN3I0^PJB=R0VjGdLiO3:11npWpKPe^74<U];fa3Ea8_86YKWNKp=?=<IaGApL4f<hn3L23CTWd:M54NoNQEBn8\YKUk0m9Ma=7lVFQoc0;Q6X^6N;;l84O1J`Zpma^F]U6m193nd9M=b7^_fLf?N5U^?E_4SM4Z?iU:f2CQ9A8Olo6HEc?>i>;pZ>20dO_0n<Cd2hjDkh_7=XU5[p;glT[8VI57N3K0k<nOW:>^h9Y87Bp989:ES=>_gkK4]>5M1lIAVX6BL1V;Mo3C\>\N2l<?foVa<j8jS_^mVLM0DS4EMelGW773_U^C^OBEI2CAT\HGdoBA?K>D_VEh_n\8m]WQ2JibFU62HlPEPCg4A3>3P`H:oT<66N9X7EJZCRC3R?R6;YUQVi;N>3W;685U88DP223?Kheo3B1jmLB2KgR4C3^EgpW[B08cHJ4I<7T`a5=IO9aL=KdZ>\6o1T:V]BQ2NihJUp7BIA=>39`V__d\93cNK^j:KQ9P5fW?o`C>WNe89UaTH__Dea<8np0[kdJ;1156[FWLJ?UJ==fT8DX0\iF<^De^\SL_DW4b^NH`KKj`6?GY2i;UGbdi=Qbo9oU<J<k599Z40jDHK:<0QGSXoF;94<5?7Ya]^UT`57H[J]<9YFU:?8aYRFYJjo9IjeoKm3Z7p:EJfU_p?k<D=\V:4E29AL5;]45aidchN>;mgH08aG851=SHV2kFFf6I6X8AI\o9MO985YZRKL2CUc37pI2C2K01J<`d5;BeX:ic4H6hhDCI?KH7Zno;iZZn]W4GRIWmV?1kQ3[=ncjnkf]\;9\M]f^]Xoi7cIC;j_6XcP8AEKN2[Lk:b4Y8B=[7TZRm>5=m4iZWaM^>>ACndHWp[R:hDIj8OpCe\8dPH^I?hGGW7BETIj08gTJ8[R?83pOVi_0QJ7MoefQ?80Xk]]hS=8Ko5IU0E<Zk2jh9N6p\_KRYmG??Rn4b9IU0o:;>h8G7l?pD7QYNTQ<?jJ^:7kD;5SL<\S=XQApUn5VQ6>G8gMWFm83?2d25A?X<b[N:<bCC]SPce21_U[[L61?hi9H_?0flCop=9W56`_94Q7Z>[lU0K<KM[02LdAURZHJp9-/def t:=()
open PySem PySem.W PyProof.Rows
theorem IP.Pg.bd_22{K:W.Frag}{dt:Addr}{oct:Value}{odt:Option Addr}{slt:Array (Option Value)}{nt:Nat}{kV dc pm cd ct:Value}{an:Option Addr}(dl:K.lookup dt=some ⟨oct,odt,.seq #[.none] nt,slt⟩)(ts:List IP.T)(z:ts=[]∨ts∈IP.dfl IP.Pg.tb 22):
  ∃(dvs:List L2.V) (ds:List Value),ts.mapM IP.cstV=some dvs∧L2.Vals dvs ds∧L2.Binds K (W.fnOf "hemmed" "hemmed" (L2.defArgs (IP.Pg.top 36)) (L2.defBody (IP.Pg.top 36)) (L2.defScope (IP.Pg.top 36)) (.ref dt) kV dc pm an cd ct) ["book","piece","breadth","size"] ds:=by
 have z:ts=[]∨ts∈([[.non]]:List (List IP.T)):=z
 simp only[List.mem_cons,List.not_mem_nil,or_false]at z
 rcases z with rfl|rfl
 ·exact⟨[],[],rfl,.nil,IP.lenB 4 (by intro _ _ _ _ s X;first|exact .of_eq rfl|exact W.binds_K X rfl dl rfl rfl rfl) rfl⟩
 ·exact⟨[.non],[.none],rfl,(.cons rfl .nil),IP.lenB 3 (by intro _ _ _ s X;exact W.binds_K X rfl dl rfl rfl rfl) rfl⟩
theorem IP.Pg.bd_27{K:W.Frag}{dt:Addr}{oct:Value}{odt:Option Addr}{slt:Array (Option Value)}{nt:Nat}{kV dc pm cd ct:Value}{an:Option Addr}(dl:K.lookup dt=some ⟨oct,odt,.seq #[.none] nt,slt⟩)(ts:List IP.T)(z:ts=[]∨ts∈IP.dfl IP.Pg.tb 27):
  ∃(dvs:List L2.V) (ds:List Value),ts.mapM IP.cstV=some dvs∧L2.Vals dvs ds∧L2.Binds K (W.fnOf "add_piece" "Book.add_piece" (L2.defArgs (L2.inClass (IP.Pg.top 50) 1)) (L2.defBody (L2.inClass (IP.Pg.top 50) 1)) (L2.defScope (L2.inClass (IP.Pg.top 50) 1)) (.ref dt) kV dc pm an cd ct) ["self","corners","marks"] ds:=by
 have z:ts=[]∨ts∈([[.non]]:List (List IP.T)):=z
 simp only[List.mem_cons,List.not_mem_nil,or_false]at z
 rcases z with rfl|rfl
 ·exact⟨[],[],rfl,.nil,IP.lenB 3 (by intro _ _ _ s X;first|exact .of_eq rfl|exact W.binds_K X rfl dl rfl rfl rfl) rfl⟩
 ·exact⟨[.non],[.none],rfl,(.cons rfl .nil),IP.lenB 2 (by intro _ _ s X;exact W.binds_K X rfl dl rfl rfl rfl) rfl⟩
theorem IP.Pg.bd_34{K:W.Frag}{dt:Addr}{oct:Value}{odt:Option Addr}{slt:Array (Option Value)}{nt:Nat}{kV dc pm cd ct:Value}{an:Option Addr}(dl:K.lookup dt=some ⟨oct,odt,.seq #[.none] nt,slt⟩)(ts:List IP.T)(z:ts=[]∨ts∈IP.dfl IP.Pg.tb 34):
  ∃(dvs:List L2.V) (ds:List Value),ts.mapM IP.cstV=some dvs∧L2.Vals dvs ds∧L2.Binds K (W.fnOf "corners" "Book.corners" (L2.defArgs (L2.inClass (IP.Pg.top 50) 13)) (L2.defBody (L2.inClass (IP.Pg.top 50) 13)) (L2.defScope (L2.inClass (IP.Pg.top 50) 13)) (.ref dt) kV dc pm an cd ct) ["self","piece","size"] ds:=by
 have z:ts=[]∨ts∈([]:List (List IP.T)):=z
 simp only[List.mem_cons,List.not_mem_nil,or_false]at z
 rcases z with rfl
 ·exact⟨[],[],rfl,.nil,IP.lenB 3 (by intro _ _ _ s X;first|exact .of_eq rfl|exact W.binds_K X rfl dl rfl rfl rfl) rfl⟩
theorem IP.Pg.bd_35{K:W.Frag}{dt:Addr}{oct:Value}{odt:Option Addr}{slt:Array (Option Value)}{nt:Nat}{kV dc pm cd ct:Value}{an:Option Addr}(dl:K.lookup dt=some ⟨oct,odt,.seq #[.none] nt,slt⟩)(ts:List IP.T)(z:ts=[]∨ts∈IP.dfl IP.Pg.tb 35):
  ∃(dvs:List L2.V) (ds:List Value),ts.mapM IP.cstV=some dvs∧L2.Vals dvs ds∧L2.Binds K (W.fnOf "marks" "Book.marks" (L2.defArgs (L2.inClass (IP.Pg.top 50) 14)) (L2.defBody (L2.inClass (IP.Pg.top 50) 14)) (L2.defScope (L2.inClass (IP.Pg.top 50) 14)) (.ref dt) kV dc pm an cd ct) ["self","piece","side","size"] ds:=by
 have z:ts=[]∨ts∈([]:List (List IP.T)):=z
 simp only[List.mem_cons,List.not_mem_nil,or_false]at z
 rcases z with rfl
 ·exact⟨[],[],rfl,.nil,IP.lenB 4 (by intro _ _ _ _ s X;first|exact .of_eq rfl|exact W.binds_K X rfl dl rfl rfl rfl) rfl⟩
theorem IP.Pg.hyL{K:W.Frag}{h:Heap}{mg:Str→Option Value}{e0:Addr}{e1:Addr}{e2:Addr}{e3:Addr}{e4:Addr}{e5:Addr}{e6:Addr}{c0:Addr}(X:K.In h)(Gn:h.Ns mainGlobals mg)(a:IP.HyA K [e0,e1,e2,e3,e4,e5,e6] [c0] IP.Pg.rows0 IP.Pg.tb IP.Pg.dis):∃G,G.K=K∧IP.Hy K mg G IP.Pg.sub0 IP.Pg.tb (IP.Df K IP.Pg.tb IP.Pg.dis):=IP.hy_mk X Gn IP.Pg.Ck.ckt_ok a
theorem PySem.Challenge.cw_gradecut_k33_hems_of_a_size_holds : PySem.Challenge.rw_gradecut_k33_hems_of_a_size.Holds := by
 w_on;o_law;k_head;(case hw=>w_witness2)
 k_fill
 refine IP.walk (tb:=IP.Pg.tb) (dis:=IP.Pg.dis) (par:="_law_script") IP.Pg.math (fun _ _=>IP.Pg.Ck.ckr_ok 40) IP.Pg.Ck.ck_ok rfl rfl rfl (l:=PySem.Challenge.rw_gradecut_k33_hems_of_a_size) rfl rfl ⟨rfl,by decide,by decide⟩ (fun w h Y=>PySem.W.kIn_of Y) ?noL ?goF
 case noL=>intro w;first|rfl|with_unfolding_all rfl|decide +kernel
 case goF=>
  intro w mg fa h KX G hmg
  refine' IP.go_mk KX G hmg (by k_is) (by k_is) (by k_is) (by k_is) (fun _=>rfl) (IP.Pg.hyL KX G ?jg)
  case jg=>
   refine⟨?_,?_,?_,?_,?_,?_⟩
   ·(iterate 7 refine IP.allP_cons (by exact IP.g_exc (by (dsimp only[IP.nE,IP.nth])) (by k_is)) ?_);refine IP.allP_cons (by exact IP.g_cls (by dsimp only[IP.nE,IP.nth]) (by k_is) (by k_is) (by k_is) (by k_is) (by k_is) (IP.df_mk rfl (by k_is) (by k_is) (by k_is) (IP.bd0 rfl (by repeat (first|rfl|intro _))))) ?_;(iterate 46 refine IP.allP_cons (by exact IP.g_fn (by k_is) (by k_is) (IP.df_mk rfl (by k_is) (by k_is) (by k_is) (IP.bd0 rfl (by repeat (first|rfl|intro _))))) ?_);refine IP.allP_cons (by exact IP.g_fn (by k_is) (by k_is) (IP.df_mk rfl (by k_is) (by k_is) (by k_is) (IP.Pg.bd_22 (by k_is)))) ?_;(iterate 8 refine IP.allP_cons (by exact IP.g_int (by k_is)) ?_);(iterate 13 refine IP.allP_cons (by exact IP.g_blt (by k_is)) ?_);exact True.intro
   ·refine IP.allP_cons (by exact IP.g_m (by dsimp only[IP.nE,IP.nth]) (by k_is) (by k_is) (by k_is) (IP.df_mk rfl (by k_is) (by k_is) (by k_is) (IP.Pg.bd_27 (by k_is)))) ?_;(iterate 6 refine IP.allP_cons (by exact IP.g_m (by (dsimp only[IP.nE,IP.nth])) (by k_is) (by k_is) (by k_is) (IP.df_mk rfl (by k_is) (by k_is) (by k_is) (IP.bd0 rfl (by repeat (first|rfl|intro _))))) ?_);refine IP.allP_cons (by exact IP.g_m (by dsimp only[IP.nE,IP.nth]) (by k_is) (by k_is) (by k_is) (IP.df_mk rfl (by k_is) (by k_is) (by k_is) (IP.Pg.bd_34 (by k_is)))) ?_;refine IP.allP_cons (by exact IP.g_m (by dsimp only[IP.nE,IP.nth]) (by k_is) (by k_is) (by k_is) (IP.df_mk rfl (by k_is) (by k_is) (by k_is) (IP.Pg.bd_35 (by k_is)))) ?_;refine IP.allP_cons (by exact IP.g_m (by (dsimp only[IP.nE,IP.nth])) (by k_is) (by k_is) (by k_is) (IP.df_mk rfl (by k_is) (by k_is) (by k_is) (IP.bd0 rfl (by repeat (first|rfl|intro _))))) ?_;exact True.intro
   ·refine And.intro ⟨⟨by k_is,by k_is,by k_is,by k_is⟩,?_⟩ ?_
    ·(iterate 4 refine IP.allP_cons (by exact IP.g_na (by k_is)) ?_);exact True.intro
    exact True.intro
   ·(iterate 6 refine IP.allP_cons (by exact IP.g_rs (by (dsimp only[IP.nE,IP.nth])) (by k_exc)) ?_);exact True.intro
   ·refine IP.allP_cons ⟨(fun h=>nomatch h),?_⟩ ?_
    ·(iterate 7 refine IP.AllZ_cons (by exact IP.g_ct (by (dsimp only[IP.nE,IP.nth])) rfl (by kts_exm)) ?_);exact True.intro
    exact True.intro
   ·refine IP.allP_cons ⟨⟨(fun h=>nomatch h),?_⟩,?_⟩ ?_
    ·(iterate 7 refine IP.allP_cons (by exact⟨by k_is,by k_is,by k_is,by k_is,by k_is,by k_is,by k_is,by k_is⟩) ?_);exact True.intro
    ·(iterate 7 refine IP.AllZ_cons (by exact IP.g_ix (by (dsimp only[IP.nE,IP.nth])) rfl (by kit_is)) ?_);exact True.intro
    refine IP.allP_cons ⟨⟨(fun h=>nomatch h),?_⟩,?_⟩ ?_
    ·(iterate 7 refine IP.allP_cons (by exact⟨by k_is,by k_is,by k_is,by k_is,by k_is,by k_is,by k_is,by k_is⟩) ?_);exact True.intro
    ·(iterate 7 refine IP.AllZ_cons (by exact IP.g_ix (by (dsimp only[IP.nE,IP.nth])) rfl (by kit_is)) ?_);exact True.intro
    refine IP.allP_cons ⟨⟨(fun h=>nomatch h),?_⟩,?_⟩ ?_
    ·(iterate 7 refine IP.allP_cons (by exact⟨by k_is,by k_is,by k_is,by k_is,by k_is,by k_is,by k_is,by k_is⟩) ?_);exact True.intro
    ·(iterate 7 refine IP.AllZ_cons (by exact IP.g_ix (by (dsimp only[IP.nE,IP.nth])) rfl (by kit_is)) ?_);exact True.intro
    exact True.intro
end
