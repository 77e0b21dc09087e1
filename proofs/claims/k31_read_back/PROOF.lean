import PyProof.Rows.All
import Wide.All
import OpenK.AllK
import Wide.FinOn
import Lean
import PyProof.EqAt
import PyProof.EqKinds
import PyProof.TupleCall
import PyProof.StrCalls2
import KE.KIntText
import PyProof.NeKinds
import KE.KTryMore
import PyProof.EnumStmt
import PyProof.ZipIter
import PyProof.Rows.ZipGen
import PyProof.StrLawsJoin
import PyProof.Rows.StrSplitAre
import PyProof.StrLaws
import PyProof.StrLawsChain
import PyProof.StrLawsTight
import PyProof.Rows.StrItems
import PySem.Challenge.RW_gradecut_k31_read_back
set_option Elab.async false
set_option linter.all false
set_option maxRecDepth 100000
set_option maxHeartbeats 0
set_option compiler.extract_closed false
set_option genSizeOf false
set_option genInjectivity false
open Lean in
local macro_rules | `(command| $d:declaration) => do
  let d := d.raw
  let m := d[0]
  if m[0].isNone then
    unless m[4].isNone && (d[1].getKind == ``Lean.Parser.Command.definition || d[1].getKind == ``Lean.Parser.Command.abbrev) do Macro.throwUnsupported
    return d.setArg 0 (m.setArg 4 (mkNullNode #[.node .none ``Lean.Parser.Command.noncomputable #[mkAtom "noncomputable"]]))
  let t := d.setArg 0 (m.setArg 0 mkNullNode)
  let r := m[0][0][1].getAtomVal.toList.foldl (fun (r : Nat × Nat × Array Syntax) c =>
    let n := r.1 * 64 + if c = 'p' then 16 else c.toNat - 48
    if r.2.1 = 10 then (0, 0, r.2.2.push (t.setArg 1 (t[1].setArg 1 (t[1][1].setArg 0 (mkIdent (.str `PySem.W.Fast ("tw" ++ toString n))))))) else (n, r.2.1 + 1, r.2.2)) (0, 0, #[])
  return mkNullNode r.2.2
local macro_rules | `(tactic| omega) => `(tactic| first | assumption | lia)
noncomputable section
namespace L2
open PySem PySem.Spec PyProof.Rows
abbrev Key:=Sum Int Str
def aou:Key→Value→Bool
 | .inl k,v=>Value.isInt k v
 | .inr x,v=>Value.isStrOf x v
def ayr(w:World):Key→Int
 | .inl k=>hashInt k
 | .inr x=>hashStr w x
theorem aa6:∀{k:Key}{v:Value},aou k v=true→(∃i t,k=Sum.inl i∧v=Value.int i t)∨(∃x t,k=Sum.inr x∧v=Value.str x t)
 | .inl i,v,h=>by
  obtain⟨t,e⟩:=Value.isInt_shape (k:=i) (v:=v) h
  exact .inl ⟨i,t,rfl,e⟩
 | .inr x,v,h=>by
  obtain⟨t,e⟩:=Value.isStrOf_shape (x:=x) (v:=v) h
  exact .inr ⟨x,t,rfl,e⟩
theorem apt(a b:Int):decide ((Sum.inl a:Key)=Sum.inl b)=(a==b):=by
 by_cases e:a=b
 ·subst e;simp
 ·have h:¬(Sum.inl a:Key)=Sum.inl b:=fun q=>e (Sum.inl.inj q)
  rw[decide_eq_false h]
  exact(beq_eq_false_iff_ne.mpr e).symm
theorem apc(a b:Str):decide ((Sum.inr a:Key)=Sum.inr b)=decide (a=b):=by
 by_cases e:a=b
 ·subst e;simp
 ·have h:¬(Sum.inr a:Key)=Sum.inr b:=fun q=>e (Sum.inr.inj q)
  rw[decide_eq_false h,decide_eq_false e]
theorem aop(a:Int)(b:Str):decide ((Sum.inl a:Key)=Sum.inr b)=false:=decide_eq_false (fun q=>nomatch q)
theorem apU(a:Str)(b:Int):decide ((Sum.inr a:Key)=Sum.inl b)=false:=decide_eq_false (fun q=>nomatch q)
def afe(prog:Program)(w:World):PySem.KeyKind prog w Key where
 is:=aou
 hash:=ayr w
 inj:=fun v a b ha hb=>by
  rcases aa6 ha with⟨i,t,rfl,rfl⟩|⟨x,t,rfl,rfl⟩
  ·rcases aa6 hb with⟨j,u,rfl,e⟩|⟨y,u,rfl,e⟩
   ·injection e with e1 _;rw[e1]
   ·exact nomatch e
  ·rcases aa6 hb with⟨j,u,rfl,e⟩|⟨y,u,rfl,e⟩
   ·exact nomatch e
   ·injection e with e1 _;rw[e1]
 byValue:=fun k v h=>by
  rcases aa6 h with⟨i,t,rfl,rfl⟩|⟨x,t,rfl,rfl⟩<;>rfl
 pyHash:=fun hv h=>by
  rcases aa6 hv with⟨i,t,rfl,rfl⟩|⟨x,t,rfl,rfl⟩
  ·exact wpAny_pyHash_int h
  ·exact wpAny_pyHash_str h
 eqBool:=fun hu hv h=>by
  rcases aa6 hu with⟨i,t,rfl,rfl⟩|⟨x,t,rfl,rfl⟩
  ·rcases aa6 hv with⟨j,u,rfl,rfl⟩|⟨y,u,rfl,rfl⟩
   ·rw[apt]at h;exact wpAny_eqBool_int h
   ·rw[aop]at h;exact SeqAt.EqAt.int_str i t y u _ _ _ _ h
  ·rcases aa6 hv with⟨j,u,rfl,rfl⟩|⟨y,u,rfl,rfl⟩
   ·rw[apU]at h;exact SeqAt.EqAt.str_int x t j u _ _ _ _ h
   ·rw[apc]at h;exact wpAny_eqBool_str h
 «strs»:=fun k x t v h=>by
  rcases aa6 h with⟨i,u,rfl,e⟩|⟨y,u,rfl,e⟩
  ·exact nomatch e
  ·injection e with e1 _
   subst e1
   cases v<;>rfl
end L2
namespace L2
open PySem PySem.Spec PyProof.Rows
set_option genInjectivity true in
inductive V where
 | non|bl (b:Bool)|int (i:Int)|str (x:Str)|byt (b:Array UInt8)|flt (b:UInt64)|ref (a:Addr)|ty (n:String)
 deriving DecidableEq
def aaF:V→Value→Prop
 | .non,u=>u=Value.none
 | .bl b,u=>u=Value.bool b
 | .int i,u=>∃t,u=Value.int i t
 | .str x,u=>∃t,u=Value.str x t
 | .byt b,u=>∃t,u=Value.bytes b t
 | .flt b,u=>∃t,u=Value.float b t
 | .ref a,u=>u=Value.ref a
 | .ty n,u=>u=Value.type n
abbrev Vals:List V→List Value→Prop:=Paired aaF
theorem Vals.length{xs:List V}{us:List Value}(r:Vals xs us):xs.length=us.length:=Paired.length r
theorem Vals.get:∀{xs:List V}{us:List Value}{i:Nat}{x:V},Vals xs us→xs[i]?=some x→∃u,us[i]?=some u∧aaF x u
 | _,_,_,_,.nil,e=>by simp at e
 | _,_,0,_,.cons r _,e=>by simp at e;subst e;exact⟨_,rfl,r⟩
 | _,_,i+1,x,.cons _ t,e=>by
  obtain⟨u,h1,h2⟩:=Vals.get (i:=i) (x:=x) t (by simpa using e)
  exact⟨u,by simpa using h1,h2⟩
theorem Vals.set{x:V}{u:Value}(r:aaF x u):∀{xs:List V}{us:List Value} (i:Nat),Vals xs us→Vals (xs.set i x) (us.set i u)
 | _,_,_,.nil=>.nil
 | _,_,0,.cons _ t=>.cons r t
 | _,_,i+1,.cons q t=>.cons q (Vals.set r i t)
theorem Vals.append:∀{xs ys:List V}{us ws:List Value},Vals xs us→Vals ys ws→Vals (xs++ys) (us++ws)
 | _,_,_,_,.nil,s=>s
 | _,_,_,_,.cons r t,s=>.cons r (Vals.append t s)
theorem Vals.take:∀{xs:List V}{us:List Value} (n:Nat),Vals xs us→Vals (xs.take n) (us.take n)
 | _,_,0,_=>.nil
 | _,_,_+1,.nil=>.nil
 | _,_,n+1,.cons r t=>.cons r (Vals.take n t)
theorem Vals.drop:∀{xs:List V}{us:List Value} (n:Nat),Vals xs us→Vals (xs.drop n) (us.drop n)
 | _,_,0,r=>r
 | _,_,_+1,.nil=>.nil
 | _,_,n+1,.cons _ t=>Vals.drop n t
theorem Vals.none_of:∀{xs:List V}{us:List Value}{i:Nat},Vals xs us→xs[i]?=none→us[i]?=none:=fun {xs us i} r e=>by
 have h1:=r.length
 have h2:xs.length≤i:=List.getElem?_eq_none_iff.mp e
 exact List.getElem?_eq_none_iff.mpr (by omega)
def aj7:Option V→Option Value→Prop
 | some v,some u=>aaF v u
 | none,none=>True
 | _,_=>False
def KV{κ:Type}:List (κ×V)→List (κ×Value)→Prop:=Paired fun(p:κ×V) (q:κ×Value)=>p.1=q.1∧aaF p.2 q.2
def kV:Key→V
 | .inl i=>.int i
 | .inr x=>.str x
set_option genInjectivity true in
inductive HO where
 | lst (xs:List V)
 | tup (xs:List V)
 | dK (kvs:List (Key×V))|dT (kvs:List (List Key×V))
 | set (S:Int→Bool) (n:Nat)
 | ins (C dx:Addr) (fs:List (Str×V))
 | own (x:Addr)
 | xd (fs:List (Str×V))
 | met (f x:Addr)
 | rng (lo hi:Int)
 | frz (o:Obj) (u:HO)
 | tbl (ps:Array Value)
 | ext (φ:Heap→Prop)
abbrev Hp:=Addr→Option HO
def upd(H:Hp)(a:Addr)(o:HO):Hp:=fun b=>if b=a then some o else H b
theorem aax{H:Hp}{a:Addr}{o:HO}:upd H a o a=some o:=by unfold upd;rw[if_pos rfl]
theorem aag{H:Hp}{a b:Addr}{o:HO}(h:b≠a):upd H a o b=H b:=by unfold upd;rw[if_neg h]
theorem ajY{H:Hp}{a b:Addr}{o u:HO}(h:H a=some o)(h':H b=some u)(d:o≠u):a≠b:=by
 intro e;subst e;rw[h]at h';exact d (Option.some.inj h')
theorem abz{H:Hp}{a b:Addr}{o:HO}(h:H a=some o)(h':H b=none):a≠b:=by
 intro e;subst e;rw[h]at h';cases h'
section
variable(P:Program)(w:World)
def abt(H:Hp)(h:Heap)(a:Addr):HO→Prop
 | .lst xs=>xs.length≤sizeLine∧∃(its:List Value) (n:Nat),Vals xs its∧h.get? a=some { cls:=.type "list",data:=.seq its.toArray n }
 | .tup xs=>xs.length≤sizeLine∧∃its:List Value,Vals xs its∧IsTup h a its.toArray
 | .dK kvs=>kvs.length≤sizeLine∧(a==sysModules)=false∧∃vs,KV kvs vs∧h.DictOf (afe P w) a vs
 | .dT kvs=>kvs.length≤sizeLine∧(a==sysModules)=false∧∃xs:List (List Key×Addr×Value),
   Paired (fun(p:List Key×V) (q:List Key×Addr×Value)=>p.1=q.1∧H q.2.1=some (.tup (p.1.map kV))∧aaF p.2 q.2.2) kvs xs∧
   ∃o es ep,h.get? a=some o∧o.ExactDict∧o.data=.dict es ep∧es.toList=xs.map (entryOfKey (tupleKind (afe P w)))∧(xs.map (·.1)).Nodup
 | .set S n=>h.SetOf (intKind P w) a S n
 | .ins C dx fs=>H dx=some (.own a)∧fs.length≤1000∧dx≠a∧h.get? a=some (PySem.W.instObj C dx)∧
   ∃mA,h.Ns1 dx mA∧(∀f,aj7 (fs.lookup f) (mA f))∧PySem.Within mA (fs.map (·.1))
 | .own _=>∃o,h.get? a=some o
 | .xd fs=>∃mA,h.Ns1 a mA∧∀f,aj7 (fs.lookup f) (mA f)
 | .rng lo hi=>∃t u v,h.get? a=some { cls:=.type "range",data:=.fields #[.int lo t,.int hi u,.int 1 v] }
 | .frz o u=>h.get? a=some o∧abt H h a u
 | .tbl ps=>h.get? a=some { cls:=.none,data:=.fields ps }
 | .met f x=>h.get? a=some (PySem.W.methodObj (.ref f) (.ref x))
 | .ext φ=>φ h∧(∃o,h.get? a=some o)∧∀h1 h2:Heap,φ h1→(∀o,h1.get? a=some o→h2.get? a=some o)→φ h2
def HOk(H:Hp)(h:Heap):Prop:=∀a o,H a=some o→abt P w H h a o
end
section
variable{P:Program}{w:World}{H H':Hp}{h h':Heap}{a:Addr}{o:HO}
theorem abt.lt(x:abt P w H h a o):a<h.objs.size:=by
 cases o with
 | lst xs=>obtain⟨_,_,_,_,e⟩:=x;exact Heap.lt_size e
 | tup xs=>obtain⟨_,_,_,p⟩:=x;exact p.lt
 | dK kvs=>obtain⟨_,_,_,_,o,_,_,e,_⟩:=x;exact Heap.lt_size e
 | dT kvs=>obtain⟨_,_,_,_,o,_,_,e,_⟩:=x;exact Heap.lt_size e
 | set S n=>obtain⟨o,_,_,_,e,_⟩:=x;exact Heap.lt_size e
 | ins C dx fs=>obtain⟨_,_,_,e,_⟩:=x;exact Heap.lt_size e
 | own y=>obtain⟨_,e⟩:=x;exact Heap.lt_size e
 | xd fs=>obtain⟨_,⟨_,_,_,e,_⟩,_⟩:=x;exact Heap.lt_size e
 | rng lo hi=>obtain⟨_,_,_,e⟩:=x;exact Heap.lt_size e
 | frz ob u=>obtain⟨e,_⟩:=x;exact Heap.lt_size e
 | tbl ps=>exact Heap.lt_size (show h.get? a=some _ from x)
 | met f y=>exact Heap.lt_size (show h.get? a=some _ from x)
 | ext φ=>obtain⟨_,⟨_,e⟩,_⟩:=x;exact Heap.lt_size e
theorem Paired.mapP{α β:Type}{F G:α→β→Prop}:∀{l₁:List α}{l₂:List β},Paired F l₁ l₂→(∀a b,F a b→G a b)→Paired G l₁ l₂
 | _,_,.nil,_=>.nil
 | _,_,.cons r t,f=>.cons (f _ _ r) (Paired.mapP t f)
theorem abt.stay(x:abt P w H h a o)(k:∀b u,(b=a∨H b=some (.own a))→h.get? b=some u→h'.get? b=some u)
  (ho:∀b,H b=some (.own a)→H' b=some (.own a)) (ht:∀b xs,H b=some (.tup xs)→H' b=some (.tup xs)):abt P w H' h' a o:=by
 induction o with
 | lst xs=>obtain⟨z,its,n,r,e⟩:=x;exact⟨z,its,n,r,k _ _ (.inl rfl) e⟩
 | tup xs=>obtain⟨z,its,r,ob,e,c⟩:=x;exact⟨z,its,r,ob,k _ _ (.inl rfl) e,c⟩
 | dK kvs=>obtain⟨z,y,vs,r,ob,es,ep,e,c⟩:=x;exact⟨z,y,vs,r,ob,es,ep,k _ _ (.inl rfl) e,c⟩
 | dT kvs=>
  obtain⟨z,y,xs,r,ob,es,ep,e,c⟩:=x
  exact⟨z,y,xs,Paired.mapP r fun p q z=>⟨z.1,ht _ _ z.2.1,z.2.2⟩,ob,es,ep,k _ _ (.inl rfl) e,c⟩
 | set S n=>obtain⟨ob,es,ep,t,e,c⟩:=x;exact⟨ob,es,ep,t,k _ _ (.inl rfl) e,c⟩
 | ins C dx fs=>
  obtain⟨d,z,ne,e,mA,⟨od,es,ep,e2,c⟩,r⟩:=x
  exact⟨ho _ d,z,ne,k _ _ (.inl rfl) e,mA,⟨od,es,ep,k _ _ (.inr d) e2,c⟩,r⟩
 | own y=>obtain⟨ob,e⟩:=x;exact⟨ob,k _ _ (.inl rfl) e⟩
 | xd fs=>obtain⟨mA,⟨od,es,ep,e,c⟩,r⟩:=x;exact⟨mA,⟨od,es,ep,k _ _ (.inl rfl) e,c⟩,r⟩
 | rng lo hi=>obtain⟨t,u,v,e⟩:=x;exact⟨t,u,v,k _ _ (.inl rfl) e⟩
 | frz ob u ih=>obtain⟨e,q⟩:=x;exact⟨k _ _ (.inl rfl) e,ih q⟩
 | tbl ps=>
  have e:h.get? a=some { cls:=.none,data:=.fields ps }:=x
  show h'.get? a=some { cls:=.none,data:=.fields ps }
  exact k a _ (.inl rfl) e
 | met f y=>
  have e:h.get? a=some (PySem.W.methodObj (.ref f) (.ref y)):=x
  show h'.get? a=some (PySem.W.methodObj (.ref f) (.ref y))
  exact k a _ (.inl rfl) e
 | ext φ=>obtain⟨p,⟨o,e⟩,st⟩:=x;exact⟨st _ _ p fun o q=>k _ _ (.inl rfl) q,⟨o,k _ _ (.inl rfl) e⟩,st⟩
theorem HOk.lt(x:HOk P w H h)(e:H a=some o):a<h.objs.size:=(x a o e).lt
theorem HOk.fresh(x:HOk P w H h)(e:h.objs.size≤a):H a=none:=by
 cases q:H a with
 | none=>rfl
 | some u=>exact absurd (Nat.lt_of_lt_of_le (x.lt q) e) (Nat.lt_irrefl _)
theorem HOk.kept(x:HOk P w H h)(k:∀b u,h.get? b=some u→h'.get? b=some u):HOk P w H h':=fun a o e=>
 (x a o e).stay (fun b u _ q=>k b u q) (fun _ q=>q) fun _ _ q=>q
theorem HOk.laid(x:HOk P w H h)(k:∀b u,h.get? b=some u→h'.get? b=some u)(hp:h.objs.size≤a)(new:abt P w (upd H a o) h' a o):HOk P w (upd H a o) h':=fun b u e=>by
 have hn:=x.fresh hp
 by_cases hb:b=a
 ·subst hb;rw[aax]at e;cases e;exact new
 ·rw[aag hb]at e
  exact(x b u e).stay (fun c v _ q=>k c v q) (fun c q=>by rw[aag (abz q hn)];exact q) fun c xs q=>by rw[aag (abz q hn)];exact q
end
def Rd(H:Hp)(a:Addr)(u:HO):Prop:=H a=some u∨∃o,H a=some (.frz o u)
theorem Rd.of{H:Hp}{a:Addr}{u:HO}(h:H a=some u):Rd H a u:=.inl h
theorem Rd.ok{P:Program}{w:World}{H:Hp}{h:Heap}{a:Addr}{u:HO}(r:Rd H a u)(x:HOk P w H h):abt P w H h a u:=by
 rcases r with r|⟨o,r⟩
 ·exact x a u r
 ·obtain⟨_,q⟩:=x a _ r
  exact q
def Mut:Option HO→Prop
 | some (.lst _)=>True
 | some (.dK _)=>True
 | some (.dT _)=>True
 | some (.set _ _)=>True
 | some (.ins _ _ _)=>True
 | some (.ext _)=>True
 | _=>False
section
variable{P:Program}{w:World}{H:Hp}{h h':Heap}{x e:Addr}{o':HO}
theorem HOk.write(ok:HOk P w H h)(mu:Mut (H x))(he:e=x∨H e=some (.own x))(k:∀b u,b≠e→h.get? b=some u→h'.get? b=some u)(heo:∃u,h'.get? e=some u)
  (new:abt P w (upd H x o') h' x o'):HOk P w (upd H x o') h':=fun b u q=>by
 have nown:∀c y,H c=some (.own y)→c≠x:=fun c y r z=>by subst z;rw[r]at mu;exact mu
 have ntup:∀c xs,H c=some (.tup xs)→c≠x:=fun c xs r z=>by subst z;rw[r]at mu;exact mu
 by_cases hb:b=x
 ·subst hb;rw[aax]at q;cases q;exact new
 ·rw[aag hb]at q
  by_cases hbe:b=e
  ·have q':H b=some (.own x):=by
    rcases he with z|z
    ·exact absurd (hbe.trans z) hb
    ·rw[hbe];exact z
   rw[q]at q';cases q'
   obtain⟨v,hv⟩:=heo
   exact⟨v,by rw[hbe];exact hv⟩
  ·refine(ok b u q).stay (fun c v hc r=>k c v ?_ r) (fun c r=>by rw[aag (nown c b r)];exact r) fun c xs r=>by rw[aag (ntup c xs r)];exact r
   rcases hc with rfl|hc
   ·exact hbe
   ·rintro rfl
    rcases he with z|z
    ·exact nown c b hc z
    ·rw[hc]at z;cases z;exact hb rfl
end
structure Un(fs ex:List Addr)(H H':Hp)(h h':Heap):Prop where
 keep:∀b o,h.get? b=some o→H b=none→b∉fs→b∉ex→h'.get? b=some o
 slot:∀b o,h.get? b=some o→H b=none→b∈fs→b∉ex→∃sl,h'.get? b=some { o with slots:=sl }
 free:∀b o,h.get? b=some o→H b=none→b∉ex→H' b=none
 there:∀b o,h.get? b=some o→b∉ex→∃o',h'.get? b=some o'
 tups:∀b xs,H b=some (.tup xs)→H' b=some (.tup xs)
 frzs:∀b o u,H b=some (.frz o u)→H' b=some (.frz o u)
 tbls:∀b ps,H b=some (.tbl ps)→∃more,H' b=some (.tbl (ps++more))
section
variable{fs fs' ex ex':List Addr}{H H1 H2:Hp}{h h1 h2 h':Heap}{a x e:Addr}{o:HO}
theorem Un.any(u:Un fs ex H H1 h h1){b:Addr}{ob:Obj}(q:h.get? b=some ob)(n:H b=none)(hx:b∉ex):∃sl,h1.get? b=some { ob with slots:=sl }:=by
 by_cases hb:b∈fs
 ·exact u.slot b ob q n hb hx
 ·exact⟨ob.slots,u.keep b ob q n hb hx⟩
theorem Un.trans(a:Un fs ex H H1 h h1)(b:Un fs ex H1 H2 h1 h2):Un fs ex H H2 h h2 where
 keep:=fun c ob q n hc hx=>b.keep c ob (a.keep c ob q n hc hx) (a.free c ob q n hx) hc hx
 slot:=fun c ob q n hc hx=>by
  obtain⟨sl,e1⟩:=a.slot c ob q n hc hx
  obtain⟨sl',e2⟩:=b.slot c _ e1 (a.free c ob q n hx) hc hx
  exact⟨sl',e2⟩
 free:=fun c ob q n hx=>by
  obtain⟨o',e1⟩:=a.there c ob q hx
  exact b.free c o' e1 (a.free c ob q n hx) hx
 there:=fun c ob q hx=>by
  obtain⟨o',e1⟩:=a.there c ob q hx
  exact b.there c o' e1 hx
 tups:=fun c xs q=>b.tups c xs (a.tups c xs q)
 frzs:=fun c ob xs q=>b.frzs c ob xs (a.frzs c ob xs q)
 tbls:=fun c ps q=>by
  obtain⟨m1,e1⟩:=a.tbls c ps q
  obtain⟨m2,e2⟩:=b.tbls c _ e1
  exact⟨m1++m2,by rw[e2,Array.append_assoc]⟩
theorem Un.kept(k:∀b u,h.get? b=some u→h'.get? b=some u):Un fs ex H H h h':=
 ⟨fun b ob q _ _ _=>k b ob q,fun b ob q _ _ _=>⟨ob.slots,k b ob q⟩,fun _ _ _ n _=>n,fun b ob q _=>⟨ob,k b ob q⟩,fun _ _ q=>q,fun _ _ _ q=>q,fun _ ps q=>⟨#[],by rw[q];simp⟩⟩
theorem Un.refl:Un fs ex H H h h:=Un.kept fun _ _ q=>q
theorem Un.laid(k:∀b u,h.get? b=some u→h'.get? b=some u)(hp:h.objs.size≤a)(hn:H a=none):Un fs ex H (upd H a o) h h' where
 keep:=fun b u q _ _ _=>k b u q
 slot:=fun b u q _ _ _=>⟨u.slots,k b u q⟩
 free:=fun b u q n _=>by rw[aag (Nat.ne_of_lt (Nat.lt_of_lt_of_le (Heap.lt_size q) hp))];exact n
 there:=fun b u q _=>⟨u,k b u q⟩
 tups:=fun b xs q=>by rw[aag (abz q hn)];exact q
 frzs:=fun b u xs q=>by rw[aag (abz q hn)];exact q
 tbls:=fun b ps q=>⟨#[],by rw[aag (abz q hn),q];simp⟩
theorem Un.write(mu:Mut (H x))(he:e=x∨H e=some (.own x))(k:∀b u,b≠e→h.get? b=some u→h'.get? b=some u)(heo:∃u,h'.get? e=some u):Un fs ex H (upd H x o) h h':=by
 have hx:∀b,H b=none→b≠x:=fun b n z=>by subst z;rw[n]at mu;exact mu
 have hb:∀b,H b=none→b≠e:=fun b n z=>by
  subst z
  rcases he with r|r
  ·exact hx b n r
  ·rw[n]at r;cases r
 have hm:∀b u,H b=some u→¬Mut (some u)→b≠x:=fun b u q nm z=>by subst z;rw[q]at mu;exact nm mu
 refine⟨fun b u q n _ _=>k b u (hb b n) q,fun b u q n _ _=>⟨u.slots,k b u (hb b n) q⟩,fun b u q n _=>by rw[aag (hx b n)];exact n,fun b u q _=>?_,
  fun b xs q=>by rw[aag (hm b _ q fun z=>z)];exact q,fun b u xs q=>by rw[aag (hm b _ q fun z=>z)];exact q,fun b ps q=>⟨#[],by rw[aag (hm b _ q fun z=>z),q];simp⟩⟩
 by_cases hbe:b=e
 ·subst hbe;exact heo
 ·exact⟨u,k b u hbe q⟩
theorem Un.mono(u:Un fs ex H H1 h h1)(hs:∀b∈fs,b∈fs')(hx:∀b∈ex,b∈ex'):Un fs' ex' H H1 h h1:=
 ⟨fun b ob q n hb he=>u.keep b ob q n (fun z=>hb (hs b z)) fun z=>he (hx b z),fun _ _ q n _ he=>u.any q n fun z=>he (hx _ z),fun b ob q n he=>u.free b ob q n fun z=>he (hx b z),fun b ob q he=>u.there b ob q fun z=>he (hx b z),u.tups,u.frzs,u.tbls⟩
end
def trk(h:Heap)(H:Hp):List Addr:=(List.range h.objs.size).filter fun a=>(H a).isSome
def ajK(h:Heap)(H:Hp):Heap:=PySem.W.hideAll h (trk h H)
theorem aia(h:Heap)(H:Hp):(ajK h H).objs.size=h.objs.size:=PySem.W.hideAll_size _ _
theorem ajQ{h:Heap}{H:Hp}{b:Addr}{o:Obj}(e:h.get? b=some o)(n:H b=none):(ajK h H).get? b=some o:=
 PySem.W.hideAll_get _ e fun hm=>by
  have q:(H b).isSome=true:=(List.mem_filter.mp hm).2
  rw[n]at q;simp at q
theorem amM{h:Heap}{H:Hp}{b:Addr}{o:Obj}(e:(ajK h H).get? b=some o):h.get? b=some o∧H b=none:=by
 have e':h.get? b=some o:=PySem.W.of_hideAll (trk h H) e
 refine⟨e',?_⟩
 cases q:H b with
 | none=>rfl
 | some x=>
  have hm:b∈trk h H:=List.mem_filter.mpr ⟨List.mem_range.mpr (Heap.lt_size e'),by simp[q]⟩
  have z:(ajK h H).get? b=none:=PySem.W.hideAll_none (trk h H) hm
  rw[z]at e;cases e
def amP(g h:Heap)(L:Addr):List (Addr×Obj):=(List.range h.objs.size).filterMap fun a=>if a=L∨(g.get? a).isSome=true then none else(h.get? a).map fun o=>(a,o)
def aat(g h:Heap)(L d:Addr):List (Addr×Obj):=(amP g h L).filter fun p=>decide (p.1≠d)
end L2
namespace L2
open PySem PySem.Spec PyProof.Rows
structure Mod(K:PySem.W.Frag)(mg:Str→Option Value)(base:Heap):Prop where
 kin:K.In base
 glob:base.Ns mainGlobals mg
 blt:∃mb,base.Ns builtinsNs mb∧∀x:Str,x≠"__name__"→mb x=bootBuiltins x
 nolimit:base.NoLimit
structure Cx where
 prog:Program
 w:World
 K:PySem.W.Frag
 mg:Str→Option Value
 base:Heap
 A:Around
 N:List Str
 s₀:Shared
 H₀:Hp
 env:Env
 outer:List Env
 stack:List Env
 ex:List Addr
 fn:Str→Bool
 calm:Bool
 pn:List (Addr×Obj)
 xe:Value→Shared→Prop
def frs(l:List Env):List Addr:=l.filterMap (·.frame)
abbrev Cx.fs(X:Cx):List Addr:=frs X.outer
def Vis(sc:Scope)(x:Str):Prop:=sc.names.lookup x=some .local∨sc.names.lookup x=some .cell∨sc.names.lookup x=some .free
def Loc(sc:Scope)(x:Str):Prop:=sc.names.lookup x=some .local∨sc.names.lookup x=some .cell
def ayn(env:Env)(h:Heap)(m:Str→Option Value)(x:Str)(u:Value):Prop:=
 (env.kindOf x=some .local∧m x=some u)∨((env.kindOf x=some .cell∨env.kindOf x=some .free)∧∃c,env.cells.lookup x=some c∧h.IsCell c (some u))
structure Cx.Ok(X:Cx):Prop where
 mod:Mod X.K X.mg X.base
 kind:X.env.scope.kind=.function
 glob:X.env.globals=mainGlobals
 blt:X.env.builtins=builtinsNs
 above:X.s₀.heap.objs.size≤X.env.locals
 inj:∀x y c,X.env.cells.lookup x=some c→X.env.cells.lookup y=some c→x=y
 has:∀x,(X.env.kindOf x=some .cell∨X.env.kindOf x=some .free)→∃c,X.env.cells.lookup x=some c
 cab:∀x c,X.fn x=true→X.env.cells.lookup x=some c→X.s₀.heap.objs.size≤c
 hd:X.calm=true→X.A.handled=none
 frames:X.A.frames=some X.stack
 stk:X.stack=X.outer∨(X.stack=X.env::X.outer∧X.env.frame=some X.env.locals)
 exf:∀b∈X.ex,b≠X.env.locals∧∀x c,X.env.cells.lookup x=some c→c≠b
 bs:∀b o,X.base.get? b=some o→X.s₀.heap.get? b=some o∧X.H₀ b=none
 bsz:X.base.objs.size≤X.s₀.heap.objs.size
 noex:∀b o,X.base.get? b=some o→b∉X.ex
 exfs:∀b∈X.ex,b∉X.fs
 funs:X.s₀.heap.FunFrames X.base X.outer
 frf:∀b∈X.fs,X.H₀ b=none
structure Inv(X:Cx)(pins:List (Addr×Obj))(σ:List (Option V))(H:Hp)(s:Shared):Prop where
 ok:X.Ok
 os:s.os=X.s₀.os
 bare:AllBare s.gens
 base:Un X.fs X.ex X.H₀ H X.s₀.heap s.heap
 loc:∃m,s.heap.Ns X.env.locals m∧∀(i:Nat) (x:Str) (v:V),X.N[i]?=some x→σ[i]?=some (some v)→Vis X.env.scope x→∃u,aaF v u∧ayn X.env s.heap m x u
 cell:∀x c,X.env.cells.lookup x=some c→∃v,s.heap.IsCell c v
 free:H X.env.locals=none
 freeC:∀x c,X.env.cells.lookup x=some c→H c=none
 pin:∀p∈X.pn++pins,s.heap.get? p.1=some p.2∧H p.1=none∧p.1≠X.env.locals∧p.1∉X.fs∧∀v,p.2.data≠.cell v
 hok:HOk X.prog X.w H s.heap
 len:σ.length=X.N.length
section
variable{X:Cx}{pins:List (Addr×Obj)}{σ:List (Option V)}{H H':Hp}{s:Shared}{h':Heap}
theorem Cx.Ok.nofr(ok:X.Ok){b:Addr}{o:Obj}(e:X.base.get? b=some o):b∉X.fs:=fun hb=>by
 have:=(ok.funs.mem hb).1
 rw[e]at this;cases this
theorem Inv.bs(I:Inv X pins σ H s):∀b o,X.base.get? b=some o→s.heap.get? b=some o∧H b=none:=fun b o e=>
 ⟨I.base.keep b o (I.ok.bs b o e).1 (I.ok.bs b o e).2 (I.ok.nofr e) (I.ok.noex b o e),I.base.free b o (I.ok.bs b o e).1 (I.ok.bs b o e).2 (I.ok.noex b o e)⟩
theorem Inv.bk(I:Inv X pins σ H s):∀b o,X.base.get? b=some o→s.heap.get? b=some o:=fun b o e=>(I.bs b o e).1
theorem Inv.mod(I:Inv X pins σ H s):Mod X.K X.mg X.base:=I.ok.mod
theorem Inv.kIn(I:Inv X pins σ H s):X.K.In s.heap:=I.ok.mod.kin.keeps I.bk
theorem Inv.nolimit(I:Inv X pins σ H s):s.heap.NoLimit:=I.ok.mod.nolimit.keeps I.bk
theorem Inv.fr(I:Inv X pins σ H s):∃m,Fr X.base X.env.locals s.heap m:=
 let ⟨m,hn,_⟩:=I.loc
 ⟨m,hn,I.bk,Nat.le_trans I.ok.bsz I.ok.above⟩
theorem Inv.lt(I:Inv X pins σ H s):X.env.locals<s.heap.objs.size:=let ⟨_,hn,_⟩:=I.loc;hn.lt
theorem Inv.sz(I:Inv X pins σ H s):X.s₀.heap.objs.size≤s.heap.objs.size:=Nat.le_trans I.ok.above (Nat.le_of_lt I.lt)
theorem Inv.nofs(I:Inv X pins σ H s){a:Addr}(h:s.heap.objs.size≤a):a∉X.fs:=fun hb=>by
 obtain⟨_,o,ho,_⟩:=I.ok.funs.mem hb
 exact absurd (Nat.lt_of_lt_of_le (Heap.lt_size ho) (Nat.le_trans I.sz h)) (Nat.lt_irrefl _)
theorem Inv.cne(I:Inv X pins σ H s):∀x c,X.env.cells.lookup x=some c→c≠X.env.locals:=fun x c e z=>by
 obtain⟨v,o,ho,hd⟩:=I.cell x c e
 obtain⟨m,⟨o',es,ep,ho',hd',_⟩,_⟩:=I.loc
 rw[z,ho']at ho;cases ho;rw[hd']at hd;cases hd
theorem Inv.funs(I:Inv X pins σ H s):s.heap.FunFrames X.base X.outer:=by
 have all:∀(l:List Env),(∀b∈frs l,b∈X.fs)→X.s₀.heap.FunFrames X.base l→s.heap.FunFrames X.base l:=by
  intro l
  induction l with
  | nil=>intro _ _;trivial
  | cons env r ih=>
   intro hs hl
   obtain⟨hk,⟨L,o,hf,hn,ho,hd⟩,hr⟩:=hl
   have hL:L∈X.fs:=hs L (by unfold frs;rw[List.filterMap_cons,hf];exact List.mem_cons_self)
   obtain⟨sl,e⟩:=I.base.slot L o ho (I.ok.frf L hL) hL fun z=>I.ok.exfs L z hL
   exact⟨hk,⟨L,_,hf,hn,e,hd⟩,ih (fun b hb=>hs b (by unfold frs;rw[List.filterMap_cons,hf];exact List.mem_cons_of_mem _ hb)) hr⟩
 exact all X.outer (fun _ hb=>hb) I.ok.funs
theorem Inv.stack(I:Inv X pins σ H s):s.heap.FunFrames X.base X.stack:=by
 rcases I.ok.stk with e|⟨e,hf⟩
 ·rw[e];exact I.funs
 ·rw[e]
  obtain⟨m,hn,_⟩:=I.loc
  refine .cons (by rw[I.ok.kind];decide) hf hn ?_ I.funs
  exact Heap.get?_none_of_le (Nat.le_trans I.ok.bsz I.ok.above)
theorem Inv.stkSub(I:Inv X pins σ H s):∀b∈frs X.stack,b∈X.env.locals::X.fs:=fun b hb=>by
 rcases I.ok.stk with e|⟨e,hf⟩
 ·rw[e]at hb;exact List.mem_cons_of_mem _ hb
 ·rw[e]at hb
  unfold frs at hb
  rw[List.filterMap_cons,hf]at hb
  exact hb
theorem Inv.stkFree(I:Inv X pins σ H s):∀b∈frs X.stack,H b=none:=fun b hb=>by
 rcases List.mem_cons.mp (I.stkSub b hb)with e|hb
 ·rw[e];exact I.free
 ·obtain⟨_,o,ho,_⟩:=I.ok.funs.mem hb
  exact I.base.free b o ho (I.ok.frf b hb) fun z=>I.ok.exfs b z hb
theorem Inv.step{g':Array GenState}{t':Nat}{d':Drawn}{ch:List Addr}(I:Inv X pins σ H s)
  (hch:∀b∈ch,(b∈X.ex∨X.s₀.heap.objs.size≤b)∧b≠X.env.locals∧(∀x c,X.env.cells.lookup x=some c→c≠b)∧∀p∈X.pn++pins,p.1≠b)
  (keep:∀b o,b≠X.env.locals→b∉X.fs→b∉ch→s.heap.get? b=some o→H b=none→h'.get? b=some o)
  (slot:∀b o,b≠X.env.locals→b∈X.fs→b∉ch→s.heap.get? b=some o→H b=none→∃sl,h'.get? b=some { o with slots:=sl }) (free:∀b o,b∉ch→s.heap.get? b=some o→H b=none→H' b=none)
  (there:∀b o,b∉ch→s.heap.get? b=some o→∃o',h'.get? b=some o')
  (tups:∀b xs,H b=some (.tup xs)→H' b=some (.tup xs)) (frzs:∀b o u,H b=some (.frz o u)→H' b=some (.frz o u)) (tbls:∀b ps,H b=some (.tbl ps)→∃more,H' b=some (.tbl (ps++more)))
  (ns:∀m,s.heap.Ns X.env.locals m→h'.Ns X.env.locals m) (hok:HOk X.prog X.w H' h') (hg:AllBare g'):
  Inv X pins σ H' { s with heap:=h',gens:=g',drawn:=d',toks:=t' }:=by
 have neL:∀b o,X.s₀.heap.get? b=some o→b≠X.env.locals:=fun b o e=>Nat.ne_of_lt (Nat.lt_of_lt_of_le (Heap.lt_size e) I.ok.above)
 have neC:∀b o,X.s₀.heap.get? b=some o→b∉X.ex→b∉ch:=fun b o e hx hb=>by
  rcases(hch b hb).1 with z|z
  ·exact hx z
  ·exact absurd (Nat.lt_of_lt_of_le (Heap.lt_size e) z) (Nat.lt_irrefl _)
 have cellK:∀x c,X.env.cells.lookup x=some c→∀v,s.heap.IsCell c v→h'.IsCell c v:=fun x c e v ⟨o,ho,hd⟩=>by
  have nch:c∉ch:=fun z=>(hch c z).2.2.1 x c e rfl
  by_cases hc:c∈X.fs
  ·obtain⟨sl,q⟩:=slot c o (I.cne x c e) hc nch ho (I.freeC x c e)
   exact⟨_,q,hd⟩
  ·exact⟨o,keep c o (I.cne x c e) hc nch ho (I.freeC x c e),hd⟩
 refine⟨I.ok,I.os,hg,⟨fun b o e n hb hx=>?_,fun b o e n hb hx=>?_,fun b o e n hx=>?_,fun b o e hx=>?_,fun b xs e=>tups b xs (I.base.tups b xs e),fun b o xs e=>frzs b o xs (I.base.frzs b o xs e),fun b ps e=>?_⟩,?_,fun x c e=>?_,?_,fun x c e=>?_,fun p hp=>?_,hok,I.len⟩
 ·exact keep b o (neL b o e) hb (neC b o e hx) (I.base.keep b o e n hb hx) (I.base.free b o e n hx)
 ·obtain⟨sl,e1⟩:=I.base.slot b o e n hb hx
  obtain⟨sl',e2⟩:=slot b _ (neL b o e) hb (neC b o e hx) e1 (I.base.free b o e n hx)
  exact⟨sl',e2⟩
 ·obtain⟨o',e1⟩:=I.base.there b o e hx
  exact free b o' (neC b o e hx) e1 (I.base.free b o e n hx)
 ·obtain⟨o',e1⟩:=I.base.there b o e hx
  exact there b o' (neC b o e hx) e1
 ·obtain⟨m1,e1⟩:=I.base.tbls b ps e
  obtain⟨m2,e2⟩:=tbls b _ e1
  exact⟨m1++m2,by rw[e2,Array.append_assoc]⟩
 ·obtain⟨m,hn,hl⟩:=I.loc
  refine⟨m,ns m hn,fun i x v e1 e2 e3=>?_⟩
  obtain⟨u,r,l⟩:=hl i x v e1 e2 e3
  refine⟨u,r,?_⟩
  rcases l with l|⟨k,c,e,z⟩
  ·exact .inl l
  ·exact .inr ⟨k,c,e,cellK x c e _ z⟩
 ·obtain⟨v,z⟩:=I.cell x c e
  exact⟨v,cellK x c e v z⟩
 ·obtain⟨m,⟨o,_,_,ho,_⟩,_⟩:=I.loc
  exact free _ o (fun z=>(hch _ z).2.1 rfl) ho I.free
 ·obtain⟨v,o,ho,hd⟩:=I.cell x c e
  exact free c o (fun z=>(hch c z).2.2.1 x c e rfl) ho (I.freeC x c e)
 ·obtain⟨e,n,ne,nf,d⟩:=I.pin p hp
  have nch:p.1∉ch:=fun z=>(hch p.1 z).2.2.2 p hp rfl
  exact⟨keep p.1 p.2 ne nf nch e n,free p.1 p.2 nch e n,ne,nf,d⟩
theorem Inv.un{t':Nat}(I:Inv X pins σ H s)(u:Un X.fs [] H H' s.heap h')(hok:HOk X.prog X.w H' h'):Inv X pins σ H' { s with heap:=h',toks:=t' }:=by
 obtain⟨m,⟨o,es,ep,ho,r⟩,_⟩:=id I.loc
 obtain⟨sl,hL⟩:=u.any ho I.free (by simp)
 exact I.step (g':=s.gens) (d':=s.drawn) (ch:=[]) (fun _ z=>nomatch z) (fun b o _ hb _ e n=>u.keep b o e n hb (by simp)) (fun b o _ hb _ e n=>u.slot b o e n hb (by simp)) (fun b o _ e n=>u.free b o e n (by simp)) (fun b o _ e=>u.there b o e (by simp)) u.tups u.frzs u.tbls (fun m' hm=>by
  obtain⟨o',es',ep',ho',r'⟩:=hm
  rw[ho]at ho';cases ho'
  exact⟨_,es',ep',hL,r'⟩) hok I.bare
theorem Inv.call{g':Array GenState}{t':Nat}{d':Drawn}{ch:List Addr}(I:Inv X pins σ H s)(u:Un (frs X.stack) ch H H' s.heap h')(hok:HOk X.prog X.w H' h')(hg:AllBare g')
  (hch:∀b∈ch,(b∈X.ex∨X.s₀.heap.objs.size≤b)∧b≠X.env.locals∧(∀x c,X.env.cells.lookup x=some c→c≠b)∧∀p∈X.pn++pins,p.1≠b):
  Inv X pins σ H' { s with heap:=h',gens:=g',drawn:=d',toks:=t' }:=by
 obtain⟨m,⟨o,es,ep,ho,r⟩,_⟩:=id I.loc
 obtain⟨sl,hL⟩:=u.any ho I.free fun z=>(hch _ z).2.1 rfl
 exact I.step (ch:=ch) hch (fun b o hL hb hc e n=>u.keep b o e n (fun z=>(List.mem_cons.mp (I.stkSub b z)).elim hL hb) hc) (fun b o _ _ hc e n=>u.any e n hc) (fun b o hc e n=>u.free b o e n hc) (fun b o hc e=>u.there b o e hc) u.tups u.frzs u.tbls (fun m' hm=>by
  obtain⟨o',es',ep',ho',r'⟩:=hm
  rw[ho]at ho';cases ho'
  exact⟨_,es',ep',hL,r'⟩) hok hg
theorem Inv.turned{t':Nat}{it:Addr}(I:Inv X pins σ H s)(k:∀b o,b≠it→s.heap.get? b=some o→h'.get? b=some o)(hn:H it=none)(hL:it≠X.env.locals)
  (h1:it∈X.ex∨X.s₀.heap.objs.size≤it) (h2:∀x c,X.env.cells.lookup x=some c→c≠it) (h3:∀p∈X.pn++pins,p.1≠it):Inv X pins σ H { s with heap:=h',toks:=t' }:=by
 have nit:∀b u,H b=some u→b≠it:=fun b u e z=>by rw[z,hn]at e;cases e
 refine I.step (g':=s.gens) (d':=s.drawn) (ch:=[it]) (fun b hb=>?_) (fun b o _ _ hc e _=>k b o (fun z=>hc (by simp[z])) e) (fun b o _ _ hc e _=>⟨o.slots,k b o (fun z=>hc (by simp[z])) e⟩) (fun _ _ _ _ n=>n)
  (fun b o hc e=>⟨o,k b o (fun z=>hc (by simp[z])) e⟩) (fun _ _ e=>e) (fun _ _ _ e=>e) (fun b ps e=>⟨#[],by rw[e];simp⟩) (fun m hm=>?_) (fun b u e=>?_) I.bare
 ·have e:b=it:=by simpa using hb
  subst e
  exact⟨h1,hL,h2,h3⟩
 ·obtain⟨o,es,ep,ho,r⟩:=hm
  exact⟨o,es,ep,k _ o (Ne.symm hL) ho,r⟩
 ·refine(I.hok b u e).stay (fun c v hc q=>k c v ?_ q) (fun _ q=>q) fun _ _ q=>q
  rcases hc with z|z
  ·rw[z];exact nit b u e
  ·exact nit c _ z
theorem Inv.tok(I:Inv X pins σ H s)(t:Nat):Inv X pins σ H { s with toks:=t }:=I.un (h':=s.heap) (t':=t) Un.refl I.hok
theorem Inv.kept{t':Nat}(I:Inv X pins σ H s)(k:∀b u,s.heap.get? b=some u→h'.get? b=some u):Inv X pins σ H { s with heap:=h',toks:=t' }:=I.un (Un.kept k) (I.hok.kept k)
theorem Inv.laid{a:Addr}{o:HO}{t':Nat}(I:Inv X pins σ H s)(k:∀b u,s.heap.get? b=some u→h'.get? b=some u)(hp:s.heap.objs.size≤a)(new:abt X.prog X.w (upd H a o) h' a o):
  Inv X pins σ (upd H a o) { s with heap:=h',toks:=t' }:=I.un (Un.laid k hp (I.hok.fresh hp)) (I.hok.laid k hp new)
theorem Inv.write{x e:Addr}{o:HO}{t':Nat}(I:Inv X pins σ H s)(mu:Mut (H x))(he:e=x∨H e=some (.own x))(k:∀b u,b≠e→s.heap.get? b=some u→h'.get? b=some u)(heo:∃u,h'.get? e=some u)
  (new:abt X.prog X.w (upd H x o) h' x o):Inv X pins σ (upd H x o) { s with heap:=h',toks:=t' }:=I.un (Un.write mu he k heo) (I.hok.write mu he k heo new)
theorem Inv.weak{σ':List (Option V)}(I:Inv X pins σ H s)(hl:σ'.length=σ.length)(w:∀(i:Nat) v,σ'[i]?=some (some v)→σ[i]?=some (some v)):Inv X pins σ' H s:=
 ⟨I.ok,I.os,I.bare,I.base,let ⟨m,hn,hl'⟩:=I.loc;⟨m,hn,fun i x v e1 e2 e3=>hl' i x v e1 (w i v e2) e3⟩,I.cell,I.free,I.freeC,I.pin,I.hok,hl.trans I.len⟩
theorem Inv.pins_of{pins':List (Addr×Obj)}(I:Inv X pins σ H s)(h:∀p∈pins',s.heap.get? p.1=some p.2∧H p.1=none∧p.1≠X.env.locals∧p.1∉X.fs∧∀v,p.2.data≠.cell v):Inv X pins' σ H s:=
 ⟨I.ok,I.os,I.bare,I.base,I.loc,I.cell,I.free,I.freeC,fun p hp=>(List.mem_append.mp hp).elim (fun z=>I.pin p (List.mem_append_left _ z)) (h p),I.hok,I.len⟩
theorem acG{N:List Str}(hN:N.Nodup){i j:Nat}{x:Str}(a:N[i]?=some x)(b:N[j]?=some x):i=j:=by
 obtain⟨h1,e1⟩:=List.getElem?_eq_some_iff.mp a
 obtain⟨h2,e2⟩:=List.getElem?_eq_some_iff.mp b
 exact(List.getElem_inj hN).mp (e1.trans e2.symm)
theorem aeL{M:Model}{A:Around}{E:Value→Shared→Prop}{i:Nat}{x:Str}{v:V}{u:Value}{Q:Unit→Shared→Prop}(I:Inv X pins σ H s)(hN:X.N.Nodup)(hi:X.N[i]?=some x)(hx:Loc X.env.scope x)(r:aaF v u)
  (h:∀s',Inv X pins (σ.set i (some v)) H s'→(∃a,Heap.SameBut a s.heap s'.heap∧(a=X.env.locals∨X.env.cells.lookup x=some a))→Q () s') (hf:X.fn x=true∨X.env.scope.names.lookup x=some .local:=by first|exact .inl rfl|exact .inr rfl|assumption):wpAny M A (storeName X.env x u) Q E s:=by
 obtain⟨m,hn,hl⟩:=id I.loc
 have hcls:(X.env.scope.kind==.class||(X.env.scope.kind==.module&&X.env.locals != X.env.globals))=false:=by rw[I.ok.kind];rfl
 have hiσ:i<σ.length:=by rw[I.len];exact(List.getElem?_eq_some_iff.mp hi).1
 have cne:=I.cne
 have tracked:∀{a:Addr}{h':Heap},(∃o,s.heap.get? a=some o∧H a=none)→Heap.SameBut a s.heap h'→HOk X.prog X.w H h':=fun {a h'} ha hs b ob e=>by
  obtain⟨_,_,hfree⟩:=ha
  refine(I.hok b ob e).stay (fun c w' hc q=>(hs.2 c ?_).trans q) (fun _ q=>q) fun _ _ q=>q
  rintro rfl
  rcases hc with rfl|hc
  ·rw[hfree]at e;cases e
  ·rw[hfree]at hc;cases hc
 rcases hx with hk|hk
 ·refine wpAny_storeName_local hk hn (fun h' hn' hs=>?_) hcls
  obtain⟨oL,_,_,hoL,_⟩:=id hn
  refine h _ ⟨I.ok,I.os,I.bare,⟨fun b o e n hb hx=>?_,fun b o e n hb hx=>?_,I.base.free,fun b o e hx=>?_,I.base.tups,I.base.frzs,I.base.tbls⟩,⟨_,hn',fun j y v' e1 e2 e3=>?_⟩,fun y c e=>?_,I.free,I.freeC,fun p hp=>?_,tracked ⟨oL,hoL,I.free⟩ hs,by simpa using I.len⟩ ⟨_,hs,.inl rfl⟩
  ·exact(hs.2 b (Nat.ne_of_lt (Nat.lt_of_lt_of_le (Heap.lt_size e) I.ok.above))).trans (I.base.keep b o e n hb hx)
  ·obtain⟨sl,e1⟩:=I.base.slot b o e n hb hx
   exact⟨sl,(hs.2 b (Nat.ne_of_lt (Nat.lt_of_lt_of_le (Heap.lt_size e) I.ok.above))).trans e1⟩
  ·obtain⟨o',e1⟩:=I.base.there b o e hx
   exact⟨o',(hs.2 b (Nat.ne_of_lt (Nat.lt_of_lt_of_le (Heap.lt_size e) I.ok.above))).trans e1⟩
  ·by_cases hj:j=i
   ·subst hj
    rw[hi]at e1;cases e1
    rw[List.getElem?_set_self hiσ]at e2
    cases e2
    exact⟨u,r,.inl ⟨hk,by simp⟩⟩
   ·rw[List.getElem?_set_ne (Ne.symm hj)]at e2
    obtain⟨u',r',q⟩:=hl j y v' e1 e2 e3
    refine⟨u',r',?_⟩
    rcases q with⟨k,e⟩|⟨k,c,e,z⟩
    ·refine .inl ⟨k,?_⟩
     have:y≠x:=fun e=>hj (acG hN e1 (e▸hi))
     simp[this,e]
    ·exact .inr ⟨k,c,e,z.sameBut hs (cne y c e)⟩
  ·obtain⟨w',z⟩:=I.cell y c e
   exact⟨w',z.sameBut hs (cne y c e)⟩
  ·obtain⟨e,n,ne,nf,d⟩:=I.pin p hp
   exact⟨(hs.2 p.1 ne).trans e,n,ne,nf,d⟩
 ·have hfn:X.fn x=true:=by
   rcases hf with z|z
   ·exact z
   ·rw[z]at hk;cases hk
  obtain⟨c,hc⟩:=I.ok.has x (.inl hk)
  obtain⟨w',z⟩:=I.cell x c hc
  refine wpAny_storeName_cell I.ok.kind hk hc z (fun h' hc' hs=>?_)
  obtain⟨oc,hoc,hocd⟩:=id z
  refine h { s with heap:=h' } ⟨I.ok,I.os,I.bare,⟨fun b o e n hb hx=>?_,fun b o e n hb hx=>?_,I.base.free,fun b o e hx=>?_,I.base.tups,I.base.frzs,I.base.tbls⟩,⟨m,hn.sameBut hs (Ne.symm (cne x c hc)),fun j y v' e1 e2 e3=>?_⟩,fun y c' e=>?_,I.free,I.freeC,fun p hp=>?_,tracked ⟨oc,hoc,I.freeC x c hc⟩ hs,by simpa using I.len⟩ ⟨c,hs,.inr hc⟩
  ·exact(hs.2 b (Nat.ne_of_lt (Nat.lt_of_lt_of_le (Heap.lt_size e) (I.ok.cab x c hfn hc)))).trans (I.base.keep b o e n hb hx)
  ·obtain⟨sl,e1⟩:=I.base.slot b o e n hb hx
   exact⟨sl,(hs.2 b (Nat.ne_of_lt (Nat.lt_of_lt_of_le (Heap.lt_size e) (I.ok.cab x c hfn hc)))).trans e1⟩
  ·obtain⟨o',e1⟩:=I.base.there b o e hx
   exact⟨o',(hs.2 b (Nat.ne_of_lt (Nat.lt_of_lt_of_le (Heap.lt_size e) (I.ok.cab x c hfn hc)))).trans e1⟩
  ·by_cases hj:j=i
   ·subst hj
    rw[hi]at e1;cases e1
    rw[List.getElem?_set_self hiσ]at e2
    cases e2
    exact⟨u,r,.inr ⟨.inl hk,c,hc,hc'⟩⟩
   ·rw[List.getElem?_set_ne (Ne.symm hj)]at e2
    obtain⟨u',r',q⟩:=hl j y v' e1 e2 e3
    refine⟨u',r',?_⟩
    rcases q with q|⟨k,c',e,z'⟩
    ·exact .inl q
    ·refine .inr ⟨k,c',e,z'.sameBut hs ?_⟩
     rintro rfl
     exact hj (acG hN e1 (I.ok.inj _ _ _ e hc▸hi))
  ·by_cases hcc:c'=c
   ·subst hcc;exact⟨_,hc'⟩
   ·obtain⟨w2,z2⟩:=I.cell y c' e
    exact⟨w2,z2.sameBut hs hcc⟩
  ·obtain⟨e,n,ne,nf,d⟩:=I.pin p hp
   refine⟨(hs.2 p.1 ?_).trans e,n,ne,nf,d⟩
   intro q
   rw[q,hoc]at e
   have q':oc=p.2:=Option.some.inj e
   exact d w' (by rw[←q'];exact hocd)
theorem acF{M:Model}{A:Around}{E:Value→Shared→Prop}{i:Nat}{x:Str}{v:V}{u:Value}{Q:Unit→Shared→Prop}(I:Inv X pins σ H s)(hN:X.N.Nodup)(hi:X.N[i]?=some x)(hx:Loc X.env.scope x)(r:aaF v u)
  (h:∀s',Inv X pins (σ.set i (some v)) H s'→Q () s') (hf:X.fn x=true∨X.env.scope.names.lookup x=some .local:=by first|exact .inl rfl|exact .inr rfl|assumption):wpAny M A (storeName X.env x u) Q E s:=
 aeL I hN hi hx r (fun s' I' _=>h s' I') hf
theorem Inv.call'{s':Shared}{ch:List Addr}(I:Inv X pins σ H s)(ho:s'.os=s.os)(u:Un (frs X.stack) ch H H' s.heap s'.heap)(hok:HOk X.prog X.w H' s'.heap)(hg:AllBare s'.gens)
  (hch:∀b∈ch,(b∈X.ex∨X.s₀.heap.objs.size≤b)∧b≠X.env.locals∧(∀x c,X.env.cells.lookup x=some c→c≠b)∧∀p∈X.pn++pins,p.1≠b):Inv X pins σ H' s':=by
 obtain⟨h',g',d',t',o'⟩:=s'
 have e:o'=s.os:=ho
 subst e
 exact I.call (g':=g') (t':=t') (d':=d') u hok hg hch
end
abbrev XK:=Value→Option Addr→Hp→Prop
abbrev St:=List (Option V)
abbrev VK:=V→Hp→Prop
abbrev TE:=St→Hp→VK→Prop
abbrev TT:=St→Hp→(Bool→Hp→Prop)→Prop
abbrev TA:=St→Hp→(List V→Hp→Prop)→Prop
structure Ends where
 nx:St→Hp→Prop
 rt:VK
 bk:St→Hp→Prop:=fun _ _=>False
 ct:St→Hp→Prop:=fun _ _=>False
abbrev TS:=Ends→St→Hp→Prop
def EP(X:Cx)(pins:List (Addr×Obj))(σ:St)(Q:VK)(u:Value)(s':Shared):Prop:=∃v H',Inv X pins σ H' s'∧aaF v u∧Q v H'
def TP(X:Cx)(pins:List (Addr×Obj))(σ:St)(Q:Bool→Hp→Prop)(b:Bool)(s':Shared):Prop:=∃H',Inv X pins σ H' s'∧Q b H'
def AP(X:Cx)(pins:List (Addr×Obj))(σ:St)(Q:List V→Hp→Prop)(us:List Value)(s':Shared):Prop:=∃vs H',Inv X pins σ H' s'∧Vals vs us∧Q vs H'
def SP(X:Cx)(pins:List (Addr×Obj))(D:Ends)(f:Flow)(s':Shared):Prop:=
 match f with
 | .next=>∃σ' H',Inv X pins σ' H' s'∧D.nx σ' H'
 | .brk=>∃σ' H',Inv X pins σ' H' s'∧D.bk σ' H'
 | .cont=>∃σ' H',Inv X pins σ' H' s'∧D.ct σ' H'
 | .ret u=>∃v σ' H',Inv X pins σ' H' s'∧aaF v u∧D.rt v H'
def PE(X:Cx)(e:Expr)(t:TE):Prop:=
 ∀(pins:List (Addr×Obj)) (s:Shared) (σ:St) (H:Hp) (Q:VK),Inv X pins σ H s→t σ H Q→wpAny (model X.prog X.w) X.A (eval e X.env) (EP X pins σ Q) X.xe s
def PT(X:Cx)(e:Expr)(t:TT):Prop:=
 ∀(pins:List (Addr×Obj)) (s:Shared) (σ:St) (H:Hp) (Q:Bool→Hp→Prop),Inv X pins σ H s→t σ H Q→wpAny (model X.prog X.w) X.A (isTrue e X.env (eval e X.env)) (TP X pins σ Q) X.xe s
def PW(X:Cx)(e:Expr)(t:TT):Prop:=
 ∀(whole:Sem Value) (pins:List (Addr×Obj)) (s:Shared) (σ:St) (H:Hp) (Q:Bool→Hp→Prop),Inv X pins σ H s→t σ H Q→wpAny (model X.prog X.w) X.A (isTrue e X.env whole) (TP X pins σ Q) X.xe s
theorem PW.pt{X:Cx}{e:Expr}{t:TT}(h:PW X e t):PT X e t:=h _
def PA(X:Cx)(es:List Expr)(t:TA):Prop:=
 ∀(pos:Pos) (pins:List (Addr×Obj)) (s:Shared) (σ:St) (H:Hp) (Q:List V→Hp→Prop),Inv X pins σ H s→t σ H Q→wpAny (model X.prog X.w) X.A (spliced (backTo pos (starEach es X.env))) (AP X pins σ Q) X.xe s
def PS(X:Cx)(st:Stmt)(t:TS):Prop:=
 ∀(pins:List (Addr×Obj)) (s:Shared) (σ:St) (H:Hp) (D:Ends),Inv X pins σ H s→t D σ H→wpAny (model X.prog X.w) X.A (exec st X.env) (SP X pins D) X.xe s
def PSs(X:Cx)(st:List Stmt)(t:TS):Prop:=
 ∀(pins:List (Addr×Obj)) (s:Shared) (σ:St) (H:Hp) (D:Ends),Inv X pins σ H s→t D σ H→wpAny (model X.prog X.w) X.A (execs st X.env) (SP X pins D) X.xe s
theorem thn{α:Type}{t:Sem α}{Q Q':α→Shared→Prop}{M:Model}{A:Around}{E:Value→Shared→Prop}{s:Shared}(h:wpAny M A t Q E s)(hQ:∀a s,Q a s→Q' a s):wpAny M A t Q' E s:=wpAny_mono h hQ fun _ _ x=>x
end L2
namespace L2
open PySem PySem.Spec PyProof.Rows
section
variable{X:Cx}
theorem bin{a b:Expr}{ta tb:TE}(ha:PE X a ta)(hb:PE X b tb){pins:List (Addr×Obj)}{s:Shared}{σ:St}{H:Hp}{R:V→V→Hp→Prop}(I:Inv X pins σ H s)(h:ta σ H fun x H1=>tb σ H1 fun y H2=>R x y H2)
  {α:Type}{Q:α→Shared→Prop}{f:Value→Value→Sem α}
  (hf:∀v u s2 x y H2,Inv X pins σ H2 s2→aaF x v→aaF y u→R x y H2→wpAny (model X.prog X.w) X.A (f v u) Q X.xe s2):
  wpAny (model X.prog X.w) X.A (eval a X.env) (fun v s₁=>wpAny (model X.prog X.w) X.A (eval b X.env) (fun u s₂=>wpAny (model X.prog X.w) X.A (f v u) Q X.xe s₂) X.xe s₁) X.xe s:=by
 refine thn (ha pins s σ H _ I h) fun v s1 ⟨x,H1,I1,r1,q1⟩=>?_
 refine thn (hb pins s1 σ H1 _ I1 q1) fun u s2 ⟨y,H2,I2,r2,q2⟩=>?_
 exact hf v u s2 x y H2 I2 r1 r2 q2
def awS(i:Nat):TE:=fun σ H Q=>∃v,σ[i]?=some (some v)∧Q v H
def tC(v:V):TE:=fun _ H Q=>Q v H
theorem adu{i:Nat}{x:Str}{pos:Pos}(hN:X.N[i]?=some x)(hv:Vis X.env.scope x)(hd:(x==("__debug__":Str))=false:=by decide)(hcd:(x==("__classdict__":Str))=false:=by decide):PE X (.Name x pos) (awS i):=by
 intro pins s σ H Q I h
 obtain⟨v,e,h⟩:=h
 obtain⟨m,hn,hl⟩:=I.loc
 obtain⟨u,r,l⟩:=hl i x v hN e hv
 have fin:EP X pins σ Q u s:=⟨v,H,I,r,h⟩
 rcases l with⟨hk,hm⟩|⟨hk,c,hc,afQ⟩
 ·exact wpAny_Name (wpAny_loadName_local I.ok.kind hk hn hm fin) hd
 ·rcases hk with hk|hk
  ·exact wpAny_Name (wpAny_loadName_cell I.ok.kind hk hc afQ fin) hd
  ·exact wpAny_Name (wpAny_loadName_free I.ok.kind hk hc afQ fin hcd) hd
theorem aqj{i j pos}:PE X (.Constant (.int i) j pos) (tC (.int i)):=fun _ _ _ H _ I h=>wpAny_Constant_int ⟨.int i,H,I.tok _,⟨_,rfl⟩,h⟩
theorem ats{b j pos}:PE X (.Constant (.bool b) j pos) (tC (.bl b)):=fun _ _ _ H _ I h=>Constant_bool ⟨.bl b,H,I,rfl,h⟩
theorem aoo{j pos}:PE X (.Constant .none j pos) (tC .non):=fun _ _ _ H _ I h=>Constant_none ⟨.non,H,I,rfl,h⟩
theorem afa{x j pos}:PE X (.Constant (.str x) j pos) (tC (.str x)):=fun _ _ _ H _ I h=>Calls.Constant_str ⟨.str x,H,I.tok _,⟨_,rfl⟩,h⟩
def Gl(X:Cx)(x:Str):Prop:=X.env.kindOf x=some .globalImplicit
theorem abT{E:Value→Shared→Prop}{pins:List (Addr×Obj)}{s:Shared}{σ:St}{H:Hp}{x:Str}{u:Value}{pos:Pos}{Q:Value→Shared→Prop}(I:Inv X pins σ H s)(hg:Gl X x)(hm:X.mg x=some u)(h:Q u s)
  (hd:(x==("__debug__":Str))=false:=by decide):wpAny (model X.prog X.w) X.A (eval (.Name x pos) X.env) Q E s:=
 Calls.Name_function_global I.ok.kind hg (Calls.loadGlobal_global (by rw[I.ok.glob];exact I.mod.glob.keeps I.bk) hm h) hd
theorem ad0{E:Value→Shared→Prop}{pins:List (Addr×Obj)}{s:Shared}{σ:St}{H:Hp}{x:Str}{u:Value}{pos:Pos}{Q:Value→Shared→Prop}(I:Inv X pins σ H s)(hg:Gl X x)(hm:X.mg x=none)(hv:bootBuiltins x=some u)(h:Q u s)
  (hn:x≠"__name__":=by decide) (hd:(x==("__debug__":Str))=false:=by decide):wpAny (model X.prog X.w) X.A (eval (.Name x pos) X.env) Q E s:=by
 obtain⟨mb,h1,h2⟩:=I.mod.blt
 exact Calls.Name_function_global I.ok.kind hg (Calls.loadGlobal_builtin (by rw[I.ok.glob];exact I.mod.glob.keeps I.bk) hm (by rw[I.ok.blt];exact h1.keeps I.bk) ((h2 x hn).trans hv) h) hd
theorem aje{x:Str}{v:V}{u:Value}{pos:Pos}(hg:Gl X x)(hm:X.mg x=some u)(r:aaF v u)(hd:(x==("__debug__":Str))=false:=by decide):PE X (.Name x pos) (tC v):=
 fun _ _ _ H _ I h=>abT I hg hm ⟨v,H,I,r,h⟩ hd
theorem ams{x:Str}{v:V}{u:Value}{pos:Pos}(hg:Gl X x)(hm:X.mg x=none)(hv:bootBuiltins x=some u)(r:aaF v u)(hn:x≠"__name__":=by decide)(hd:(x==("__debug__":Str))=false:=by decide):PE X (.Name x pos) (tC v):=
 fun _ _ _ H _ I h=>ad0 I hg hm hv ⟨v,H,I,r,h⟩ hn hd
variable{a b:Expr}{ta tb:TE}{pos:Pos}
variable{tA tB':TT}{aat:List Expr}
def avJ(t u:TT):TT:=fun σ H Q=>t σ H fun c H1=>if c=true then u σ H1 Q else Q false H1
def tOr(t u:TT):TT:=fun σ H Q=>t σ H fun c H1=>if c=true then Q true H1 else u σ H1 Q
def ay7(t:TT):TT:=fun σ H Q=>t σ H fun c H1=>Q (!c) H1
theorem ama(ha:PT X a tA):PW X (.BoolOp .And [a] pos) tA:=by
 intro wh pins s σ H Q I h
 refine isTrue_and (thn (ha pins s σ H Q I h) fun c s1 e=>?_)
 cases c with
 | true=>exact isTrue_and_nil e
 | false=>exact e
theorem aoK(ha:PT X a tA):PW X (.BoolOp .Or [a] pos) tA:=by
 intro wh pins s σ H Q I h
 refine isTrue_or (thn (ha pins s σ H Q I h) fun c s1 e=>?_)
 cases c with
 | false=>exact isTrue_or_nil e
 | true=>exact e
theorem aqd(ha:PT X a tA)(hb:PW X (.BoolOp .And (b::aat) pos) tB'):PW X (.BoolOp .And (a::b::aat) pos) (avJ tA tB'):=by
 intro wh pins s σ H Q I h
 refine isTrue_and (thn (ha pins s σ H _ I h) fun c s1 ⟨H1,I1,q1⟩=>?_)
 cases c with
 | true=>exact hb wh pins s1 σ H1 Q I1 q1
 | false=>exact⟨H1,I1,q1⟩
theorem asS(ha:PT X a tA)(hb:PW X (.BoolOp .Or (b::aat) pos) tB'):PW X (.BoolOp .Or (a::b::aat) pos) (tOr tA tB'):=by
 intro wh pins s σ H Q I h
 refine isTrue_or (thn (ha pins s σ H _ I h) fun c s1 ⟨H1,I1,q1⟩=>?_)
 cases c with
 | true=>exact⟨H1,I1,q1⟩
 | false=>exact hb wh pins s1 σ H1 Q I1 q1
theorem ars(ha:PT X a tA):PT X (.UnaryOp .Not a pos) (ay7 tA):=by
 intro pins s σ H Q I h
 exact isTrue_not (ha pins s σ H (fun c H1=>Q (!c) H1) I h)
def auA(ta tb:TE):TE:=fun σ H Q=>ta σ H fun x H1=>∃c,x=.bl c∧if c=true then tb σ H1 Q else Q (.bl false) H1
def ayx(ta tb:TE):TE:=fun σ H Q=>ta σ H fun x H1=>∃c,x=.bl c∧if c=true then Q (.bl true) H1 else tb σ H1 Q
theorem apC{op}{t:TE}(h:PE X a t):PE X (.BoolOp op [a] pos) t:=fun pins s σ H Q I hw=>BoolOp_one (h pins s σ H Q I hw)
theorem aqr(ha:PE X a ta)(hb:PE X (.BoolOp .And (b::aat) pos) tb):PE X (.BoolOp .And (a::b::aat) pos) (auA ta tb):=by
 intro pins s σ H Q I h
 refine BoolOp_and (thn (ha pins s σ H _ I h) fun v s1 ⟨x,H1,I1,r1,q1⟩=>?_)
 obtain⟨c,rfl,q1⟩:=q1
 cases r1
 refine wpAny_truthy_bool ?_
 cases c with
 | true=>exact hb pins s1 σ H1 Q I1 q1
 | false=>exact⟨.bl false,H1,I1,rfl,q1⟩
theorem asK(ha:PE X a ta)(hb:PE X (.BoolOp .Or (b::aat) pos) tb):PE X (.BoolOp .Or (a::b::aat) pos) (ayx ta tb):=by
 intro pins s σ H Q I h
 refine BoolOp_or (thn (ha pins s σ H _ I h) fun v s1 ⟨x,H1,I1,r1,q1⟩=>?_)
 obtain⟨c,rfl,q1⟩:=q1
 cases r1
 refine wpAny_truthy_bool ?_
 cases c with
 | false=>exact hb pins s1 σ H1 Q I1 q1
 | true=>exact⟨.bl true,H1,I1,rfl,q1⟩
def tIf(t:TT)(ta tb:TE):TE:=fun σ H Q=>t σ H fun c H1=>if c=true then ta σ H1 Q else tb σ H1 Q
theorem akl{c:Expr}(hc:PT X c tA)(ha:PE X a ta)(hb:PE X b tb):PE X (.IfExp c a b pos) (tIf tA ta tb):=by
 intro pins s σ H Q I h
 refine wpAny_IfExp (thn (hc pins s σ H _ I h) fun d s1 ⟨H1,I1,q1⟩=>?_)
 cases d with
 | true=>exact ha pins s1 σ H1 Q I1 q1
 | false=>exact hb pins s1 σ H1 Q I1 q1
end
end L2
namespace L2
open PySem PySem.Spec PyProof.Rows
def SqL(K:PySem.W.Frag)(H:Hp)(a:Addr)(xs:List V):Prop:=
 Rd H a (.lst xs)∨
  ∃(o:Obj) (its:Array Value) (n:Nat),K.lookup a=some o∧o.cls=.type "list"∧o.dict=none∧o.data=.seq its n∧its.size≤sizeLine∧Vals xs its.toList
def SqT(K:PySem.W.Frag)(H:Hp)(a:Addr)(xs:List V):Prop:=
 Rd H a (.tup xs)∨
  ∃(o:Obj) (its:Array Value) (n:Nat),K.lookup a=some o∧o.cls=.type "tuple"∧o.data=.seq its n∧its.size≤sizeLine∧Vals xs its.toList
def ayi:Value→Option V
 | .none=>some .non
 | .bool b=>some (.bl b)
 | .int i _=>some (.int i)
 | .str x _=>some (.str x)
 | .bytes b _=>some (.byt b)
 | .float b _=>some (.flt b)
 | .ref a=>some (.ref a)
 | .type n=>some (.ty n)
 | _=>none
theorem aaF.abs{x:V}{u:Value}(r:aaF x u):ayi u=some x:=by
 cases x with
 | non=>cases r;rfl
 | bl _=>cases r;rfl
 | int _=>obtain⟨t,rfl⟩:=r;rfl
 | str _=>obtain⟨t,rfl⟩:=r;rfl
 | byt _=>obtain⟨t,rfl⟩:=r;rfl
 | flt _=>obtain⟨t,rfl⟩:=r;rfl
 | ref _=>cases r;rfl
 | ty _=>cases r;rfl
theorem aaF.inj{x y:V}{u:Value}(r:aaF x u)(q:aaF y u):x=y:=Option.some.inj (r.abs.symm.trans q.abs)
theorem Vals.inj:∀{xs ys:List V}{us:List Value},Vals xs us→Vals ys us→xs=ys
 | _,_,_,.nil,.nil=>rfl
 | _,_,_,.cons r t,.cons r' t'=>by rw[r.inj r',Vals.inj t t']
section
variable{X:Cx}{pins:List (Addr×Obj)}{σ:St}{H:Hp}{s:Shared}{a:Addr}{xs ys:List V}
theorem SqL.of{K:PySem.W.Frag}(h:H a=some (.lst xs)):SqL K H a xs:=.inl (.inl h)
theorem SqT.of{K:PySem.W.Frag}(h:H a=some (.tup xs)):SqT K H a xs:=.inl (.inl h)
theorem Inv.list(I:Inv X pins σ H s)(h:SqL X.K H a xs):∃its:List Value,Vals xs its∧PlainL s.heap a its.toArray∧xs.length≤sizeLine:=by
 rcases h with h|⟨o,its,n,hk,hc,hd,hs,hz,r⟩
 ·obtain⟨z,its,n,r,e⟩:=h.ok I.hok
  exact⟨its,r,⟨_,n,e,rfl,rfl,rfl⟩,z⟩
 ·refine⟨its.toList,r,⟨o,n,I.kIn a o hk,hc,hd,by simpa using hs⟩,?_⟩
  have e:=r.length
  simp only[Array.length_toList]at e
  omega
theorem Inv.tuple(I:Inv X pins σ H s)(h:SqT X.K H a xs):∃its:List Value,Vals xs its∧IsTup s.heap a its.toArray∧xs.length≤sizeLine:=by
 rcases h with h|⟨o,its,n,hk,hc,hs,hz,r⟩
 ·obtain⟨z,its,r,p⟩:=h.ok I.hok
  exact⟨its,r,p,z⟩
 ·refine⟨its.toList,r,⟨o,I.kIn a o hk,hc,n,by simpa using hs⟩,?_⟩
  have e:=r.length
  simp only[Array.length_toList]at e
  omega
theorem Inv.list_inj(I:Inv X pins σ H s)(h:SqL X.K H a xs)(h':SqL X.K H a ys):xs=ys:=by
 obtain⟨its,r,⟨o,n,e,_,_,d⟩,_⟩:=I.list h
 obtain⟨its',r',⟨o',n',e',_,_,d'⟩,_⟩:=I.list h'
 rw[e]at e';cases e'
 rw[d]at d'
 injection d' with d1 _
 have:its=its':=by simpa using congrArg Array.toList d1
 subst this
 exact r.inj r'
theorem Inv.tuple_inj(I:Inv X pins σ H s)(h:SqT X.K H a xs)(h':SqT X.K H a ys):xs=ys:=by
 obtain⟨its,r,⟨o,e,_,n,d⟩,_⟩:=I.tuple h
 obtain⟨its',r',⟨o',e',_,n',d'⟩,_⟩:=I.tuple h'
 rw[e]at e';cases e'
 rw[d]at d'
 injection d' with d1 _
 have:its=its':=by simpa using congrArg Array.toList d1
 subst this
 exact r.inj r'
end
abbrev Cx.wish(X:Cx)(E:Value→Shared→Prop):Cx:={ X with xe:=E }
abbrev Cx.nox(X:Cx):Cx:=X.wish fun _ _=>False
theorem Cx.Ok.wish{X:Cx}(ok:X.Ok)(E:Value→Shared→Prop):(X.wish E).Ok:=
 ⟨ok.mod,ok.kind,ok.glob,ok.blt,ok.above,ok.inj,ok.has,ok.cab,ok.hd,ok.frames,ok.stk,ok.exf,ok.bs,ok.bsz,ok.noex,ok.exfs,ok.funs,ok.frf⟩
theorem Cx.Ok.unwish{X:Cx}{E:Value→Shared→Prop}(ok:(X.wish E).Ok):X.Ok:=
 ⟨ok.mod,ok.kind,ok.glob,ok.blt,ok.above,ok.inj,ok.has,ok.cab,ok.hd,ok.frames,ok.stk,ok.exf,ok.bs,ok.bsz,ok.noex,ok.exfs,ok.funs,ok.frf⟩
section
variable{X:Cx}{pins:List (Addr×Obj)}{σ:St}{H:Hp}{s:Shared}{E:Value→Shared→Prop}
theorem Inv.wish(I:Inv X pins σ H s)(E:Value→Shared→Prop):Inv (X.wish E) pins σ H s:=⟨I.ok.wish E,I.os,I.bare,I.base,I.loc,I.cell,I.free,I.freeC,I.pin,I.hok,I.len⟩
theorem Inv.unwish(I:Inv (X.wish E) pins σ H s):Inv X pins σ H s:=⟨I.ok.unwish,I.os,I.bare,I.base,I.loc,I.cell,I.free,I.freeC,I.pin,I.hok,I.len⟩
theorem SP.unwish{D:Ends}{f:Flow}{s':Shared}(h:SP (X.wish E) pins D f s'):SP X pins D f s':=by
 cases f with
 | next=>obtain⟨σ',H',I,q⟩:=h;exact⟨σ',H',I.unwish,q⟩
 | brk=>obtain⟨σ',H',I,q⟩:=h;exact⟨σ',H',I.unwish,q⟩
 | cont=>obtain⟨σ',H',I,q⟩:=h;exact⟨σ',H',I.unwish,q⟩
 | ret u=>obtain⟨v,σ',H',I,r,q⟩:=h;exact⟨v,σ',H',I.unwish,r,q⟩
theorem PE.nox{e:Expr}{t:TE}(h:PE X.nox e t):PE X e t:=fun pins s σ H Q I hw=>
 wpAny_mono (h pins s σ H Q (I.wish _) hw) (fun _ _ ⟨v,H',I',r,q⟩=>⟨v,H',I'.unwish,r,q⟩) fun _ _ z=>False.elim z
theorem PT.nox{e:Expr}{t:TT}(h:PT X.nox e t):PT X e t:=fun pins s σ H Q I hw=>
 wpAny_mono (h pins s σ H Q (I.wish _) hw) (fun _ _ ⟨H',I',q⟩=>⟨H',I'.unwish,q⟩) fun _ _ z=>False.elim z
theorem PSs.nox{st:List Stmt}{t:TS}(h:PSs X.nox st t):PSs X st t:=fun pins s σ H D I hw=>
 wpAny_mono (h pins s σ H D (I.wish _) hw) (fun _ _ q=>q.unwish) fun _ _ z=>False.elim z
end
section
variable{X:Cx}{st:Stmt}{aat:List Stmt}{t u:TS}{e:Expr}{te:TE}{pos:Pos}
def atK:TS:=fun D σ H=>D.nx σ H
def axv(t u:TS):TS:=fun D σ H=>t { D with nx:=u D } σ H
theorem amD:PSs X [] atK:=fun _ _ σ H _ I h=>wpAny_execs_nil ⟨σ,H,I,h⟩
theorem akp(h1:PS X st t)(h2:PSs X aat u):PSs X (st::aat) (axv t u):=by
 intro pins s σ H D I h
 refine wpAny_execs_cons (thn (h1 pins s σ H { D with nx:=u D } I h) fun f s1 q=>?_)
 cases f with
 | next=>
  obtain⟨σ',H',I',q⟩:=q
  exact h2 pins s1 σ' H' D I' q
 | ret v=>exact q
 | brk=>exact q
 | cont=>exact q
theorem Inv.quiet{pins:List (Addr×Obj)}{σ:St}{H:Hp}{s:Shared}(I:Inv X pins σ H s):interactive X.env=false:=by simp[interactive,I.ok.kind]
def avd(te:TE):TS:=fun D σ H=>te σ H fun _ H1=>D.nx σ H1
theorem ael(he:PE X e te)(hs:swapsWith e none pos.line X.env=pure false:=by rfl):PS X (.Expr e pos) (avd te):=by
 intro pins s σ H D I h
 exact wpAny_Expr_any (thn (he pins s σ H _ I h) fun v s1 ⟨x,H1,I1,r1,q1⟩=>⟨σ,H1,I1,q1⟩) I.quiet hs
def axF(te:TE):TS:=fun D σ H=>te σ H D.rt
theorem ahD(he:PE X e te):PS X (.Return (some e) pos) (axF te):=by
 intro pins s σ H D I h
 exact wpAny_Return_some (thn (he pins s σ H _ I h) fun v s1 ⟨x,H1,I1,r1,q1⟩=>⟨x,σ,H1,I1,r1,q1⟩)
def axr(c:TT)(t u:TS):TS:=fun D σ H=>c σ H fun b H1=>if b=true then t D σ H1 else u D σ H1
theorem atv{c:Expr}{a b:List Stmt}{tc:TT}(hc:PT X c tc)(ha:PSs X a t)(hb:PSs X b u):PS X (.If c a b pos) (axr tc t u):=by
 intro pins s σ H D I h
 refine wpAny_If (thn (hc pins s σ H _ I h) fun d s1 ⟨H1,I1,q1⟩=>?_)
 cases d with
 | true=>exact ha pins s1 σ H1 D I1 q1
 | false=>exact hb pins s1 σ H1 D I1 q1
end
abbrev TG:=V→St→Hp→(St→Hp→Prop)→Prop
abbrev TGs:=List V→St→Hp→(St→Hp→Prop)→Prop
def PG(X:Cx)(target:Expr)(t:TG):Prop:=
 ∀(pins:List (Addr×Obj)) (s:Shared) (σ:St) (H:Hp) (v:V) (u:Value) (Q:St→Hp→Prop),Inv X pins σ H s→aaF v u→t v σ H Q→
  wpAny (model X.prog X.w) X.A (assign target X.env u) (fun _ s'=>∃σ' H',Inv X pins σ' H' s'∧Q σ' H') X.xe s
def PGs(X:Cx)(ts:List Expr)(t:TGs):Prop:=
 ∀(pins:List (Addr×Obj)) (s:Shared) (σ:St) (H:Hp) (vs:List V) (us:List Value) (Q:St→Hp→Prop),Inv X pins σ H s→Vals vs us→t vs σ H Q→
  wpAny (model X.prog X.w) X.A (assignInOrder ((assignEach ts X.env).map (·.2)) us) (fun _ s'=>∃σ' H',Inv X pins σ' H' s'∧Q σ' H') X.xe s
abbrev at8:=V→V→V→Hp→(Hp→Prop)→Prop
def axj(X:Cx)(t:at8):Prop:=
 ∀(pins:List (Addr×Obj)) (s:Shared) (σ:St) (H:Hp) (o i v:V) (ov iv u:Value) (Q:Hp→Prop),Inv X pins σ H s→aaF o ov→aaF i iv→aaF v u→t o i v H Q→
  wpAny (model X.prog X.w) X.A (setItem ov iv u) (fun _ s'=>∃H',Inv X pins σ H' s'∧Q H') X.xe s
section
variable{X:Cx}{pos:Pos}
def apm(i:Nat):TG:=fun v σ H Q=>Q (σ.set i (some v)) H
theorem aju{i:Nat}{x:Str}(hN:X.N.Nodup)(hi:X.N[i]?=some x)(hx:Loc X.env.scope x)(hf:X.fn x=true∨X.env.scope.names.lookup x=some .local:=by first|exact .inl rfl|exact .inr rfl|assumption):PG X (.Name x pos) (apm i):=by
 intro pins s σ H v u Q I r h
 exact wpAny_assign_Name (acF I hN hi hx r (fun s' I'=>⟨_,H,I',h⟩) hf)
def axs:TGs:=fun vs σ H Q=>vs=[]∧Q σ H
def auG(t:TG)(u:TGs):TGs:=fun vs σ H Q=>∃v r,vs=v::r∧t v σ H fun σ' H'=>u r σ' H' Q
theorem anm:PGs X [] axs:=by
 intro pins s σ H vs us Q I r h
 obtain⟨e,h⟩:=h
 subst e
 cases r
 exact assignInOrder_nil ⟨σ,H,I,h⟩
theorem akJ{e:Expr}{es:List Expr}{t:TG}{u:TGs}(h1:PG X e t)(h2:PGs X es u)
  (hs:(assignEach (e::es) X.env).map (·.2)=assign e X.env::(assignEach es X.env).map (·.2):=by rfl):PGs X (e::es) (auG t u):=by
 intro pins s σ H vs us Q I r h
 obtain⟨v,vr,e1,h⟩:=h
 subst e1
 cases r with
 | cons r rr=>
  rw[hs]
  refine assignInOrder_cons (thn (h1 pins s σ H _ _ _ I r h) fun _ s1 ⟨σ1,H1,I1,q1⟩=>?_)
  exact h2 pins s1 σ1 H1 _ _ Q I1 rr q1
def axz(K:PySem.W.Frag)(n:Nat)(t:TGs):TG:=fun v σ H Q=>∃a xs,v=.ref a∧SqT K H a xs∧xs.length=n∧t xs σ H Q
theorem aov{es:List Expr}{k:Nat}{t:TGs}{n:Nat}(hc:X.calm=true)(h:PGs X es t)
  (hn:(assignEach es X.env).length=n:=by rfl) (hst:(assignEach es X.env).findIdx? (·.1)=none:=by rfl):PG X (.Tuple es k pos) (axz X.K n t):=by
 intro pins s σ H v u Q I r hw
 obtain⟨a,xs,e1,hq,hl,hw⟩:=hw
 subst e1
 cases r
 obtain⟨its,rv,ht,hz⟩:=I.tuple hq
 refine assign_Tuple_tuple (I.ok.hd hc) ht (by simp[hn,←hl,rv.length]) hst fun h' hx=>?_
 have I1:Inv X pins σ H { s with heap:=h' }:=I.kept (t':=s.toks) fun b o e=>hx b o (Nat.ne_of_lt (Heap.lt_size e)) e
 exact h pins _ σ H xs _ Q I1 (by simpa using rv) hw
def ayj(to ti:TE)(t:at8):TG:=fun v σ H Q=>to σ H fun o H1=>ti σ H1 fun i H2=>t o i v H2 fun H3=>Q σ H3
theorem aol{o i:Expr}{to ti:TE}{t:at8}(ho:PE X o to)(hi:PE X i ti)(hs:axj X t)
  (ha:∀v,assign (.Subscript o i pos) X.env v=(do
   let ov ←holding [v] (eval o X.env)
   let iv ←holding [v,ov] (eval i X.env)
   standAt pos
   holding [v,ov,iv] (setItem ov iv v)
   release [v,ov,iv] []):=by intro _;rfl):PG X (.Subscript o i pos) (ayj to ti t):=by
 intro pins s σ H v u Q I r h
 rw[ha]
 refine wpAny_bind (wpAny_holding (thn (ho pins s σ H _ I h) fun ov s1 ⟨x,H1,I1,r1,q1⟩=>?_))
 refine wpAny_bind (wpAny_holding (thn (hi pins s1 σ H1 _ I1 q1) fun iv s2 ⟨y,H2,I2,r2,q2⟩=>?_))
 refine wpAny_bind (wpAny_standAt (wpAny_bind (wpAny_holding (thn (hs pins s2 σ H2 x y v ov iv u _ I2 r1 r2 r q2) fun _ s3 ⟨H3,I3,q3⟩=>?_))))
 exact wpAny_release ⟨σ,H3,I3,q3⟩
def avY(te:TE)(g:TG):TS:=fun D σ H=>te σ H fun x H1=>g x σ H1 D.nx
theorem akR{tg e:Expr}{te:TE}{g:TG}(he:PE X e te)(hg:PG X tg g)(hs:swapsWithSole [tg] e pos.line X.env=pure false:=by rfl)(hw:swappedStores [tg] e X.env=pure none:=by rfl)
  (h1:(assignEach [tg] X.env).map (·.2)=[assign tg X.env]:=by rfl):PS X (.Assign [tg] e pos) (avY te g):=by
 intro pins s σ H D I h
 refine wpAny_Assign_stores (thn (he pins s σ H _ I h) fun v s1 ⟨x,H1,I1,r1,q1⟩=>?_) hs hw
 rw[h1]
 exact thn (hg pins s1 σ H1 x v _ I1 r1 q1) fun _ s2 q=>q
theorem akP{i:Nat}{x:Str}{e:Expr}{te:TE}{pos':Pos}(hN:X.N.Nodup)(hi:X.N[i]?=some x)(hx:Loc X.env.scope x)(he:PE X e te)(hs:swapsWith e (some (.Name x pos')) pos.line X.env=pure false:=by rfl)(hf:X.fn x=true∨X.env.scope.names.lookup x=some .local:=by first|exact .inl rfl|exact .inr rfl|assumption):
  PS X (.Assign [.Name x pos'] e pos) (avY te (apm i)):=by
 intro pins s σ H D I h
 refine wpAny_Assign_Name (thn (he pins s σ H _ I h) fun v s1 ⟨y,H1,I1,r1,q1⟩=>?_) hs
 exact acF I1 hN hi hx r1 (fun s2 I2=>⟨_,H1,I2,q1⟩) hf
end
section
variable{X:Cx}{pos:Pos}
def aqM(c:TT)(tb:TS):TS:=fun D σ H=>∃W:Nat→St→Hp→Prop,(∃m,W m σ H)∧∀m σ H,W m σ H→
 c σ H fun b H1=>if b=true then ∃N:St→Hp→Prop,(∀σ' H',N σ' H'→∃m',m'<m∧W m' σ' H')∧tb { D with nx:=N,ct:=N,bk:=D.nx } σ H1 else D.nx σ H1
theorem aky{c:Expr}{body:List Stmt}{tc:TT}{tb:TS}(hp:PassesOwn (model X.prog X.w) X.A X.env X.xe)(hc:PT X c tc)(hb:PSs X body tb):PS X (.While c body [] pos) (aqM tc tb):=by
 intro pins s σ H D I h
 obtain⟨W,⟨m0,w0⟩,turn⟩:=h
 refine wpAny_While (codeAny_whileLoop (fun n s'=>∃σ' H',Inv X pins σ' H' s'∧W n σ' H') ?_ m0 ⟨σ,H,I,w0⟩)
 rintro n s1 ⟨σ1,H1,I1,w1⟩
 refine wpAny_passesOwn hp (thn (hc pins s1 σ1 H1 _ I1 (turn n σ1 H1 w1)) fun b s2 ⟨H2,I2,q2⟩=>?_)
 cases b with
 | true=>
  obtain⟨N,hN,q2⟩:=q2
  rw[if_pos rfl]
  refine wpAny_passesOwn hp (thn (hb pins s2 σ1 H2 _ I2 q2) fun f s3 q3=>?_)
  cases f with
  | next=>
   obtain⟨σ3,H3,I3,n3⟩:=q3
   obtain⟨m',hm,w3⟩:=hN σ3 H3 n3
   exact⟨m',hm,σ3,H3,I3,w3⟩
  | cont=>
   obtain⟨σ3,H3,I3,n3⟩:=q3
   obtain⟨m',hm,w3⟩:=hN σ3 H3 n3
   exact⟨m',hm,σ3,H3,I3,w3⟩
  | brk=>exact q3
  | ret v=>exact q3
 | false=>
  rw[if_neg Bool.false_ne_true]
  exact wpAny_execs_nil ⟨σ1,H2,I2,q2⟩
end
structure It where
 go:Nat→Hp→Prop
 yld:Nat→Hp→V→Hp→Prop
 stop:Nat→Hp→Prop
def aeb(X:Cx)(pins:List (Addr×Obj))(H:Hp)(b:Addr):Prop:=
 H b=none∧b≠X.env.locals∧b∉X.fs∧(b∈X.ex∨X.s₀.heap.objs.size≤b)∧(∀x c,X.env.cells.lookup x=some c→c≠b)∧∀p∈X.pn++pins,p.1≠b
theorem Inv.fpOk{X:Cx}{pins:List (Addr×Obj)}{σ:St}{H H':Hp}{s:Shared}{b:Addr}(I:Inv X pins σ H s)(hb:s.heap.objs.size≤b)(hn:H' b=none):aeb X pins H' b:=by
 refine⟨hn,Nat.ne_of_gt (Nat.lt_of_lt_of_le I.lt hb),I.nofs hb,.inr (Nat.le_trans I.sz hb),fun x c e z=>?_,fun p hp z=>?_⟩
 ·obtain⟨v,q⟩:=I.cell x c e
  exact absurd (Nat.lt_of_lt_of_le q.lt (by rw[z];exact hb)) (Nat.lt_irrefl _)
 ·exact absurd (Nat.lt_of_lt_of_le (Heap.lt_size (I.pin p hp).1) (by rw[z];exact hb)) (Nat.lt_irrefl _)
structure Turn(P:Program)(w:World)(K:PySem.W.Frag)(tg:Expr)(J:It)(fp:List Addr)(it:Addr)(tn:Nat→Heap→Prop):Prop where
 mem:it∈fp
 obj:∀i h,tn i h→∀b∈fp,∃o,h.get? b=some o∧∀v,o.data≠.cell v
 keep:∀i h h',tn i h→(∀b∈fp,∀o,h.get? b=some o→h'.get? b=some o)→tn i h'
 item:∀(X:Cx),X.prog=P→X.w=w→X.K=K→X.calm=true→∀(i:Nat) (pins:List (Addr×Obj)) (s:Shared) (σ:St) (H:Hp) (E:Value→Shared→Prop),Inv X pins σ H s→(∀b∈fp,aeb X pins H b)→tn i s.heap→J.go i H→
  wpAny (model P w) X.A (pyNext (.ref it)) (fun r s1=>∃u,r=some u∧
   wpAny (model P w) X.A (letOwnedTupleGo tg (.ref it) u) (fun _ s2=>∃x H',Inv X pins σ H' s2∧aaF x u∧J.yld i H x H'∧tn (i+1) s2.heap∧∀b∈fp,H' b=none) E s1) E s
 done:∀(X:Cx),X.prog=P→X.w=w→X.K=K→X.calm=true→∀(i:Nat) (pins:List (Addr×Obj)) (s:Shared) (σ:St) (H:Hp) (E:Value→Shared→Prop),Inv X pins σ H s→(∀b∈fp,aeb X pins H b)→tn i s.heap→J.stop i H→
  wpAny (model P w) X.A (pyNext (.ref it)) (fun r s1=>r=none∧Inv X pins σ H s1) E s
 self:∀(A:Around) (i:Nat) (s:Shared) (Q:Value→Shared→Prop) (E:Value→Shared→Prop),tn i s.heap→Q (.ref it) s→wpAny (model P w) A (pyIter (.ref it)) Q E s
abbrev TI:=St→Hp→(It→Hp→Prop)→Prop
def PIE(X:Cx)(pins:List (Addr×Obj))(σ:St)(tg:Expr)(R:It→Hp→Prop)(itv:Value)(s2:Shared):Prop:=
 ∃(it:Addr) (fp:List Addr) (tn:Nat→Heap→Prop) (J:It) (H':Hp),itv=.ref it∧Inv X pins σ H' s2∧Turn X.prog X.w X.K tg J fp it tn∧tn 0 s2.heap∧(∀b∈fp,aeb X pins H' b)∧R J H'
def PI(X:Cx)(tg iter:Expr)(wi:TI):Prop:=
 ∀(pins:List (Addr×Obj)) (s:Shared) (σ:St) (H:Hp) (R:It→Hp→Prop),Inv X pins σ H s→wi σ H R→
  wpAny (model X.prog X.w) X.A (eval iter X.env) (fun v s1=>wpAny (model X.prog X.w) X.A (pyIter v) (PIE X pins σ tg R) X.xe s1) X.xe s
theorem amc{M:Model}{A:Around}{E:Value→Shared→Prop}{s:Shared}{tg:Expr}{it:Addr}{u:Value}{o:Obj}{n:String}{vs:Array Value}{Q:Unit→Shared→Prop}(ho:s.heap.get? it=some o)(hc:o.cls=.type n)(hd:o.data=.fields vs)
  (hn:["enumerate","zip","dict_itemiterator","dict_reverseitemiterator","odict_iterator","itertools.zip_longest","itertools.pairwise"].contains n=false) (hQ:Q () s):wpAny M A (letOwnedTupleGo tg (.ref it) u) Q E s:=by
 unfold letOwnedTupleGo
 cases tg<;>first
  | exact wpAny_pure hQ
  | (cases u<;>first
    | exact wpAny_pure hQ
    | (refine wpAny_bind (wpAny_load ho ?_)
       rw[hc,hd]
       show wpAny M A (if(["enumerate","zip","dict_itemiterator","dict_reverseitemiterator","odict_iterator","itertools.zip_longest","itertools.pairwise"].contains n&&vs[0]?==some (rawInt _))=true then _ else _) Q E s
       rw[if_neg (by intro h;rw[hn,Bool.false_and]at h;cases h)]
       exact wpAny_pure hQ))
def Itl(K:PySem.W.Frag)(a:Addr):It:=
 ⟨fun i H=>∃xs x,SqL K H a xs∧xs[i]?=some x,fun i H x H'=>H'=H∧∀xs,SqL K H a xs→xs[i]?=some x,fun i H=>∃xs,SqL K H a xs∧xs.length≤i⟩
def Itt(K:PySem.W.Frag)(a:Addr):It:=
 ⟨fun i H=>∃xs x,SqT K H a xs∧xs[i]?=some x,fun i H x H'=>H'=H∧∀xs,SqT K H a xs→xs[i]?=some x,fun i H=>∃xs,SqT K H a xs∧xs.length≤i⟩
def Itr(lo:Int)(n:Nat):It:=⟨fun i _=>i<n,fun i H x H'=>H'=H∧x=.int (lo+i),fun i _=>n≤i⟩
theorem ahR{P:Program}{w:World}{K:PySem.W.Frag}{tg:Expr}(a it:Addr):Turn P w K tg (Itl K a) [it] it (fun i h=>h.IsListIter it a i)where
 mem:=by simp
 obj:=fun i h st b hb=>by
  have e:b=it:=by simpa using hb
  subst e
  obtain⟨o,e,c,d⟩:=st
  exact⟨o,e,fun v z=>by rw[d]at z;cases z⟩
 keep:=fun i h h' st k=>st.at fun o e=>k it (by simp) o e
 item:=by
  intro X hP hw hK hc i pins s σ H E I hf st hg
  subst hP hw hK
  obtain⟨xs,x,hq,hx⟩:=hg
  obtain⟨its,rv,p,hz⟩:=I.list hq
  obtain⟨u,hu,ru⟩:=rv.get hx
  obtain⟨f0,f1,f2,f3,f4,f5⟩:=hf it (by simp)
  refine wpAny_pyNext_list_item st p.isList (x:=u) (by simpa using hu) fun h' st' sb=>?_
  have I1:Inv X pins σ H { s with heap:=h' }:=I.turned (t':=s.toks) (fun b o hb e=>(sb.2 b hb).trans e) f0 f1 f3 f4 f5
  obtain⟨o,e,c,d⟩:=id st'
  exact⟨u,rfl,amc (s:={ s with heap:=h' }) e c d (by decide) ⟨x,H,I1,ru,⟨rfl,fun ys hy=>by rw[I.list_inj hy hq];exact hx⟩,st',fun b hb=>(hf b hb).1⟩⟩
 done:=by
  intro X hP hw hK hc i pins s σ H E I hf st hg
  subst hP hw hK
  obtain⟨xs,hq,hx⟩:=hg
  obtain⟨its,rv,p,hz⟩:=I.list hq
  obtain⟨f0,f1,f2,f3,f4,f5⟩:=hf it (by simp)
  have hl:=rv.length
  exact wpAny_pyNext_list_end (I.ok.hd hc) st p.isList (by simp;omega) fun h' eb=>⟨rfl,I.turned (t':=s.toks) (fun b o hb e=>eb b o hb e) f0 f1 f3 f4 f5⟩
 self:=fun _ _ _ _ _ st h=>wpAny_pyIter_listiter st h
theorem ahf{P:Program}{w:World}{K:PySem.W.Frag}{tg:Expr}(a it:Addr):Turn P w K tg (Itt K a) [it] it (fun i h=>h.IsTupleIter it a i)where
 mem:=by simp
 obj:=fun i h st b hb=>by
  have e:b=it:=by simpa using hb
  subst e
  obtain⟨o,e,c,d⟩:=st
  exact⟨o,e,fun v z=>by rw[d]at z;cases z⟩
 keep:=fun i h h' st k=>st.at fun o e=>k it (by simp) o e
 item:=by
  intro X hP hw hK hc i pins s σ H E I hf st hg
  subst hP hw hK
  obtain⟨xs,x,hq,hx⟩:=hg
  obtain⟨its,rv,p,hz⟩:=I.tuple hq
  obtain⟨u,hu,ru⟩:=rv.get hx
  obtain⟨f0,f1,f2,f3,f4,f5⟩:=hf it (by simp)
  refine wpAny_pyNext_tuple_item st (show s.heap.IsTuple a its.toArray from p) (x:=u) (by simpa using hu) fun h' st' sb=>?_
  have I1:Inv X pins σ H { s with heap:=h' }:=I.turned (t':=s.toks) (fun b o hb e=>(sb.2 b hb).trans e) f0 f1 f3 f4 f5
  obtain⟨o,e,c,d⟩:=id st'
  exact⟨u,rfl,amc (s:={ s with heap:=h' }) e c d (by decide) ⟨x,H,I1,ru,⟨rfl,fun ys hy=>by rw[I.tuple_inj hy hq];exact hx⟩,st',fun b hb=>(hf b hb).1⟩⟩
 done:=by
  intro X hP hw hK hc i pins s σ H E I hf st hg
  subst hP hw hK
  obtain⟨xs,hq,hx⟩:=hg
  obtain⟨its,rv,p,hz⟩:=I.tuple hq
  obtain⟨f0,f1,f2,f3,f4,f5⟩:=hf it (by simp)
  have hl:=rv.length
  exact wpAny_pyNext_tuple_end (I.ok.hd hc) st (show s.heap.IsTuple a its.toArray from p) (by simp;omega) fun h' eb=>⟨rfl,I.turned (t':=s.toks) (fun b o hb e=>eb b o hb e) f0 f1 f3 f4 f5⟩
 self:=fun _ _ _ _ _ st h=>wpAny_pyIter_tupleiter st h
theorem aht{P:Program}{w:World}{K:PySem.W.Frag}{tg:Expr}(it:Addr)(lo:Int)(n:Nat):Turn P w K tg (Itr lo n) [it] it (fun i h=>IsRangeIter h it (lo+(i:Nat)*1) ((n:Int)-(i:Nat)) 1)where
 mem:=by simp
 obj:=fun i h st b hb=>by
  have e:b=it:=by simpa using hb
  subst e
  exact⟨_,st,fun v z=>by
   have z':Data.fields _=Data.cell v:=z
   cases z'⟩
 keep:=fun i h h' st k=>k it (by simp) _ st
 item:=by
  intro X hP hw hK hc i pins s σ H E I hf st hg
  subst hP hw hK
  obtain⟨f0,f1,f2,f3,f4,f5⟩:=hf it (by simp)
  have W:=Walks.range (prog:=X.prog) (w:=X.w) (I.ok.hd hc) it lo 1 n
  refine W.item i s _ _ hg st fun v h' tk hv st' kk=>?_
  obtain⟨t,rfl⟩:=hv
  have I1:Inv X pins σ H { s with heap:=h',toks:=tk }:=I.turned (fun b o hb e=>kk b o (by simpa using hb) e) f0 f1 f3 f4 f5
  refine⟨_,rfl,amc (s:={ s with heap:=h',toks:=tk }) (n:="range_iterator") st' rfl rfl (by decide) ⟨.int (lo+i),H,I1,⟨t,?_⟩,⟨rfl,rfl⟩,st',fun b hb=>(hf b hb).1⟩⟩
  rw[Int.mul_one]
 done:=by
  intro X hP hw hK hc i pins s σ H E I hf st hg
  subst hP hw hK
  obtain⟨f0,f1,f2,f3,f4,f5⟩:=hf it (by simp)
  exact wpAny_pyNext_range_end (I.ok.hd hc) st (by have:n≤i:=hg;omega) fun h' eb=>⟨rfl,I.turned (t':=s.toks) (fun b o hb e=>eb b o hb e) f0 f1 f3 f4 f5⟩
 self:=fun _ _ _ _ _ st h=>wpAny_pyIter_rangeiter st h
end L2
namespace L2
open PySem PySem.Spec PyProof.Rows
section
variable{X:Cx}{tg:Expr}
theorem agp{pins:List (Addr×Obj)}{σ:St}{H:Hp}{s:Shared}{R:It→Hp→Prop}{E:Value→Shared→Prop}{lo hi:Int}{t u v:Tok}{tk:Nat}(I:Inv X pins σ H s)(h1:-(2^62)≤lo)(h2:lo<2^62)(h3:-(2^62)≤hi)(h4:hi<2^62)
  (q:R (Itr lo (hi-lo).toNat) H):wpAny (model X.prog X.w) X.A (pyIter (.ref s.heap.objs.size)) (PIE X pins σ tg R) E { s with heap:=s.heap.push { cls:=.type "range",data:=.fields #[.int lo t,.int hi u,.int 1 v] },toks:=tk }:=by
 refine wpAny_pyIter_range (IsRange.new ..) (small_one h1 h2 h3 h4) ?_
 have I1:Inv X pins σ H { s with heap:=s.heap.push { cls:=.type "range",data:=.fields #[.int lo t,.int hi u,.int 1 v] },toks:=tk }:=I.kept fun b o e=>Heap.get?_push_of_some _ e
 refine⟨(s.heap.push { cls:=.type "range",data:=.fields #[.int lo t,.int hi u,.int 1 v] }).objs.size,[(s.heap.push { cls:=.type "range",data:=.fields #[.int lo t,.int hi u,.int 1 v] }).objs.size],_,_,H,rfl,
  I1.kept (t':=tk) fun b o e=>Heap.get?_push_of_some _ e,aht _ lo (hi-lo).toNat,?_,fun b hb=>?_,q⟩
 ·have e1:lo+((0:Nat):Int)*1=lo:=by simp
  have e2:(((hi-lo).toNat:Nat):Int)-((0:Nat):Int)=Builtin.Range.rangeSize lo hi 1:=by rw[rangeSize_one];split<;>omega
  show IsRangeIter _ _ (lo+((0:Nat):Int)*1) ((((hi-lo).toNat:Nat):Int)-((0:Nat):Int)) 1
  rw[e1,e2]
  exact Heap.get?_push_size _ rfl
 ·have e:b=(s.heap.push { cls:=.type "range",data:=.fields #[.int lo t,.int hi u,.int 1 v] }).objs.size:=by simpa using hb
  subst e
  exact I1.fpOk (Nat.le_refl _) (I1.hok.fresh (Nat.le_refl _))
def asd(ta:TA):TI:=fun σ H R=>ta σ H fun vs H1=>∃j:Int,vs=[.int j]∧-(2^62)≤j∧j<2^62∧R (Itr 0 j.toNat) H1
def auD(ta:TA):TI:=fun σ H R=>ta σ H fun vs H1=>∃i j:Int,vs=[.int i,.int j]∧(-(2^62)≤i∧i<2^62∧-(2^62)≤j∧j<2^62)∧R (Itr i (j-i).toNat) H1
theorem aiX{a:Expr}{ta:TA}{p pos:Pos}(hg:Gl X "range")(hm:X.mg "range"=none)(ha:PA X [a] ta)(hs:starEach [a] X.env=[(false,eval a X.env)]:=by rfl):PI X tg (.Call (.Name "range" p) [a] [] pos) (asd ta):=by
 intro pins s σ H R I h
 refine Call_ (ad0 I hg hm boot_range (PyProof.Rows.callWith_type1 (thn (ha pos pins s σ H _ I h) fun us s1 ⟨vs,H1,I1,r1,q1⟩=>?_) hs rfl))
 obtain⟨j,e,q1,q2,q⟩:=q1
 subst e
 cases r1 with
 | cons r rr=>
  cases rr
  obtain⟨t,rfl⟩:=r
  exact call_range_1 (agp I1 (by omega) (by omega) q1 q2 (by simpa using q))
theorem aiP{a b:Expr}{ta:TA}{p pos:Pos}(hg:Gl X "range")(hm:X.mg "range"=none)(ha:PA X [a,b] ta)(hs:starEach [a,b] X.env=[(false,eval a X.env),(false,eval b X.env)]:=by rfl)(hs2:starEach [b] X.env=[(false,eval b X.env)]:=by rfl):
  PI X tg (.Call (.Name "range" p) [a,b] [] pos) (auD ta):=by
 intro pins s σ H R I h
 refine Call_ (ad0 I hg hm boot_range (PyProof.Rows.callWith_type1 (thn (ha pos pins s σ H _ I h) fun us s1 ⟨vs,H1,I1,r1,q1⟩=>?_) (by rw[hs,hs2]) (by rw[hs2];rfl)))
 obtain⟨i,j,e,⟨q1,q2,q3,q4⟩,q⟩:=q1
 subst e
 cases r1 with
 | cons r rr=>
  cases rr with
  | cons r' rr=>
   cases rr
   obtain⟨t,rfl⟩:=r
   obtain⟨t',rfl⟩:=r'
   exact call_range_2 (agp I1 q1 q2 q3 q4 q)
def ayt(wi:TI)(g:TG)(tb:TS):TS:=fun D σ H=>wi σ H fun J H1=>∃W:Nat→Nat→St→Hp→Prop,(∃m,W 0 m σ H1)∧∀i m σ H,W i m σ H→
 (J.stop i H∧D.nx σ H)∨(J.go i H∧∃N:St→Hp→Prop,(∀σ' H',N σ' H'→∃m',m'<m∧W (i+1) m' σ' H')∧∀x H',J.yld i H x H'→g x σ H' fun σ2 H2=>tb { D with nx:=N,ct:=N,bk:=D.nx } σ2 H2)
def ady(fp:List Addr)(h:Heap):List (Addr×Obj):=fp.filterMap fun b=>(h.get? b).map fun o=>(b,o)
theorem acs{fp:List Addr}{h:Heap}{b:Addr}{o:Obj}(hb:b∈fp)(e:h.get? b=some o):(b,o)∈ady fp h:=List.mem_filterMap.mpr ⟨b,hb,by rw[e];rfl⟩
theorem ahK{fp:List Addr}{h:Heap}{p:Addr×Obj}(hp:p∈ady fp h):p.1∈fp∧h.get? p.1=some p.2:=by
 obtain⟨b,hb,e⟩:=List.mem_filterMap.mp hp
 cases q:h.get? b with
 | none=>rw[q]at e;cases e
 | some o=>
  rw[q]at e
  have e':(b,o)=p:=Option.some.inj e
  subst e'
  exact⟨hb,q⟩
theorem Inv.pinned{pins:List (Addr×Obj)}{σ:St}{H:Hp}{s:Shared}{fp:List Addr}(I:Inv X pins σ H s)(hf:∀b∈fp,aeb X pins H b)(ho:∀b∈fp,∃o,s.heap.get? b=some o∧∀v,o.data≠.cell v):Inv X (pins++ady fp s.heap) σ H s:=
 I.pins_of fun p hp=>(List.mem_append.mp hp).elim (fun z=>I.pin p (List.mem_append_right _ z)) fun z=>by
  obtain⟨hb,e⟩:=ahK z
  obtain⟨f0,f1,f2,_⟩:=hf p.1 hb
  obtain⟨o,e',d⟩:=ho p.1 hb
  rw[e]at e';cases e'
  exact⟨e,f0,f1,f2,d⟩
theorem Inv.unpinned{pins pl:List (Addr×Obj)}{σ:St}{H:Hp}{s:Shared}(I:Inv X (pins++pl) σ H s):Inv X pins σ H s:=I.pins_of fun p hp=>I.pin p (List.mem_append_right _ (List.mem_append_left _ hp))
theorem ahU{iter:Expr}{body:List Stmt}{wi:TI}{g:TG}{tb:TS}{pos:Pos}(hp:PassesOwn (model X.prog X.w) X.A X.env X.xe)(hc:X.calm=true)(hi:PI X tg iter wi)(hg:PG X tg g)(hb:PSs X body tb)
  (hs:∀x,foldedSetIterable iter X.env x=pure x:=by intro _;rfl):PS X (.For tg iter body [] pos) (ayt wi g tb):=by
 intro pins s σ H D I h
 refine wpAny_For (thn (hi pins s σ H _ I h) fun v s1 h1=>thn h1 fun itv s2 h2=>?_) hs
 obtain⟨it,fp,tn,J,H2,e,I2,T,st2,f2,W,⟨m0,w0⟩,turn⟩:=h2
 subst e
 have stat:∀{H':Hp},(∀b∈fp,H' b=none)→∀b∈fp,aeb X pins H' b:=fun hn b hb=>⟨hn b hb,(f2 b hb).2⟩
 refine codeAny_forLoop_any (fun n s'=>∃i σ' H',Inv X pins σ' H' s'∧tn i s'.heap∧(∀b∈fp,H' b=none)∧W i n σ' H') ?_ m0 ⟨0,σ,H2,I2,st2,fun b hb=>(f2 b hb).1,w0⟩
 rintro n s3 ⟨i,σ3,H3,I3,st3,fr3,w3⟩
 rcases turn i n σ3 H3 w3 with⟨stop,qn⟩|⟨go,N,hN,step⟩
 ·refine wpAny_passesOwn hp (thn (T.done X rfl rfl rfl hc i pins s3 σ3 H3 X.xe I3 (stat fr3) st3 stop) fun r s4 ⟨hr,I4⟩=>?_)
  subst hr
  exact wpAny_execs_nil ⟨σ3,H3,I4,qn⟩
 ·refine wpAny_passesOwn hp (thn (T.item X rfl rfl rfl hc i pins s3 σ3 H3 X.xe I3 (stat fr3) st3 go) fun r s4 ⟨u,hr,h4⟩=>?_)
  subst hr
  refine wpAny_passesOwn hp (thn h4 fun _ s5 ⟨x,H5,I5,r5,y5,st5,fr5⟩=>?_)
  have I5':=I5.pinned (stat fr5) (T.obj _ _ st5)
  refine wpAny_passesOwn hp (thn (hg _ s5 σ3 H5 x u _ I5' r5 (step x H5 y5)) fun _ s6 ⟨σ6,H6,I6,q6⟩=>?_)
  refine wpAny_passesOwn hp (thn (hb _ s6 σ6 H6 _ I6 q6) fun f s7 q7=>?_)
  have again:∀{σ7:St}{H7:Hp},Inv X (pins++ady fp s5.heap) σ7 H7 s7→N σ7 H7→∃m,m<n∧∃i σ' H',Inv X pins σ' H' s7∧tn i s7.heap∧(∀b∈fp,H' b=none)∧W i m σ' H':=fun {σ7 H7} I7 n7=>by
   obtain⟨m',hm,w7⟩:=hN σ7 H7 n7
   refine⟨m',hm,i+1,σ7,H7,I7.unpinned,T.keep _ _ _ st5 fun b hb o e=>(I7.pin (b,o) (List.mem_append_right _ (List.mem_append_right _ (acs hb e)))).1,fun b hb=>?_,w7⟩
   obtain⟨o,e,d⟩:=T.obj _ _ st5 b hb
   exact(I7.pin (b,o) (List.mem_append_right _ (List.mem_append_right _ (acs hb e)))).2.1
  cases f with
  | next=>obtain⟨σ7,H7,I7,n7⟩:=q7;exact again I7 n7
  | cont=>obtain⟨σ7,H7,I7,n7⟩:=q7;exact again I7 n7
  | brk=>obtain⟨σ7,H7,I7,q7⟩:=q7;exact⟨σ7,H7,I7.unpinned,q7⟩
  | ret v=>obtain⟨x7,σ7,H7,I7,r7,q7⟩:=q7;exact⟨x7,σ7,H7,I7.unpinned,r7,q7⟩
end
end L2
namespace L2
open PySem PySem.Spec PyProof.Rows
abbrev R2:=V→V→Hp→VK→Prop
def OpR(X:Cx)(f:Value→Value→Sem Value)(r:R2):Prop:=
 ∀(pins:List (Addr×Obj)) (s:Shared) (σ:St) (H:Hp) (x y:V) (v u:Value) (Q:VK),Inv X pins σ H s→aaF x v→aaF y u→r x y H Q→
  wpAny (model X.prog X.w) X.A (f v u) (EP X pins σ Q) X.xe s
def UnR(X:Cx)(f:Value→Sem Value)(r:V→Hp→VK→Prop):Prop:=
 ∀(pins:List (Addr×Obj)) (s:Shared) (σ:St) (H:Hp) (x:V) (v:Value) (Q:VK),Inv X pins σ H s→aaF x v→r x H Q→
  wpAny (model X.prog X.w) X.A (f v) (EP X pins σ Q) X.xe s
def aaA(X:Cx)(f:Value)(r:List V→Hp→VK→Prop):Prop:=
 ∀(pins:List (Addr×Obj)) (s:Shared) (σ:St) (H:Hp) (xs:List V) (us:List Value) (Q:VK),Inv X pins σ H s→Vals xs us→r xs H Q→
  wpAny (model X.prog X.w) X.A (call f us) (EP X pins σ Q) X.xe s
def ayE(X:Cx)(r:V→Hp→(Bool→Hp→Prop)→Prop):Prop:=
 ∀(pins:List (Addr×Obj)) (s:Shared) (σ:St) (H:Hp) (x:V) (v:Value) (Q:Bool→Hp→Prop),Inv X pins σ H s→aaF x v→r x H Q→
  wpAny (model X.prog X.w) X.A (truthy v) (TP X pins σ Q) X.xe s
def tOp(r:R2)(ta tb:TE):TE:=fun σ H Q=>ta σ H fun x H1=>tb σ H1 fun y H2=>r x y H2 Q
def tUn(r:V→Hp→VK→Prop)(ta:TE):TE:=fun σ H Q=>ta σ H fun x H1=>r x H1 Q
def rI(C:Int→Int→Prop)(g:Int→Int→V):R2:=fun x y H Q=>∃i j,x=.int i∧y=.int j∧C i j∧Q (g i j) H
def rI0(g:Int→Int→V):R2:=fun x y H Q=>∃i j,x=.int i∧y=.int j∧Q (g i j) H
def rU(g:Int→V):V→Hp→VK→Prop:=fun x H Q=>∃i,x=.int i∧Q (g i) H
section
variable{X:Cx}{a b c:Expr}{ta tb tc:TE}{pos:Pos}
theorem asW(ha:PE X a ta)(hb:PE X b tb){pins:List (Addr×Obj)}{s:Shared}{σ:St}{H:Hp}{R:V→V→Hp→Prop}(I:Inv X pins σ H s)
  (h:ta σ H fun x H1=>tb σ H1 fun y H2=>R x y H2) {Q:Value→Shared→Prop}{f:Value→Value→Sem Value}
  (hf:∀v u s2 x y H2,Inv X pins σ H2 s2→aaF x v→aaF y u→R x y H2→wpAny (model X.prog X.w) X.A (f v u) Q X.xe s2):
  wpAny (model X.prog X.w) X.A (eval a X.env) (fun v s₁=>wpAny (model X.prog X.w) X.A (eval b X.env) (fun u s₂=>wpAny (model X.prog X.w) X.A (f v u) Q X.xe s₂) X.xe s₁) X.xe s:=by
 refine thn (ha pins s σ H _ I h) fun v s1 ⟨x,H1,I1,r1,q1⟩=>?_
 refine thn (hb pins s1 σ H1 _ I1 q1) fun u s2 ⟨y,H2,I2,r2,q2⟩=>?_
 exact hf v u s2 x y H2 I2 r1 r2 q2
theorem ark{op:Operator}{r:R2}(ho:OpR X (binaryOp op) r)(ha:PE X a ta)(hb:PE X b tb):PE X (.BinOp a op b pos) (tOp r ta tb):=by
 intro pins s σ H Q I h
 exact wpAny_BinOp (asW ha hb I h fun v u s2 x y H2 I2 rx ry q=>ho pins s2 σ H2 x y v u Q I2 rx ry q)
theorem ate{op:UnaryOp}{r:V→Hp→VK→Prop}(ho:UnR X (unaryOp op) r)(ha:PE X a ta):PE X (.UnaryOp op a pos) (tUn r ta):=by
 intro pins s σ H Q I h
 exact UnaryOp_ (thn (ha pins s σ H _ I h) fun v s1 ⟨x,H1,I1,r1,q1⟩=>ho pins s1 σ H1 x v Q I1 r1 q1)
theorem opI{f:Value→Value→Sem Value}{C:Int→Int→Prop}{g:Int→Int→Int}
  (rule:∀(i j:Int) (t u:Tok) (s:Shared) (Q:Value→Shared→Prop) (E:Value→Shared→Prop),C i j→Q (.int (g i j) s.toks) { s with toks:=s.toks+1 }→wpAny (model X.prog X.w) X.A (f (.int i t) (.int j u)) Q E s):
  OpR X f (rI C fun i j=>.int (g i j)):=by
 intro pins s σ H x y v u Q I rx ry h
 obtain⟨i,j,rfl,rfl,hc,q⟩:=h
 obtain⟨t,rfl⟩:=rx
 obtain⟨t',rfl⟩:=ry
 exact rule i j t t' s _ _ hc ⟨.int (g i j),H,I.tok _,⟨_,rfl⟩,q⟩
theorem awK{f:Value→Value→Sem Value}{g:Int→Int→Int}
  (rule:∀(i j:Int) (t u:Tok) (s:Shared) (Q:Value→Shared→Prop) (E:Value→Shared→Prop),Q (.int (g i j) s.toks) { s with toks:=s.toks+1 }→wpAny (model X.prog X.w) X.A (f (.int i t) (.int j u)) Q E s):
  OpR X f (rI0 fun i j=>.int (g i j)):=by
 intro pins s σ H x y v u Q I rx ry h
 obtain⟨i,j,rfl,rfl,q⟩:=h
 obtain⟨t,rfl⟩:=rx
 obtain⟨t',rfl⟩:=ry
 exact rule i j t t' s _ _ ⟨.int (g i j),H,I.tok _,⟨_,rfl⟩,q⟩
theorem arE{f:Value→Value→Sem Value}{g:Int→Int→Bool}
  (rule:∀(i j:Int) (t u:Tok) (s:Shared) (Q:Value→Shared→Prop) (E:Value→Shared→Prop),Q (.bool (g i j)) s→wpAny (model X.prog X.w) X.A (f (.int i t) (.int j u)) Q E s):
  OpR X f (rI0 fun i j=>.bl (g i j)):=by
 intro pins s σ H x y v u Q I rx ry h
 obtain⟨i,j,rfl,rfl,q⟩:=h
 obtain⟨t,rfl⟩:=rx
 obtain⟨t',rfl⟩:=ry
 exact rule i j t t' s _ _ ⟨.bl (g i j),H,I,rfl,q⟩
def axZ(i j:Int):Prop:=0<j∧j<1073741824
def as3(i j:Int):Prop:=(-(2^64)<i∧i<2^64)∨(-(2^64)<j∧j<2^64)
theorem as3.ok{i j:Int}(h:as3 i j):IntMulOk i j:=by
 rcases h with⟨h1,h2⟩|⟨h1,h2⟩
 ·exact .of_left (intBits_le_64 h1 h2)
 ·exact .of_right (intBits_le_64 h1 h2)
theorem ap1:OpR X (binaryOp .Add) (rI0 fun i j=>.int (i+j)):=awK fun _ _ _ _ _ _ _ q=>add_int q
theorem alx:OpR X (binaryOp .Sub) (rI0 fun i j=>.int (i-j)):=awK fun _ _ _ _ _ _ _ q=>sub_int q
theorem ad6:OpR X (binaryOp .Mult) (rI as3 fun i j=>.int (i*j)):=opI fun _ _ _ _ _ _ _ hc q=>mul_int q hc.ok
theorem aaS:OpR X (binaryOp .FloorDiv) (rI axZ fun i j=>.int (i / j)):=opI fun i j _ _ _ _ _ hc q=>by
 have h1:(0:Int)<j:=hc.1
 have h2:j<1073741824:=hc.2
 exact floordiv_int (by omega) (by rw[Int.fdiv_eq_ediv_of_nonneg i (by omega)];exact q) (.inl (PyProof.noPylong_small (by omega)))
theorem aaM:OpR X (binaryOp .Mod) (rI (fun _ j=>0<j) fun i j=>.int (i % j)):=opI fun i j _ _ _ _ _ hc q=>by
 have h1:(0:Int)<j:=hc
 exact mod_int' (by omega) (by rw[Int.fmod_eq_emod_of_nonneg i (by omega)];exact q)
theorem unI{f:Value→Sem Value}{g:Int→Int}
  (rule:∀(i:Int) (t:Tok) (s:Shared) (Q:Value→Shared→Prop) (E:Value→Shared→Prop),Q (.int (g i) s.toks) { s with toks:=s.toks+1 }→wpAny (model X.prog X.w) X.A (f (.int i t)) Q E s):
  UnR X f (rU fun i=>.int (g i)):=by
 intro pins s σ H x v Q I rx h
 obtain⟨i,rfl,q⟩:=h
 obtain⟨t,rfl⟩:=rx
 exact rule i t s _ _ ⟨.int (g i),H,I.tok _,⟨_,rfl⟩,q⟩
theorem ap8:UnR X (unaryOp .USub) (rU fun i=>.int (-i)):=unI fun _ _ _ _ _ q=>neg_int q
end
section
variable{X:Cx}{a b c:Expr}{ta tb tc:TE}{pos:Pos}
theorem al8{pins:List (Addr×Obj)}{σ:St}{H:Hp}{s:Shared}{Q:VK}{k k':Bool}(I:Inv X pins σ H s)(q:Q (.bl k) H)(e:k=k'):EP X pins σ Q (.bool k') s:=by
 subst e
 exact⟨.bl k,H,I,rfl,q⟩
theorem ass:OpR X (compareOp .Lt) (rI0 fun i j=>.bl (decide (i<j))):=arE fun _ _ _ _ _ _ _ q=>lt_int q
theorem atA:OpR X (compareOp .LtE) (rI0 fun i j=>.bl (decide (i≤j))):=arE fun _ _ _ _ _ _ _ q=>le_int q
theorem ath:OpR X (compareOp .Gt) (rI0 fun i j=>.bl (decide (j<i))):=arE fun _ _ _ _ _ _ _ q=>gt_int q
theorem au0:OpR X (compareOp .GtE) (rI0 fun i j=>.bl (decide (j≤i))):=arE fun _ _ _ _ _ _ _ q=>ge_int q
theorem apO:OpR X (compareOp .Is) (fun x y H Q=>y=.non∧Q (.bl (decide (x=.non))) H):=by
 intro pins s σ H x y v u Q I rx ry h
 obtain⟨rfl,q⟩:=h
 cases ry
 refine is_none_gen (al8 I q ?_)
 cases x<;>first
  | (cases rx;rfl)
  | (obtain⟨t,rfl⟩:=rx;rfl)
theorem alS:OpR X (compareOp .IsNot) (fun x y H Q=>y=.non∧Q (.bl (!decide (x=.non))) H):=by
 intro pins s σ H x y v u Q I rx ry h
 obtain⟨rfl,q⟩:=h
 cases ry
 refine isnot_none_gen (al8 I q ?_)
 cases x<;>first
  | (cases rx;rfl)
  | (obtain⟨t,rfl⟩:=rx;rfl)
def atF:HO→Bool
 | .lst _=>true
 | .ins _ _ _=>true
 | _=>false
theorem ae4{pins:List (Addr×Obj)}{s:Shared}{σ:St}{H:Hp}{a:Addr}{o:HO}(I:Inv X pins σ H s)(h:H a=some o)(p:atF o=true):∃ob,s.heap.get? a=some ob∧ob.cls≠.type "tuple":=by
 cases o with
 | lst xs=>
  obtain⟨_,its,n,_,e⟩:xs.length≤sizeLine∧∃(its:List Value) (n:Nat),Vals xs its∧s.heap.get? a=some { cls:=.type "list",data:=.seq its.toArray n }:=I.hok a _ h
  exact⟨_,e,(by show Value.type "list"≠.type "tuple";decide +kernel)⟩
 | ins C dx fs=>
  have x:=I.hok a _ h
  obtain⟨_,_,_,e,_⟩:=x
  exact⟨_,e,(by show Value.ref C≠.type "tuple";exact fun z=>by cases z)⟩
 | _=>exact absurd (show false=true from p) Bool.false_ne_true
theorem OpR.or{f:Value→Value→Sem Value}{r r':R2}(h:OpR X f r)(h':OpR X f r'):OpR X f (fun x y H Q=>r x y H Q∨r' x y H Q):=by
 intro pins s σ H x y v u Q I rx ry q
 rcases q with q|q
 ·exact h pins s σ H x y v u Q I rx ry q
 ·exact h' pins s σ H x y v u Q I rx ry q
theorem avR(b:Expr){op:CmpOp}(h:op≠.In:=by decide)(h2:op≠.NotIn:=by decide):behindInMarks op b=false:=by
 have e1:(op==CmpOp.In)=false:=by cases op<;>first|rfl|exact absurd rfl h
 have e2:(op==CmpOp.NotIn)=false:=by cases op<;>first|rfl|exact absurd rfl h2
 cases b<;>simp[behindInMarks,e1,e2]
theorem an6{op:CmpOp}{r:R2}(ho:OpR X (compareOp op) r)(ha:PE X a ta)(hb:PE X b tb)(hm:behindInMarks op b=false):PE X (.Compare a [op] [b] pos) (tOp r ta tb):=by
 intro pins s σ H Q I h
 exact wpAny_Compare1 (asW ha hb I h fun v u s2 x y H2 I2 rx ry q=>ho pins s2 σ H2 x y v u Q I2 rx ry q) hm
def asr(t:TE):TT:=fun σ H Q=>t σ H fun x H'=>∃k,x=.bl k∧Q k H'
theorem amA{op:CmpOp}{r:R2}(ho:OpR X (compareOp op) r)(ha:PE X a ta)(hb:PE X b tb)(hm:behindInMarks op b=false):PT X (.Compare a [op] [b] pos) (asr (tOp r ta tb)):=by
 intro pins s σ H Q I h
 refine wpAny_isTrue_Compare1 (thn (ha pins s σ H _ I h) fun v s1 ⟨x,H1,I1,r1,q1⟩=>thn (hb pins s1 σ H1 _ I1 q1) fun u s2 ⟨y,H2,I2,r2,q2⟩=>
  thn (ho pins s2 σ H2 x y v u _ I2 r1 r2 q2) fun c s3 ⟨z,H3,I3,r3,k,e,q3⟩=>?_) hm
 subst e
 cases r3
 exact wpAny_truthy_bool ⟨H3,I3,q3⟩
def ase(K:PySem.W.Frag)(x:V)(H:Hp)(k:Bool):Prop:=
 match x with
 | .non=>k=false
 | .bl b=>k=b
 | .int i=>k=(i != 0)
 | .str y=>y.length≤sizeLine∧k=((y.length:Int) != 0)
 | .byt y=>y.size≤sizeLine∧k=((y.size:Int) != 0)
 | .ref p=>(∃xs,SqL K H p xs∧k=!xs.isEmpty)∨(∃xs,SqT K H p xs∧k=!xs.isEmpty)∨∃kvs,H p=some (.dK kvs)∧k=!kvs.isEmpty
 | _=>False
theorem ahm{κ:Type}{kvs:List (κ×V)}{vs:List (κ×Value)}(r:KV kvs vs):(!vs.isEmpty)=!kvs.isEmpty:=by
 cases r<;>rfl
theorem ad5{xs:List V}{its:List Value}(r:Vals xs its):(!its.toArray.isEmpty)=!xs.isEmpty:=by
 cases r<;>simp
theorem ad4:(sizeLine:Nat)<2^63:=by rw[sizeLine_eq];decide
theorem alB:ayE X (fun x H Q=>∃k,ase X.K x H k∧Q k H):=by
 intro pins s σ H x v Q I rx h
 obtain⟨k,e,q⟩:=h
 have hl:=ad4
 have hs:sizeLine=16777216:=sizeLine_eq
 cases x with
 | non=>
  cases rx
  have e':k=false:=e
  subst e'
  exact truthy_none ⟨H,I,q⟩
 | bl b=>
  cases rx
  have e':k=b:=e
  subst e'
  exact wpAny_truthy_bool ⟨H,I,q⟩
 | int i=>
  obtain⟨t,rfl⟩:=rx
  have e':k=(i != 0):=e
  subst e'
  exact PySem.P.truthy_int ⟨H,I,q⟩
 | str y=>
  obtain⟨t,rfl⟩:=rx
  obtain⟨hy,e'⟩:y.length≤sizeLine∧k=((y.length:Int) != 0):=e
  subst e'
  exact PySem.P.truthy_str (by omega) ⟨H,I.tok _,q⟩
 | byt y=>
  obtain⟨t,rfl⟩:=rx
  obtain⟨hy,e'⟩:y.size≤sizeLine∧k=((y.size:Int) != 0):=e
  subst e'
  exact PySem.W.truthy_bytes (by omega) ⟨H,I.tok _,q⟩
 | ref p=>
  cases rx
  have e':(∃xs,SqL X.K H p xs∧k=!xs.isEmpty)∨(∃xs,SqT X.K H p xs∧k=!xs.isEmpty)∨∃kvs,H p=some (.dK kvs)∧k=!kvs.isEmpty:=e
  rcases e' with⟨xs,hx,e'⟩|⟨xs,hx,e'⟩|⟨kvs,hx,e'⟩
  ·subst e'
   obtain⟨its,r,pl,hz⟩:=I.list hx
   have hlen:=r.length
   exact wpAny_truthy_list pl.isList (by simp only[List.size_toArray];omega) ⟨H,I.tok _,by rw[ad5 r];exact q⟩
  ·subst e'
   obtain⟨its,r,pl,hz⟩:=I.tuple hx
   have hlen:=r.length
   exact truthy_tuple pl (by simp only[List.size_toArray];omega) ⟨H,I.tok _,by rw[ad5 r];exact q⟩
  ·subst e'
   obtain⟨hz,hS,vs,r,m⟩:kvs.length≤sizeLine∧(p==sysModules)=false∧∃vs,KV kvs vs∧s.heap.DictOf (afe X.prog X.w) p vs:=I.hok p _ hx
   have hlen:kvs.length=vs.length:=Paired.length r
   exact wpAny_truthy_dict hS m (by omega) ⟨H,I.tok _,by rw[ahm r];exact q⟩
 | _=>exact(show False from e).elim
theorem ak3(ha:PE X a ta)(he:∀whole,isTrue a X.env whole=(do let v ←whole;standAt a.pos;holding [v] (truthy v))):
  PT X a (fun σ H Q=>ta σ H fun x H'=>∃k,ase X.K x H' k∧Q k H'):=by
 intro pins s σ H Q I h
 exact isTrue_plain (thn (ha pins s σ H _ I h) fun v s1 ⟨x,H1,I1,r1,q1⟩=>alB pins s1 σ H1 x v Q I1 r1 q1) (he _)
theorem agT{x:V}{us:List Value}(r:Vals [x] us):∃u,us=[u]∧aaF x u:=by
 cases r with
 | cons r1 r2=>cases r2;exact⟨_,rfl,r1⟩
theorem ajF:aaA X (.builtin "abs") (fun xs H Q=>∃i,xs=[.int i]∧Q (.int (if i<0 then -i else i)) H):=by
 intro pins s σ H xs us Q I r h
 obtain⟨i,rfl,q⟩:=h
 obtain⟨u,rfl,t,rfl⟩:=agT r
 exact call_abs_int fun u tk=>⟨.int (if i<0 then -i else i),H,I.tok _,⟨_,rfl⟩,q⟩
theorem ai1:aaA X (.type "int") (fun xs H Q=>(∃i,xs=[.int i]∧Q (.int i) H)∨∃k,xs=[.bl k]∧Q (.int (if k then 1 else 0)) H):=by
 intro pins s σ H xs us Q I r h
 rcases h with⟨i,rfl,q⟩|⟨k,rfl,q⟩
 ·obtain⟨u,rfl,t,rfl⟩:=agT r
  exact call_int_int ⟨.int i,H,I,⟨_,rfl⟩,q⟩
 ·obtain⟨u,rfl,r1⟩:=agT r
  cases r1
  exact call_int_bool ⟨.int (if k then 1 else 0),H,I.tok _,⟨_,rfl⟩,q⟩
end
end L2
namespace L2
open PySem PySem.Spec PyProof.Rows
structure ObjM(h:Heap)(x dx C:Addr)(mA:Str→Option Value):Prop where
 obj:h.get? x=some (PySem.W.instObj C dx)
 ns:h.Ns1 dx mA
 ne:dx≠x
theorem ahF{h:Heap}{dx:Addr}{mA:Str→Option Value}(n:h.Ns1 dx mA):∃od,h.get? dx=some od∧∀name,PySem.W.lookIn name od=some (mA name):=by
 obtain⟨o,es,ep,ho,hd,hk,_,hm⟩:=n
 refine⟨o,ho,fun name=>?_⟩
 have e:=hm name
 unfold nsFind findBy at e
 rw[←Array.find?_toList]at e
 unfold PySem.W.lookIn
 rw[hd]
 dsimp only
 split
 ·rename_i y q
  rw[q]at e
  exact congrArg some e
 ·rename_i q
  rw[q]at e
  have a:es.toList.any (·.refKey)=false:=by
   rw[List.any_eq_false]
   intro y hy
   obtain⟨z,t,hkey⟩:=hk y (Array.mem_toList_iff.mp hy)
   simp[DictEntry.refKey,hkey]
  have a':¬es.toList.any (·.refKey)=true:=by rw[a];exact Bool.false_ne_true
  rw[if_neg a']
  exact congrArg some e
theorem ObjM.look{h:Heap}{x dx C:Addr}{mA:Str→Option Value}(I:ObjM h x dx C mA):∃od,PySem.W.InstAt h x (PySem.W.instObj C dx) C (some od)∧∀name,PySem.W.lookIn name od=some (mA name):=
 let ⟨od,ho,hl⟩:=ahF I.ns
 ⟨od,⟨I.obj,rfl,rfl,ho⟩,hl⟩
section
variable{prog:Program}{w:World}{A:Around}{E:Value→Shared→Prop}{s:Shared}{K:PySem.W.Frag}{x dx C f:Addr}{mA:Str→Option Value}{name:Str}{v:Value}
theorem alK{expr:Bool}{Q:Value→Shared→Prop}(X:K.In s.heap)(I:ObjM s.heap x dx C mA)(hg:PySem.W.plainGet K C name=true)(hh:PySem.W.hasDictIn K C=true)
  (ha:PySem.W.findIn K (.ref C) name=some none) (hv:mA name=some v) (hv':PySem.W.handedIn v=true) (h:Q v { s with toks:=s.toks+1 }):
  wpAny (model prog w) A (getAttr (.ref x) name expr) Q E s:=by
 obtain⟨od,J,hl⟩:=I.look
 exact PySem.W.get_value X J (PySem.W.plainGet_of hg).1 (PySem.W.findObj_own hh ha rfl (by rw[hl,hv])) hv' h
theorem ak5{pl:Sem Bool}{Q:Value×List Value→Shared→Prop}(X:K.In s.heap)(I:ObjM s.heap x dx C mA)(hg:PySem.W.plainGet K C name=true)
  (hf:PySem.W.findIn K (.ref C) name=some (some (.ref f))) (ht:PySem.W.isFn K (.ref f)=true) (hv:mA name=none) (h:Q (.ref f,[.ref x]) s):
  wpAny (model prog w) A (getMethod (.ref x) name pl) Q E s:=by
 obtain⟨od,J,hl⟩:=I.look
 exact PySem.W.method_fn X J (PySem.W.plainGet_of hg).1 (PySem.W.plainGet_of hg).2 hf (beq_iff_eq.mp ht) (by show(PySem.W.lookIn name od).map (·.isSome)=some false;rw[hl,hv];rfl) h
theorem amH{ns:List Str}{Q:Unit→Shared→Prop}(X:K.In s.heap)(I:ObjM s.heap x dx C mA)
  (hs:PySem.W.findIn K (.ref C) "__setattr__"=some (some (.builtin "object.__setattr__"))) (hp:PySem.W.plainOver K C=true) (ht:PySem.W.takerIn K C name=some none) (hh:PySem.W.hasDictIn K C=true)
  (hw:PySem.Within mA ns) (hsz:ns.length≤sizeLine)
  (h:∀h',ObjM h' x dx C (fun y=>if y=name then some v else mA y)→Heap.SameBut dx s.heap h'→Q () { s with heap:=h',toks:=s.toks+2 }):
  wpAny (model prog w) A (setAttr (.ref x) name v) Q E s:=by
 obtain⟨od,J,hl⟩:=I.look
 refine PySem.W.set_plain X J hs (PySem.W.osa_open (s:={ s with toks:=s.toks+1 }) (r:=none) X J hp ht fun b=>?_)
 obtain⟨cd,hc,hd'⟩:=PySem.W.any_some hh
 have hx:s.heap.get? x=some ⟨.ref C,some dx,.plain,#[]⟩:=I.obj
 refine wpAny_bind (wpAny_pure (wpAny_bind (wpAny_bind (wpAny_loadPart hx (wpAny_bind (PySem.W.Looks.here (s:={ s with toks:=s.toks+1 }) (PySem.W.looks_clsIn X hc) ?_))))))
 rw[hd']
 refine wpAny_pure (a:=some dx) (wpAny_bind (wpAny_pure (wpAny_bind ?_)))
 refine wpAny_nsSet1 (s:={ s with toks:=s.toks+1 }) I.ns fun h' hn2 hs2=>?_
 obtain⟨oD,esD,epD,hoD,hdD,hcD⟩:=hn2.count (PySem.Within.cons name v hw)
 refine wpAny_bind (wpAny_lookBehind hoD (by rw[hdD];exact pastItsLine_dict (Nat.le_trans hcD (by rw[List.length_cons];omega))) ?_)
 exact wpAny_pure (h _ ⟨(hs2.2 _ (Ne.symm I.ne)).trans I.obj,hn2,I.ne⟩ hs2)
theorem ajN{R:Result→Shared→Prop}{vs:List Value}{kw:List (Str×Value)}(X:K.In s.heap)(hm:PySem.W.makesIn K C=true)
  (hi:PySem.W.findIn K (.ref C) "__init__"=some (some (.ref f))) (hf:PySem.W.typeIn K (.ref f)=some (.type "function"))
  (h:codeAny (model prog w) (A.under (.builtin "type.__call__" ⟨.ref C::vs,kw⟩)) (.call (.ref f) ⟨.ref (s.heap.objs.size+1)::vs,kw⟩) (PySem.W.InitBack (s.heap.objs.size+1) R)
   { s with heap:=(s.heap.push PySem.W.emptyDict).push (PySem.W.instObj C s.heap.objs.size) }):
  codeAny (model prog w) A (.call (.ref C) ⟨vs,kw⟩) R s:=by
 obtain⟨hh,g,d,t,os⟩:=s
 exact PySem.W.make_core (PySem.W.makes_of X hm) (PySem.W.looks_findIn X hi) (fun self=>PySem.W.bind_fn X self hf) (.inl rfl) h
end
def aci(f:Str)(v:V):List (Str×V)→List (Str×V)
 | []=>[(f,v)]
 | (g,x)::r=>if g=f then(g,v)::r else(g,x)::aci f v r
theorem abR(f g:Str)(v:V):∀fs:List (Str×V),(aci f v fs).lookup g=if g=f then some v else fs.lookup g
 | []=>by
  show List.lookup g [(f,v)]=_
  by_cases h:g=f
  ·have hb:(g==f)=true:=beq_iff_eq.mpr h
   simp only[List.lookup,hb,if_pos h]
  ·have hb:(g==f)=false:=beq_eq_false_iff_ne.mpr h
   simp only[List.lookup,hb,if_neg h]
 | (k,x)::r=>by
  have ih:=abR f g v r
  rw[show aci f v ((k,x)::r)=(if k=f then(k,v)::r else(k,x)::aci f v r)from rfl]
  by_cases hk:k=f
  ·rw[if_pos hk]
   by_cases h:g=k
   ·have hb:(g==k)=true:=beq_iff_eq.mpr h
    simp only[List.lookup,hb,if_pos (h.trans hk)]
   ·have hb:(g==k)=false:=beq_eq_false_iff_ne.mpr h
    simp only[List.lookup,hb,if_neg (fun e:g=f=>h (e.trans hk.symm))]
  ·rw[if_neg hk]
   by_cases h:g=k
   ·have hb:(g==k)=true:=beq_iff_eq.mpr h
    simp only[List.lookup,hb,if_neg (fun e:g=f=>hk (h.symm.trans e))]
   ·have hb:(g==k)=false:=beq_eq_false_iff_ne.mpr h
    simp only[List.lookup,hb]
    exact ih
theorem acY(f:Str)(v:V):∀fs:List (Str×V),f∈(aci f v fs).map (·.1)∧∀g,g∈fs.map (·.1)→g∈(aci f v fs).map (·.1)
 | []=>⟨by simp[aci],fun g h=>by simp at h⟩
 | (k,x)::r=>by
  obtain⟨i1,i2⟩:=acY f v r
  rw[show aci f v ((k,x)::r)=(if k=f then(k,v)::r else(k,x)::aci f v r)from rfl]
  by_cases hk:k=f
  ·rw[if_pos hk]
   subst hk
   exact⟨by simp,fun g h=>by simpa using h⟩
  ·rw[if_neg hk]
   refine⟨?_,fun g h=>?_⟩
   ·rw[List.map_cons]
    exact List.mem_cons_of_mem _ i1
   ·rw[List.map_cons]at h ⊢
    rcases List.mem_cons.mp h with e|e
    ·exact List.mem_cons.mpr (.inl e)
    ·exact List.mem_cons_of_mem _ (i2 g e)
theorem acI(f:Str)(v:V):∀fs:List (Str×V),(aci f v fs).length≤fs.length+1
 | []=>by simp[aci]
 | (k,x)::r=>by
  have ih:=acI f v r
  rw[show aci f v ((k,x)::r)=(if k=f then(k,v)::r else(k,x)::aci f v r)from rfl]
  by_cases hk:k=f
  ·rw[if_pos hk,List.length_cons,List.length_cons];omega
  ·rw[if_neg hk,List.length_cons,List.length_cons];omega
theorem aj7.some_of{v:V}{o:Option Value}(r:aj7 (some v) o):∃u,o=some u∧aaF v u:=by
 cases o with
 | none=>exact(show False from r).elim
 | some u=>exact⟨u,rfl,r⟩
theorem aj7.none_of{o:Option Value}(r:aj7 none o):o=none:=by
 cases o with
 | none=>rfl
 | some u=>exact(show False from r).elim
theorem aiJ{v:V}{u:Value}(r:aaF v u):PySem.W.handedIn u=true:=by
 cases v with
 | non=>cases(show u=Value.none from r);rfl
 | bl b=>cases(show u=Value.bool b from r);rfl
 | int i=>obtain⟨t,e⟩:=(show ∃t,u=Value.int i t from r);cases e;rfl
 | str x=>obtain⟨t,e⟩:=(show ∃t,u=Value.str x t from r);cases e;rfl
 | byt b=>obtain⟨t,e⟩:=(show ∃t,u=Value.bytes b t from r);cases e;rfl
 | flt b=>obtain⟨t,e⟩:=(show ∃t,u=Value.float b t from r);cases e;rfl
 | ref a=>cases(show u=Value.ref a from r);rfl
 | ty n=>cases(show u=Value.type n from r);rfl
section
variable{P:Program}{w:World}{H H':Hp}{h h':Heap}{a C dx:Addr}{fs fs':List (Str×V)}
theorem aed(hok:HOk P w H h)(e:H a=some (.ins C dx fs)):∃mA,ObjM h a dx C mA∧(∀f,aj7 (fs.lookup f) (mA f))∧PySem.Within mA (fs.map (·.1))∧fs.length≤1000∧H dx=some (.own a):=by
 obtain⟨d,z,ne,ob,mA,n,r,q⟩:=(show abt P w H h a (.ins C dx fs)from hok a _ e)
 exact⟨mA,⟨ob,n,ne⟩,r,q,z,d⟩
end
structure Cls(K:PySem.W.Frag)(C:Addr):Prop where
 pg:PySem.W.plainGet K C Str.empty=true
 hd:PySem.W.hasDictIn K C=true
 po:PySem.W.plainOver K C=true
 sa:PySem.W.findIn K (.ref C) "__setattr__"=some (some (.builtin "object.__setattr__"))
theorem Cls.get{K:PySem.W.Frag}{C:Addr}(c:Cls K C)(f:Str):PySem.W.plainGet K C f=true:=c.pg
def abl(K:PySem.W.Frag)(C:Addr)(f:Str):Prop:=PySem.W.findIn K (.ref C) f=some none
theorem abl.taker{K:PySem.W.Frag}{C:Addr}{f:Str}(n:abl K C f):PySem.W.takerIn K C f=some none:=by
 unfold PySem.W.takerIn
 rw[show PySem.W.findIn K (.ref C) f=some none from n]
 rfl
structure Con(K:PySem.W.Frag)(C:Addr)(f:Str)(v:V)(u:Value):Prop where
 at_:PySem.W.findIn K (.ref C) f=some (some u)
 rel:aaF v u
 get:PySem.W.specialIn K u "__get__"=some none
 cp:PySem.W.copiedNames.contains f=false
structure Meth(K:PySem.W.Frag)(C:Addr)(m:Str)(f:Addr):Prop where
 at_:PySem.W.findIn K (.ref C) m=some (some (.ref f))
 fn:PySem.W.isFn K (.ref f)=true
 kp:PySem.W.keepIn K (.ref f)=true
section
variable{X:Cx}{pins:List (Addr×Obj)}{σ:St}{H:Hp}{s:Shared}{a C dx:Addr}{fs:List (Str×V)}{f:Str}{v:V}{A:Around}{E:Value→Shared→Prop}
theorem ahp{b:Bool}{Q:Value→Shared→Prop}(I:Inv X pins σ H s)(e:H a=some (.ins C dx fs))(c:Cls X.K C)(n:abl X.K C f)(l:fs.lookup f=some v)
  (h:∀u s',Inv X pins σ H s'→aaF v u→Q u s'):wpAny (model X.prog X.w) A (getAttr (.ref a) f b) Q E s:=by
 obtain⟨mA,O,r,_,_,_⟩:=aed I.hok e
 obtain⟨u,hu,ru⟩:=aj7.some_of (v:=v) (o:=mA f) (by rw[←l];exact r f)
 exact alK I.kIn O (c.get f) c.hd n hu (aiJ ru) (h u _ (I.tok _) ru)
theorem adB{m:Str}{g:Addr}{pl:Sem Bool}{Q:Value×List Value→Shared→Prop}(I:Inv X pins σ H s)(e:H a=some (.ins C dx fs))(c:Cls X.K C)(k:Meth X.K C m g)(l:fs.lookup m=none)
  (h:Q (.ref g,[.ref a]) s):wpAny (model X.prog X.w) A (getMethod (.ref a) m pl) Q E s:=by
 obtain⟨mA,O,r,_,_,_⟩:=aed I.hok e
 have hn:mA m=none:=aj7.none_of (by rw[←l];exact r m)
 exact ak5 I.kIn O (c.get m) k.at_ k.fn hn h
theorem ahq{y:V}{u:Value}{Q:Unit→Shared→Prop}(I:Inv X pins σ H s)(e:H a=some (.ins C dx fs))(c:Cls X.K C)(n:abl X.K C f)(hl:fs.length<1000)(ry:aaF y u)
  (h:∀s',Inv X pins σ (upd H a (.ins C dx (aci f y fs))) s'→Q () s'):wpAny (model X.prog X.w) A (setAttr (.ref a) f u) Q E s:=by
 obtain⟨mA,O,r,wi,_,ho⟩:=aed I.hok e
 have hz:(fs.map (·.1)).length≤sizeLine:=by rw[List.length_map,sizeLine_eq];omega
 refine amH I.kIn O c.sa c.po n.taker c.hd wi hz fun h' O' sb=>h _ ?_
 have hd:∃o,h'.get? dx=some o:=let ⟨o,_,_,e',_⟩:=O'.ns;⟨o,e'⟩
 refine I.write (x:=a) (e:=dx) (by rw[e];exact True.intro) (.inr ho) (fun b q hb z=>(sb.2 b hb).trans z) hd ?_
 refine⟨by rw[aag O.ne];exact ho,?_,O.ne,O'.obj,_,O'.ns,fun g=>?_,fun g hg=>?_⟩
 ·have:=acI f y fs;omega
 ·show aj7 ((aci f y fs).lookup g) (if g=f then some u else mA g)
  rw[abR]
  by_cases q:g=f
  ·rw[if_pos q,if_pos q];exact ry
  ·rw[if_neg q,if_neg q];exact r g
 ·by_cases q:g=f
  ·rw[q];exact(acY f y fs).1
  ·refine(acY f y fs).2 g (wi g fun z=>hg ?_)
   show(if g=f then some u else mA g)=none
   rw[if_neg q];exact z
theorem Inv.made(I:Inv X pins σ H s):Inv X pins σ (upd (upd H s.heap.objs.size (.own (s.heap.objs.size+1))) (s.heap.objs.size+1) (.ins C s.heap.objs.size []))
  { s with heap:=(s.heap.push PySem.W.emptyDict).push (PySem.W.instObj C s.heap.objs.size) }:=by
 have e1:(s.heap.push PySem.W.emptyDict).get? s.heap.objs.size=some PySem.W.emptyDict:=Heap.get?_push_size s.heap rfl
 have e2:((s.heap.push PySem.W.emptyDict).push (PySem.W.instObj C s.heap.objs.size)).get? (s.heap.objs.size+1)=some (PySem.W.instObj C s.heap.objs.size):=by
  have:=Heap.get?_push_size (s.heap.push PySem.W.emptyDict) (o:=PySem.W.instObj C s.heap.objs.size) rfl
  rwa [Heap.size_push]at this
 have e3:(s.heap.push PySem.W.emptyDict).Ns s.heap.objs.size (fun _=>none):=⟨PySem.W.emptyDict,#[],_,e1,rfl,(fun e he=>absurd he (by simp)),fun _=>rfl⟩
 have I1:=I.laid (a:=s.heap.objs.size) (o:=.own (s.heap.objs.size+1)) (h':=s.heap.push PySem.W.emptyDict) (t':=s.toks) (fun b u q=>Heap.get?_push_of_some _ q) (Nat.le_refl _) ⟨_,e1⟩
 refine I1.laid (a:=s.heap.objs.size+1) (o:=.ins C s.heap.objs.size []) (t':=s.toks) (fun b u q=>Heap.get?_push_of_some _ q) (Nat.le_of_eq (Heap.size_push _ _)) ?_
 have ne:s.heap.objs.size≠s.heap.objs.size+1:=Nat.ne_of_lt (Nat.lt_succ_self _)
 refine⟨by rw[aag ne,aax],Nat.zero_le _,ne,e2,fun _=>none,(Heap.Ns1.of_empty e3).at fun o q=>Heap.get?_push_of_some _ q,fun _=>True.intro,fun y hy=>absurd rfl hy⟩
theorem alX{prog:Program}{w:World}{env:Env}{e:Expr}{f:Str}{pos:Pos}{s:Shared}{Q:Value→Shared→Prop}(hb:attributeBase e f env (eval e env)=eval e env)
  (h:wpAny (model prog w) A (eval e env) (fun o s₁=>wpAny (model prog w) A (getAttr o f true) Q E s₁) E s):wpAny (model prog w) A (eval (.Attribute e f pos) env) Q E s:=
 Attribute_any_ h (by rw[arm_eval_Attribute,hb])
end
def axH(K:PySem.W.Frag)(ta:TE)(f:Str):TE:=fun σ H Q=>ta σ H fun x H1=>∃a C dx fs v,x=.ref a∧H1 a=some (.ins C dx fs)∧Cls K C∧abl K C f∧fs.lookup f=some v∧Q v H1
def ayp(K:PySem.W.Frag)(ta tv:TE)(f:Str):TS:=fun D σ H=>tv σ H fun y H1=>ta σ H1 fun x H2=>∃a C dx fs,x=.ref a∧H2 a=some (.ins C dx fs)∧Cls K C∧abl K C f∧fs.length<1000∧
 D.nx σ (upd H2 a (.ins C dx (aci f y fs)))
section
variable{X:Cx}{o e value:Expr}{f:Str}{pos pos' tpos:Pos}{ta tv:TE}
theorem aqQ(he:PE X e ta)(hb:attributeBase e f X.env (eval e X.env)=eval e X.env):PE X (.Attribute e f pos) (axH X.K ta f):=by
 intro pins s σ H Q I h
 refine alX hb (thn (he pins s σ H _ I h) fun u s1 ⟨x,H1,I1,rx,a,C,dx,fs,v,ex,ea,c,n,l,q⟩=>?_)
 subst ex
 obtain rfl:u=Value.ref a:=rx
 exact ahp I1 ea c n l fun u' s2 I2 ru=>⟨v,H1,I2,ru,q⟩
theorem aos(ha:PE X o ta)(hv:PE X value tv)(hs:swapsWith value (some (.Attribute o f pos')) pos.line X.env=pure false):PS X (.Assign [.Attribute o f pos'] value pos) (ayp X.K ta tv f):=by
 intro pins s σ H D I h
 refine plainObj_wpAny_Assign_Attribute (thn (hv pins s σ H _ I h) fun u s1 ⟨y,H1,I1,ry,q⟩=>thn (ha pins s1 σ H1 _ I1 q) fun ov s2 ⟨x,H2,I2,rx,a,C,dx,fs,ex,ea,c,n,l,q2⟩=>?_) hs
 subst ex
 obtain rfl:ov=Value.ref a:=rx
 exact ahq I2 ea c n l ry fun s3 I3=>⟨σ,_,I3,q2⟩
def awn:V→V→Hp→VK→Prop:=fun x y H Q=>∃i j,x=.int i∧y=.int j∧Q (.int (i-j)) H
end
section
variable{X:Cx}{pins:List (Addr×Obj)}{σ:St}{H:Hp}{s:Shared}{A:Around}{E:Value→Shared→Prop}{Q:Value→Shared→Prop}{c:Value}{b:Bool}
inductive TyOf(K:PySem.W.Frag)(H:Hp):V→Value→Prop where
 | non:TyOf K H .non (.type "NoneType")
 | bl (x:Bool):TyOf K H (.bl x) (.type "bool")
 | int (i:Int):TyOf K H (.int i) (.type "int")
 | str (x:Str):TyOf K H (.str x) (.type "str")
 | flt (x:UInt64):TyOf K H (.flt x) (.type "float")
 | lst {a:Addr}{xs:List V} (e:H a=some (.lst xs)):TyOf K H (.ref a) (.type "list")
 | frz {a:Addr}{o:Obj}{xs:List V} (e:H a=some (.frz o (.lst xs))):TyOf K H (.ref a) (.type "list")
 | tup {a:Addr}{xs:List V} (e:H a=some (.tup xs)):TyOf K H (.ref a) (.type "tuple")
 | dK {a:Addr}{kvs:List (Key×V)} (e:H a=some (.dK kvs)):TyOf K H (.ref a) (.type "dict")
 | dT {a:Addr}{kvs:List (List Key×V)} (e:H a=some (.dT kvs)):TyOf K H (.ref a) (.type "dict")
 | ins {a C dx:Addr}{fs:List (Str×V)} (e:H a=some (.ins C dx fs)) (cl:Cls K C) (ha:PySem.W.findIn K (.ref C) "__class__"=some (some (.builtin "object.__class__")))
   (hn:PySem.W.specialIn K (.builtin "object.__class__") "__get__"=some (some (.builtin "getset_descriptor.__get__"))) (htk:PySem.W.takesIn K (.builtin "object.__class__")=some true)
   (hm:PySem.W.mroIn K C (.type "object")=some true):TyOf K H (.ref a) (.ref C)
theorem aew{x:V}{u t:Value}(I:Inv X pins σ H s)(rx:aaF x u)(ty:TyOf X.K H x t)(e:PySem.W.kitOne X.K t c=some b)(h:∀tk,Q (.bool b) { s with toks:=tk }):
  wpAny (model X.prog X.w) A (call (.builtin "isinstance") [u,c]) Q E s:=by
 cases ty with
 | non=>cases(show u=Value.none from rx);exact PySem.W.kia_one PySem.W.kitx_none I.kIn True.intro e (fun z=>nomatch z) h
 | bl y=>cases(show u=Value.bool y from rx);exact PySem.W.kia_one PySem.W.kitx_bool I.kIn True.intro e (fun z=>nomatch z) h
 | int i=>obtain⟨t,q⟩:=(show ∃t,u=Value.int i t from rx);cases q;exact PySem.W.kia_one PySem.W.kitx_int I.kIn True.intro e (fun z=>nomatch z) h
 | str y=>obtain⟨t,q⟩:=(show ∃t,u=Value.str y t from rx);cases q;exact PySem.W.kia_one PySem.W.kitx_str I.kIn True.intro e (fun z=>nomatch z) h
 | flt y=>obtain⟨t,q⟩:=(show ∃t,u=Value.float y t from rx);cases q;exact PySem.W.kia_one PySem.W.kitx_float I.kIn True.intro e (fun z=>nomatch z) h
 | @lst a xs ea=>
  cases(show u=Value.ref a from rx)
  obtain⟨_,_,n,_,h1⟩:=(show abt X.prog X.w H s.heap a (.lst xs)from I.hok a _ ea)
  exact PySem.W.kia_one PySem.W.kitx_list I.kIn ⟨_,h1,rfl⟩ e (fun z=>nomatch z) h
 | @frz a ob xs ea=>
  cases(show u=Value.ref a from rx)
  obtain⟨_,_,_,n,_,h1⟩:=(show abt X.prog X.w H s.heap a (.frz ob (.lst xs))from I.hok a _ ea)
  exact PySem.W.kia_one PySem.W.kitx_list I.kIn ⟨_,h1,rfl⟩ e (fun z=>nomatch z) h
 | @tup a xs ea=>
  cases(show u=Value.ref a from rx)
  obtain⟨_,_,_,p⟩:=(show abt X.prog X.w H s.heap a (.tup xs)from I.hok a _ ea)
  obtain⟨o,h1,h2,_⟩:=p
  exact PySem.W.kia_one PySem.W.kitx_tuple I.kIn ⟨o,h1,h2⟩ e (fun z=>nomatch z) h
 | @dK a kvs ea=>
  cases(show u=Value.ref a from rx)
  obtain⟨_,_,vs,_,p⟩:=(show abt X.prog X.w H s.heap a (.dK kvs)from I.hok a _ ea)
  obtain⟨o,es,ep,h1,h2,_⟩:=p
  exact PySem.W.kia_one PySem.W.kitx_dict I.kIn ⟨o,h1,h2.1⟩ e (fun z=>nomatch z) h
 | @dT a kvs ea=>
  cases(show u=Value.ref a from rx)
  obtain⟨_,_,xs,_,o,es,ep,h1,h2,_⟩:=(show abt X.prog X.w H s.heap a (.dT kvs)from I.hok a _ ea)
  exact PySem.W.kia_one PySem.W.kitx_dict I.kIn ⟨o,h1,h2.1⟩ e (fun z=>nomatch z) h
 | @ins a C dx fs ea cl ha hn htk hm=>
  cases(show u=Value.ref a from rx)
  obtain⟨mA,O,_⟩:=aed I.hok ea
  obtain⟨od,J,_⟩:=O.look
  exact PySem.W.kia_one (PySem.W.kitx_own (cl.get _) cl.hd ha hn htk hm) I.kIn J e (fun z=>nomatch z) h
end
end L2
namespace L2
open PySem PySem.Spec PyProof.Rows
structure Room(k:Nat)(A:Around):Prop where
 hd:A.handled=none
 dp:A.depth+3*k+5<recursionLimit
 un:A.units+16*k+200<cLine
theorem Room.mono{j k:Nat}{A:Around}(r:Room k A)(h:j≤k):Room j A:=⟨r.hd,by have:=r.dp;omega,by have:=r.un;omega⟩
theorem Room.deeper{k:Nat}{A:Around}(r:Room (k+1) A)(env:Env):Room k (A.deeper env):=
 ⟨r.hd,by have:=r.dp;show A.depth+1+3*k+5<_;omega,by have:=r.un;show A.units+3+16*k+200<_;omega⟩
theorem Room.in1{k:Nat}{A:Around}(r:Room (k+1) A):Room k A.in1:=
 ⟨r.hd,by have:=r.dp;show A.depth+3*k+5<_;omega,by have:=r.un;show A.units+1+16*k+200<_;omega⟩
theorem ahn{A:Around}{C:Addr}{us:List Value}{kw:List (Str×Value)}:(A.under (.builtin "type.__call__" ⟨.ref C::us,kw⟩)).depth=A.depth+1:=by
 first|rfl|simp[Around.under,Code.weight,Code.isCreation,Code.isGuard,Code.isCaller,Code.frames,Code.isFrame,guardIds]
theorem ahj{A:Around}{C:Addr}{us:List Value}{kw:List (Str×Value)}:(A.under (.builtin "type.__call__" ⟨.ref C::us,kw⟩)).units=A.units+1:=by
 first|rfl|simp[Around.under,Code.cUnits,Code.frames,Code.isFrame]
theorem Room.make{k:Nat}{A:Around}(r:Room (k+1) A)(C:Addr)(us:List Value)(kw:List (Str×Value)):Room k (A.under (.builtin "type.__call__" ⟨.ref C::us,kw⟩)):=
 ⟨r.hd,by have:=r.dp;rw[ahn];omega,by have:=r.un;rw[ahj];omega⟩
theorem Room.depth{k:Nat}{A:Around}(r:Room k A):A.depth<recursionLimit:=by have:=r.dp;omega
theorem Room.units{k:Nat}{A:Around}(r:Room k A):A.units+64<cLine:=by have:=r.un;omega
def aw2:TA:=fun _ H Q=>Q [] H
def aqy(ta:TE)(tr:TA):TA:=fun σ H Q=>ta σ H fun x H1=>tr σ H1 fun xs H2=>Q (x::xs) H2
section
variable{X:Cx}{e:Expr}{es:List Expr}{te:TE}{t:TA}{pos:Pos}
theorem abb:PA X [] aw2:=fun _ _ _ _ H Q I h=>Calls.spliced_nil ⟨[],H,I,.nil,h⟩
theorem aa5(ha:PE X e te)(hr:PA X es t)(hs:starEach (e::es) X.env=(false,eval e X.env)::starEach es X.env:=by rfl):PA X (e::es) (aqy te t):=by
 intro pos pins s σ H Q I h
 rw[hs]
 show wpAny _ _ (spliced ((false,eval e X.env)::backTo pos (starEach es X.env))) _ _ s
 refine Calls.spliced_cons (thn (ha pins s σ H _ I h) fun u s1 ⟨x,H1,I1,r1,q1⟩=>?_)
 exact thn (hr pos pins s1 σ H1 _ I1 q1) fun us s2 ⟨xs,H2,I2,r2,q2⟩=>⟨x::xs,H2,I2,.cons r1 r2,q2⟩
def ayf(t:TA):TE:=fun σ H Q=>t σ H fun xs H1=>xs.length≤sizeLine∧∀p,H1 p=none→Q (.ref p) (upd H1 p (.tup xs))
def axY(t:TA):TE:=fun σ H Q=>t σ H fun xs H1=>xs.length≤sizeLine∧∀p,H1 p=none→Q (.ref p) (upd H1 p (.lst xs))
theorem apX{x1}(h:PA X es t):PE X (.Tuple es x1 pos) (ayf t):=by
 intro pins s σ H Q I hq
 refine wpAny_Tuple_spliced (thn (h pos pins s σ H _ I hq) fun us s1 ⟨xs,H1,I1,r,z,q⟩=>⟨by rw[←r.length];exact z,?_⟩)
 have hf:H1 s1.heap.objs.size=none:=I1.hok.fresh (Nat.le_refl _)
 refine⟨.ref s1.heap.objs.size,upd H1 s1.heap.objs.size (.tup xs),I1.laid (t':=s1.toks) (fun b u e=>Heap.get?_push_of_some _ e) (Nat.le_refl _) ?_,rfl,q _ hf⟩
 exact⟨z,us,r,⟨_,Heap.get?_push_size _ rfl,rfl,_,rfl⟩⟩
theorem akU(h:PA X es t):PE X (.List es pos) (axY t):=by
 intro pins s σ H Q I hq
 refine wpAny_List_spliced (thn (h pos pins s σ H _ I hq) fun us s1 ⟨xs,H1,I1,r,z,q⟩=>⟨by rw[←r.length];exact z,?_⟩)
 have hf:H1 s1.heap.objs.size=none:=I1.hok.fresh (Nat.le_refl _)
 refine⟨.ref s1.heap.objs.size,upd H1 s1.heap.objs.size (.lst xs),I1.laid (t':=s1.toks) (fun b u e=>Heap.get?_push_of_some _ e) (Nat.le_refl _) ?_,rfl,q _ hf⟩
 exact⟨z,us,0,r,Heap.get?_push_size _ rfl⟩
end
abbrev Sp:=List V→Hp→VK→XK→Prop
abbrev CXT:=List Env→Hp→Shared→XK→Value→Shared→Prop
structure Env0(P:Program)(w:World)(K:PySem.W.Frag)(mg:Str→Option Value)(base:Heap)(A:Around)(outer:List Env)(s:Shared)(H:Hp):Prop where
 frames:A.frames=some outer
 mod:Mod K mg base
 bs:∀b o,base.get? b=some o→s.heap.get? b=some o∧H b=none
 bsz:base.objs.size≤s.heap.objs.size
 funs:s.heap.FunFrames base outer
 frf:∀b∈frs outer,H b=none
 hok:HOk P w H s.heap
 bare:AllBare s.gens
def CE(outer:List Env)(P:Program)(w:World)(H:Hp)(s:Shared)(Q:VK)(u:Value)(s':Shared):Prop:=
 ∃v H',s'.os=s.os∧AllBare s'.gens∧Un (frs outer) [] H H' s.heap s'.heap∧HOk P w H' s'.heap∧aaF v u∧Q v H'
def CR(CX:CXT)(outer:List Env)(P:Program)(w:World)(H:Hp)(s:Shared)(Q:VK)(E:XK)(r:Result)(s':Shared):Prop:=
 match r with
 | .ok (.ret u)=>CE outer P w H s Q u s'
 | .ok _=>False
 | .error e=>CX outer H s E e s'
structure FnOk(P:Program)(w:World)(K:PySem.W.Frag)(mg:Str→Option Value)(base:Heap)(CX:CXT)(k:Nat)(f:Addr)(fd:FuncData)(ps:List Str)(sp:Sp):Prop where
 len:∀vs H Q E,sp vs H Q E→vs.length=ps.length
 run:∀(A:Around) (outer:List Env) (s:Shared) (H:Hp) (args:Args) (us:List Value) (vs:List V) (Q:VK) (E:XK),Room k A→Env0 P w K mg base A outer s H→BindsTo s fd args (ps.zip us)→Vals vs us→sp vs H Q E→
  codeAny (model P w) A (.call (.ref f) args) (CR CX outer P w H s Q E) s
theorem FnOk.mono{P:Program}{w:World}{K:PySem.W.Frag}{mg:Str→Option Value}{base:Heap}{CX:CXT}{j k:Nat}{f:Addr}{fd:FuncData}{ps:List Str}{sp:Sp}(F:FnOk P w K mg base CX j f fd ps sp)(h:j≤k):
  FnOk P w K mg base CX k f fd ps sp:=⟨F.len,fun A outer s H args us vs Q E hr=>F.run A outer s H args us vs Q E (hr.mono h)⟩
theorem FnOk.imp{P:Program}{w:World}{K:PySem.W.Frag}{mg:Str→Option Value}{base:Heap}{CX:CXT}{k:Nat}{f:Addr}{fd:FuncData}{ps:List Str}{sp sp':Sp}(F:FnOk P w K mg base CX k f fd ps sp)
  (h:∀vs H Q E,sp' vs H Q E→sp vs H Q E):FnOk P w K mg base CX k f fd ps sp':=
 ⟨fun vs H Q E q=>F.len vs H Q E (h _ _ _ _ q),fun A outer s H args us vs Q E hr he hb hv hs=>F.run A outer s H args us vs Q E hr he hb hv (h _ _ _ _ hs)⟩
theorem Env0.make{P:Program}{w:World}{K:PySem.W.Frag}{mg:Str→Option Value}{base:Heap}{A:Around}{outer:List Env}{s:Shared}{H:Hp}(e:Env0 P w K mg base A outer s H)(C:Addr)(us:List Value)(kw:List (Str×Value)):
  Env0 P w K mg base (A.under (.builtin "type.__call__" ⟨.ref C::us,kw⟩)) outer s H:=⟨by first|exact e.frames|(simpa [Around.under,Code.envs,Code.isFrame,pushEnvs]using e.frames),e.mod,e.bs,e.bsz,e.funs,e.frf,e.hok,e.bare⟩
theorem Env0.in1{P:Program}{w:World}{K:PySem.W.Frag}{mg:Str→Option Value}{base:Heap}{A:Around}{outer:List Env}{s:Shared}{H:Hp}(e:Env0 P w K mg base A outer s H):
  Env0 P w K mg base A.in1 outer s H:=⟨e.frames,e.mod,e.bs,e.bsz,e.funs,e.frf,e.hok,e.bare⟩
section
variable{X:Cx}{pins:List (Addr×Obj)}{σ:St}{H:Hp}{s s':Shared}
theorem Inv.env0(I:Inv X pins σ H s):Env0 X.prog X.w X.K X.mg X.base X.A X.stack s H:=
 ⟨I.ok.frames,I.ok.mod,I.bs,Nat.le_trans I.ok.bsz I.sz,I.stack,I.stkFree,I.hok,I.bare⟩
theorem Inv.after{Q:VK}{u:Value}(I:Inv X pins σ H s)(h:CE X.stack X.prog X.w H s Q u s'):EP X pins σ Q u s':=by
 obtain⟨v,H',os,bare,un,hok,r,q⟩:=h
 obtain⟨hh,g,d,t,os'⟩:=s'
 obtain rfl:os'=s.os:=os
 exact⟨v,H',I.call (h':=hh) (g':=g) (d':=d) (t':=t) (ch:=[]) un hok bare (fun b z=>absurd z (by simp)),r,q⟩
end
def Binds(K:PySem.W.Frag)(fd:FuncData)(ps:List Str)(ds:List Value):Prop:=
 ∀(s:Shared) (us:List Value),K.In s.heap→(us++ds).length=ps.length→BindsTo s fd ⟨us,[]⟩ (ps.zip (us++ds))
theorem Binds.all{K:PySem.W.Frag}{fd:FuncData}{ps:List Str}(h:∀us:List Value,us.length=ps.length→bindArgs fd ⟨us,[]⟩=pure (ps.zip us)):Binds K fd ps []:=fun s us _ hl=>by
 rw[List.append_nil]at hl ⊢
 exact .of_eq (h us hl)
section
variable{X:Cx}{CX:CXT}{k:Nat}{f C:Addr}{fd:FuncData}{ps:List Str}{sp:Sp}{dvs:List V}{ds:List Value}{E:XK}{x m:Str}{p pos apos:Pos}{e o:Expr}{es:List Expr}{ta:TE}{t:TA}
structure Mk(K:PySem.W.Frag)(C f:Addr):Prop where
 makes:PySem.W.makesIn K C=true
 init:PySem.W.findIn K (.ref C) "__init__"=some (some (.ref f))
 fn:PySem.W.isFn K (.ref f)=true
 kp:PySem.W.keepIn K (.ref C)=true
end
section
variable{X:Cx}{CX:CXT}{k:Nat}{f C:Addr}{fd:FuncData}{ps ks:List Str}{sp:Sp}{E:XK}{x m:Str}{p pos apos kpos:Pos}{e o:Expr}{es:List Expr}{kws:List Keyword}{te ta:TE}{t tk:TA}{nm:Option Str}
structure KBinds(K:PySem.W.Frag)(fd:FuncData)(ps ks:List Str)(g:List Value→List Value→List Value)(gV:List V→List V→List V):Prop where
 to:∀(s:Shared) (us ws:List Value),K.In s.heap→(g us ws).length=ps.length→BindsTo s fd ⟨us,ks.zip ws⟩ (ps.zip (g us ws))
 rel:∀{vs:List V}{us:List Value}{zs:List V}{ws:List Value},Vals vs us→Vals zs ws→Vals (gV vs zs) (g us ws)
variable{g:List Value→List Value→List Value}{gV:List V→List V→List V}
end
structure FnScope(N P:List Str)(sc:Scope):Prop where
 kind:sc.kind=.function
 co:sc.isCoroutine=false
 gen:sc.isGenerator=false
 nd:N.Nodup
 pre:N.take P.length=P
 par:∀x∈P,sc.names.lookup x=some .local∨sc.names.lookup x=some .cell
 nofree:∀y∈sc.names,y.2≠.free
theorem aeE{kindOf:Str→Option NameKind}{x:Str}:∀{binds:List (Str×Value)}{m:Str→Option Value},(∀v,(x,v)∉binds)→bindL kindOf binds m x=m x
 | [],_,_=>rfl
 | (n,v)::r,m,h=>by
  unfold bindL
  rw[aeE fun w hw=>h w (List.mem_cons_of_mem _ hw)]
  split
  ·have:x≠n:=by rintro rfl;exact h v List.mem_cons_self
   simp[this]
  ·rfl
theorem ae0{kindOf:Str→Option NameKind}{x:Str}:∀{binds:List (Str×Value)}{m:Str→Option Value},(∀v,(x,v)∉binds)→bindC kindOf binds m x=m x
 | [],_,_=>rfl
 | (n,v)::r,m,h=>by
  unfold bindC
  rw[ae0 fun w hw=>h w (List.mem_cons_of_mem _ hw)]
  split
  ·rfl
  ·have:x≠n:=by rintro rfl;exact h v List.mem_cons_self
   simp[this]
theorem aeN{kindOf:Str→Option NameKind}{x:Str}{v:Value}:∀{P:List Str}{vs:List Value}{i:Nat}{m:Str→Option Value},P.Nodup→P[i]?=some x→vs[i]?=some v→kindOf x=some .local→
  bindL kindOf (P.zip vs) m x=some v
 | [],_,_,_,_,h,_,_=>by simp at h
 | _::_,[],_,_,_,_,h,_=>by simp at h
 | p::P,w::vs,0,m,nd,h1,h2,hk=>by
  simp at h1 h2;subst h1;subst h2
  show bindL kindOf ((p,w)::P.zip vs) m p=_
  unfold bindL
  rw[aeE fun v hv=>(List.nodup_cons.mp nd).1 (List.of_mem_zip hv).1,if_pos hk]
  simp
 | p::P,w::vs,i+1,m,nd,h1,h2,hk=>by
  show bindL kindOf ((p,w)::P.zip vs) m x=_
  unfold bindL
  exact aeN (i:=i) (List.nodup_cons.mp nd).2 (by simpa using h1) (by simpa using h2) hk
theorem aeu{kindOf:Str→Option NameKind}{x:Str}{v:Value}:∀{P:List Str}{vs:List Value}{i:Nat}{m:Str→Option Value},P.Nodup→P[i]?=some x→vs[i]?=some v→kindOf x≠some .local→
  bindC kindOf (P.zip vs) m x=some v
 | [],_,_,_,_,h,_,_=>by simp at h
 | _::_,[],_,_,_,_,h,_=>by simp at h
 | p::P,w::vs,0,m,nd,h1,h2,hk=>by
  simp at h1 h2;subst h1;subst h2
  show bindC kindOf ((p,w)::P.zip vs) m p=_
  unfold bindC
  rw[ae0 fun v hv=>(List.nodup_cons.mp nd).1 (List.of_mem_zip hv).1,if_neg hk]
  simp
 | p::P,w::vs,i+1,m,nd,h1,h2,hk=>by
  show bindC kindOf ((p,w)::P.zip vs) m x=_
  unfold bindC
  exact aeu (i:=i) (List.nodup_cons.mp nd).2 (by simpa using h1) (by simpa using h2) hk
def start(N:List Str)(vs:List V):St:=vs.map some++List.replicate (N.length-vs.length) none
def aen(CX:CXT)(P:Program)(w:World)(K:PySem.W.Frag)(mg:Str→Option Value)(base:Heap)(N:List Str)(qual:Str)(scope:Scope)(f:Addr)(cd:Value)(A:Around)(outer:List Env)(s:Shared)(H:Hp)(E:XK):Cx where
 prog:=P
 w:=w
 K:=K
 mg:=mg
 base:=base
 A:=A.deeper (envOfC qual scope s.heap.objs.size f cd)
 N:=N
 s₀:=s
 H₀:=H
 env:=envOfC qual scope s.heap.objs.size f cd
 outer:=outer
 stack:=envOfC qual scope s.heap.objs.size f cd::outer
 ex:=[]
 calm:=true
 fn:=fun _=>true
 pn:=[]
 xe:=fun e s'=>wpAny (model P w) (A.deeper (envOfC qual scope s.heap.objs.size f cd)) (leaving (envOfC qual scope s.heap.objs.size f cd) e) (fun _ s''=>CX outer H s E e s'') (fun e' s''=>CX outer H s E e' s'') s'
theorem ag5{sc:Scope}{n:Nat}{x:Str}(h:sc.names.lookup x=some .cell):∃c,(cellsFrom n sc.names []).lookup x=some c:=by
 have q:=PySem.W.cellsFrom_some sc.names n [] (.inl h)
 exact Option.isSome_iff_exists.mp q
theorem aiE{CX:CXT}{P:Program}{w:World}{K:PySem.W.Frag}{mg:Str→Option Value}{base:Heap}{N ps:List Str}{qual:Str}{scope:Scope}{f:Addr}{cd:Value}{A:Around}{outer:List Env}{s s1:Shared}{H:Hp}{E:XK}{us:List Value}{vs:List V}
  (S:FnScope N ps scope) (hd:A.handled=none) (e0:Env0 P w K mg base A outer s H) (hl:vs.length=ps.length) (r:Vals vs us)
  (x:InCallC s s.heap.objs.size (bindL (envOfC qual scope s.heap.objs.size f cd).kindOf (ps.zip us) fun _=>none) (cellsFrom (s.heap.objs.size+1) scope.names []) (bindC (envOfC qual scope s.heap.objs.size f cd).kindOf (ps.zip us) fun _=>none) s1):
  Inv (aen CX P w K mg base N qual scope f cd A outer s H E) [] (start N vs) H s1:=by
 have hpl:ps.length≤N.length:=by have:=congrArg List.length S.pre;rw[List.length_take]at this;omega
 obtain⟨h1,tk,rfl,hk⟩:=x.done
 have noA:∀b:Addr,b∉(aen CX P w K mg base N qual scope f cd A outer s H E).ex:=fun b z=>absurd (show b∈([]:List Addr)from z) (by simp)
 refine⟨⟨e0.mod,S.kind,rfl,rfl,Nat.le_refl _,fun y z c h1 h2=>?_,fun y hy=>?_,fun y c _ h=>?_,fun _=>hd,Around.frames_deeper e0.frames,.inr ⟨rfl,rfl⟩,fun b z=>absurd z (noA b),e0.bs,e0.bsz,fun b _ _=>noA b,fun b z=>absurd z (noA b),e0.funs,e0.frf⟩,
  rfl,e0.bare,Un.kept hk,⟨_,x.toInCall.ns,fun i y v h1 h2 h3=>?_⟩,fun y c h=>⟨_,x.cell y c h⟩,e0.hok.fresh (Nat.le_refl _),fun y c h=>?_,fun p hp=>absurd (show p∈([]:List (Addr×Obj))from hp) (by simp),e0.hok.kept hk,?_⟩
 ·exact name_of_addr x.apart (PySem.mem_of_lookup h1) (PySem.mem_of_lookup h2)
 ·have hy:scope.names.lookup y=some .cell∨scope.names.lookup y=some .free:=hy
  rcases hy with hy|hy
  ·exact ag5 hy
  ·exact absurd rfl (S.nofree _ (PySem.mem_of_lookup hy))
 ·exact Nat.le_of_lt (x.above y c (PySem.mem_of_lookup h))
 ·have hi:i<vs.length:=by
   unfold start at h2
   by_cases hi:i<vs.length
   ·exact hi
   ·rw[List.getElem?_append_right (by simpa using hi)]at h2
    rw[List.getElem?_replicate]at h2
    split at h2<;>cases h2
  have ha:vs[i]?=some v:=by
   unfold start at h2
   rw[List.getElem?_append_left (by simpa using hi),List.getElem?_map]at h2
   cases e:vs[i]? with
   | none=>rw[e]at h2;cases h2
   | some a=>rw[e]at h2;cases h2;rfl
  obtain⟨u,hu,rv⟩:=r.get ha
  have hp:ps[i]?=some y:=by
   rw[←S.pre,List.getElem?_take_of_lt (by omega)];exact h1
  have ndP:ps.Nodup:=by rw[←S.pre];exact S.nd.sublist (List.take_sublist _ _)
  refine⟨u,rv,?_⟩
  rcases S.par y (List.mem_of_getElem? hp)with k|k
  ·exact .inl ⟨k,aeN ndP hp hu k⟩
  ·obtain⟨c,e⟩:=ag5 (n:=s.heap.objs.size+1) k
   refine .inr ⟨.inl k,c,e,?_⟩
   have q:=x.cell y c e
   rw[aeu ndP hp hu (by show scope.names.lookup y≠_;rw[k];decide)]at q
   exact q
 ·exact e0.hok.fresh (Nat.le_of_lt (x.above y c (PySem.mem_of_lookup h)))
 ·unfold start
  show _=N.length
  rw[List.length_append,List.length_map,List.length_replicate]
  omega
theorem aow{CX:CXT}{P:Program}{w:World}{K:PySem.W.Frag}{mg:Str→Option Value}{base:Heap}{k:Nat}{f:Addr}{name qual:Str}{params:Arguments}{body:List Stmt}{scope:Scope}{dV kV doc pm cdv ct oc:Value}{an od:Option Addr}
  {osl:Array (Option Value)}{N ps:List Str}{sp:Sp} (lk:K.lookup f=some ⟨oc,od,.func (PySem.W.fnOf name qual params body scope dV kV doc pm an cdv ct),osl⟩) (hcd:PySem.W.codeIn K cdv qual=true) (S:FnScope N ps scope)
  (len:∀vs H Q E,sp vs H Q E→vs.length=ps.length)
  (hbody:∀(A:Around) (outer:List Env) (s:Shared) (H:Hp) (vs:List V) (Q:VK) (E:XK),Room k (A.deeper (envOfC qual scope s.heap.objs.size f cdv))→sp vs H Q E→
   ∃t,PSs (aen CX P w K mg base N qual scope f cdv A outer s H E) body t∧t { nx:=fun _ H'=>Q .non H',rt:=Q } (start N vs) H):
  FnOk P w K mg base CX (k+1) f (PySem.W.fnOf name qual params body scope dV kV doc pm an cdv ct) ps sp:=by
 refine⟨len,fun A outer s H args us vs Q E hr e0 hb r hsp=>?_⟩
 have hl:=len _ _ _ _ hsp
 have KX:K.In s.heap:=e0.mod.kin.keeps fun b o e=>(e0.bs b o e).1
 have lim:s.heap.NoLimit:=e0.mod.nolimit.keeps fun b o e=>(e0.bs b o e).1
 have hkind:∀y∈ps.zip us,scope.names.lookup y.1=some .local∨(scope.names.lookup y.1=some .cell∧((cellsFrom (s.heap.objs.size+1) scope.names []).lookup y.1).isSome=true):=fun⟨n,v⟩ hy=>by
  rcases S.par n (List.of_mem_zip hy).1 with q|q
  ·exact .inl q
  ·exact .inr ⟨q,PySem.W.cellsFrom_some _ _ _ (.inl q)⟩
 refine codeAny_call_function hr.depth (KX _ _ lk) rfl S.co S.gen rfl (PySem.W.codeRec_of KX hcd) (hb _ _ _ _ ?_)
 refine wpAny_newFunctionEnv_cells S.kind hkind fun env he s1 x=>?_
 subst he
 refine⟨lim.keeps x.toInCall.keep,codeAny_func ?_⟩
 obtain⟨t,ht,hq⟩:=hbody A outer s H vs Q E (hr.deeper _) hsp
 have I:Inv (aen CX P w K mg base N qual scope f cdv A outer s H E) [] (start N vs) H s1:=aiE S hr.hd e0 hl r x
 refine wpAny_mono (ht [] s1 (start N vs) H _ I hq) (fun fl s' hs=>?_) fun e s' hs=>hs
 have fin:∀{σ':St}{H':Hp}{v:V}{u:Value},Inv (aen CX P w K mg base N qual scope f cdv A outer s H E) [] σ' H' s'→aaF v u→Q v H'→CE outer P w H s Q u s':=
  fun {σ' H' v u} J rv q=>⟨v,H',J.os,J.bare,J.base,J.hok,rv,q⟩
 cases fl with
 | ret u=>
  obtain⟨v,σ',H',J,rv,q⟩:=hs
  exact fin J rv q
 | next=>
  obtain⟨σ',H',J,q⟩:=hs
  exact fin (v:=V.non) (u:=Value.none) J rfl q
 | brk=>
  obtain⟨_,_,_,q⟩:=hs
  exact False.elim q
 | cont=>
  obtain⟨_,_,_,q⟩:=hs
  exact False.elim q
end L2
namespace L2
open PySem PySem.Spec PyProof.Rows
section
variable{X:Cx}{x:Str}{p pos:Pos}{e:Expr}{es:List Expr}{t:TA}{id T:String}{r:List V→Hp→VK→Prop}
def tCB(r:List V→Hp→VK→Prop)(t:TA):TE:=fun σ H Q=>t σ H fun vs H1=>r vs H1 Q
theorem adO(hc:aaA X (.builtin id) r)(hg:Gl X x)(hm:X.mg x=none)(hv:bootBuiltins x=some (.builtin id))(ha:PA X (e::es) t)(hn:x≠"__name__":=by decide)(hdb:(x==("__debug__":Str))=false:=by decide)
  (he:starEach (e::es) X.env=(false,eval e X.env)::starEach es X.env:=by rfl) (hpl:(backTo pos (starEach es X.env)).any (·.1)=false:=by rfl):PE X (.Call (.Name x p) (e::es) [] pos) (tCB r t):=by
 intro pins s σ H Q I h
 refine wpAny_Call_Name_kw (ad0 I hg hm hv ?_ hn hdb)
 exact PyProof.Rows.callWith_builtin1 (thn (ha pos pins s σ H _ I h) fun us s1 ⟨vs,H1,I1,r1,q1⟩=>hc pins s1 σ H1 vs us Q I1 r1 q1) he hpl
theorem afb(hc:aaA X (.type T) r)(hg:Gl X x)(hm:X.mg x=none)(hv:bootBuiltins x=some (.type T))(ha:PA X (e::es) t)(hn:x≠"__name__":=by decide)(hdb:(x==("__debug__":Str))=false:=by decide)
  (he:starEach (e::es) X.env=(false,eval e X.env)::starEach es X.env:=by rfl) (hpl:(backTo pos (starEach es X.env)).any (·.1)=false:=by rfl):PE X (.Call (.Name x p) (e::es) [] pos) (tCB r t):=by
 intro pins s σ H Q I h
 refine wpAny_Call_Name_kw (ad0 I hg hm hv ?_ hn hdb)
 exact PyProof.Rows.callWith_type1 (thn (ha pos pins s σ H _ I h) fun us s1 ⟨vs,H1,I1,r1,q1⟩=>hc pins s1 σ H1 vs us Q I1 r1 q1) he hpl
end
end L2
namespace HT
open PySem PyProof.Rows
section
open PySem.SeqAt
open PySem.AutoSeq1 (wpAny_loadPart')
open PySem.MeetsSeq PySem.MeetsSeq2 PySem.MeetsSeq3
end
section
variable{prog:Program}{w:World}{A:Around}{E:Value→Shared→Prop}{s:Shared}
theorem cat_tup{t b:Addr}{vs ws:List Value}{Q:Value→Shared→Prop}(ht:IsTup s.heap t vs.toArray)(hb:IsTup s.heap b ws.toArray)(hv:vs≠[])
  (h1:ws=[]→Q (.ref t) s) (h2:ws≠[]→Q (.ref s.heap.objs.size) { s with heap:=s.heap.push { cls:=.type "tuple",data:=.seq (vs++ws).toArray } })
  (hsz:vs.length+ws.length≤sizeLine):wpAny (model prog w) A (binaryOp .Add (.ref t) (.ref b)) Q E s:=by
 obtain⟨⟨cls,dd,data,sl⟩,ho,hc,n,hd⟩:=id ht
 obtain⟨⟨cls2,dd2,data2,sl2⟩,ho2,hc2,n2,hd2⟩:=id hb
 simp only at hc hd hc2 hd2
 subst hc hd hc2 hd2
 have e:vs.toArray++ws.toArray=(vs++ws).toArray:=by simp
 by_cases hw:ws=[]
 ·exact concat_meets ⟨_,ho,rfl⟩ ⟨_,ho2,rfl⟩ noFill_tuple_add seq_tuple_add PySem.F.slot_tuple_add PySem.F.entry_tuple_add (PySem.F.args_tuple_add_2 _ _)
   (tuple_addW1 t b vs.toArray ws.toArray n n2 dd dd2 sl sl2 (by simpa using hv) (by simp[hw])) ⟨ho,ho2,h1 hw⟩
 ·refine concat_meets ⟨_,ho,rfl⟩ ⟨_,ho2,rfl⟩ noFill_tuple_add seq_tuple_add PySem.F.slot_tuple_add PySem.F.entry_tuple_add (PySem.F.args_tuple_add_2 _ _)
   (tuple_addW2 t b vs.toArray ws.toArray n n2 dd dd2 sl sl2 (by simpa using hv) (by simpa using hw) (by rw[List.size_toArray,List.size_toArray];exact hsz)) ⟨ho,ho2,?_⟩
  rw[e]
  exact h2 hw
def sIx(n d:Nat):Option Int→Nat
 | none=>d
 | some v=>if v<0 then(v+(n:Int)).toNat else min v.toNat n
theorem sIx_nat(n d k:Nat):sIx n d (some (k:Int))=min k n:=by
 show(if(k:Int)<0 then((k:Int)+(n:Int)).toNat else min (k:Int).toNat n)=min k n
 rw[if_neg (by omega),Int.toNat_natCast]
theorem ar0(n d:Nat)(hd:d≤n)(o:Option Int):sIx n d o≤n:=by
 cases o with
 | none=>exact hd
 | some v=>
  show(if v<0 then(v+(n:Int)).toNat else min v.toNat n)≤n
  by_cases hv:v<0
  ·rw[if_pos hv];omega
  ·rw[if_neg hv];exact Nat.min_le_right _ _
theorem air(v:Int)(n d:Nat):(if v<0 then max (v+(n:Int)) 0 else min v (n:Int))=((sIx n d (some v):Nat):Int):=by
 show(if v<0 then max (v+(n:Int)) 0 else min v (n:Int))=(((if v<0 then(v+(n:Int)).toNat else min v.toNat n):Nat):Int)
 by_cases hv:v<0
 ·simp only[if_pos hv];omega
 ·simp only[if_neg hv];omega
theorem agP(lo hi:Option Int)(n:Nat):Builtin.Slice.sliceAdjust lo hi 1 (n:Int)=(((sIx n 0 lo:Nat):Int),((sIx n n hi:Nat):Int)):=by
 have h1:¬((1:Int)<0):=by omega
 unfold Builtin.Slice.sliceAdjust
 simp only[h1,if_false]
 refine Prod.ext ?_ ?_
 ·cases lo with
  | none=>rfl
  | some v=>exact air v n 0
 ·cases hi with
  | none=>rfl
  | some v=>exact air v n n
theorem agQ(i j:Nat):Builtin.Slice.slicePlaces (i:Int) (j:Int) 1=j-i:=by
 unfold Builtin.Slice.slicePlaces
 have h1:(1:Int)>0:=by omega
 simp only[h1,if_true,Int.ediv_one]
 split<;>omega
theorem ad7{v:Value}{o:Option Int}{Q:Option Int→Shared→Prop}(p:IsPart v o)(h:Q o s):wpAny (model prog w) A (Builtin.Slice.slicePartIndex v) Q E s:=by
 cases p with
 | none=>exact slicePart_none h
 | int i t=>exact slicePart_int h
theorem ac9{sl:Addr}{vl vu:Value}{lo hi:Option Int}{n:Nat}{Q:Int×Int×Nat→Shared→Prop}(hs:s.heap.IsSliceOf sl vl vu .none)(pl:IsPart vl lo)(pu:IsPart vu hi)
  (h:Q (((sIx n 0 lo:Nat):Int),1,sIx n n hi-sIx n 0 lo) s):wpAny (model prog w) A (Builtin.Slice.sliceApplied (.ref sl) (pure (n:Int))) Q E s:=by
 obtain⟨os,hos,hcs,hds⟩:=id hs
 unfold Builtin.Slice.sliceApplied Builtin.Slice.sliceFields
 refine wpAny_bind (wpAny_bind (wpAny_field hos hds (x:=vl) rfl (wpAny_bind (wpAny_field hos hds (x:=vu) rfl (wpAny_bind (wpAny_field hos hds (x:=.none) rfl (wpAny_pure ?_)))))))
 refine wpAny_bind (slicePart_none ?_)
 show wpAny _ _ (if((1:Int)==0)=true then _ else _) _ _ s
 rw[if_neg (by decide)]
 refine wpAny_bind (ad7 pl (wpAny_bind (ad7 pu (wpAny_bind (wpAny_pure ?_)))))
 show wpAny _ _ (match Builtin.Slice.sliceAdjust lo hi 1 (n:Int)with|(lo,hi)=>pure (lo,(1:Int),Builtin.Slice.slicePlaces lo hi 1)) _ _ s
 rw[agP lo hi n]
 show wpAny _ _ (pure (((sIx n 0 lo:Nat):Int),(1:Int),Builtin.Slice.slicePlaces ((sIx n 0 lo:Nat):Int) ((sIx n n hi:Nat):Int) 1)) _ _ s
 rw[agQ]
 exact wpAny_pure h
theorem ajA(xs:Array Value)(i k:Nat):((List.range k).filterMap fun(m:Nat)=>xs[((i:Int)+(m:Int)*1).toNat]?).toArray=((xs.toList.drop i).take k).toArray:=by
 have e:(fun(m:Nat)=>xs[((i:Int)+(m:Int)*1).toNat]?)=fun m=>xs[i+m]?:=by
  funext m
  have:((i:Int)+(m:Int)*1).toNat=i+m:=by omega
  rw[this]
 rw[e]
 have:=pick_run xs i k
 rw[List.filterMap_map]at this
 have e2:((fun x=>xs[x]?)∘fun x=>i+x)=fun m=>xs[i+m]?:=rfl
 rw[e2]at this
 rw[this]
theorem getItem_tuple_cut{t sl:Addr}{items:Array Value}{vl vu:Value}{lo hi:Option Int}{Q:Value→Shared→Prop}(ht:IsTup s.heap t items)(hs:s.heap.IsSliceOf sl vl vu .none)(pl:IsPart vl lo)(pu:IsPart vu hi)
  (hw:¬(sIx items.size 0 lo=0∧sIx items.size items.size hi=items.size))
  (h:Q (.ref s.heap.objs.size) { s with heap:=s.heap.push { cls:=.type "tuple",data:=.seq ((items.toList.drop (sIx items.size 0 lo)).take (sIx items.size items.size hi-sIx items.size 0 lo)).toArray } })
  (hsz:items.size≤sizeLine):wpAny (model prog w) A (getItem (.ref t) (.ref sl)) Q E s:=by
 have htake:sizeOk (.seq ((items.toList.drop (sIx items.size 0 lo)).take (sIx items.size items.size hi-sIx items.size 0 lo)).toArray):=by
  show((items.toList.drop (sIx items.size 0 lo)).take (sIx items.size items.size hi-sIx items.size 0 lo)).toArray.size≤sizeLine
  rw[List.size_toArray,List.length_take,List.length_drop,Array.length_toList]
  omega
 have hj:sIx items.size items.size hi≤items.size:=ar0 _ _ (Nat.le_refl _) hi
 obtain⟨os,hos,hcs,hds⟩:=id hs
 have hTs:s.TypeIs (.ref sl) "slice":=⟨os,hos,hcs⟩
 unfold getItem
 try with_reducible refine wpAny_holding ?_
 first|refine wpAny_bind (wpAny_pure ?_)|skip
 refine wpAny_bind (wpAny_sequenceKey ht.typeIs (by decide) ?_)
 refine wpAny_bind (wpAny_callSpecial?_slot (name:=Str.ofString "__getitem__") ht.typeIs PyProof.Rows.slot_tuple_getitem
  (wpAny_call_entry PyProof.Rows.slot_tuple_getitem ht.typeIs entry_tuple_getitem ?_ (args_tuple_getitem _ _)))
 show wpAny _ _ (Builtin.Tuple.tupleItemsOf (.ref t) >>= _) _ _ s
 refine wpAny_bind (tupleItemsOf_ ht ?_)
 refine wpAny_bind (wpAny_typeOf hTs ?_)
 rw[if_pos (by decide)]
 refine wpAny_bind (ac9 hs pl pu ?_)
 have hno:¬((((sIx items.size 0 lo:Nat):Int)==0&&(1:Int)==1&&(sIx items.size items.size hi-sIx items.size 0 lo)==items.size)=true):=by
  intro q
  rw[Bool.and_eq_true,Bool.and_eq_true]at q
  have q1:((sIx items.size 0 lo:Nat):Int)=0:=eq_of_beq q.1.1
  have q2:sIx items.size items.size hi-sIx items.size 0 lo=items.size:=eq_of_beq q.2
  exact hw ⟨by omega,by omega⟩
 show wpAny _ _ (if(((sIx items.size 0 lo:Nat):Int)==0&&(1:Int)==1&&(sIx items.size items.size hi-sIx items.size 0 lo)==items.size)=true then _ else _) _ _ s
 rw[if_neg hno,ajA]
 first
  | exact wpAny_bind (m:=Builtin.Tuple.tupleExact _) (wpAny_newObj_type (wpAny_pure ⟨_,rfl,wpAny_pure h⟩) htake)
  | exact wpAny_bind (m:=Builtin.Tuple.tupleExact _) (wpAny_newObj_type (wpAny_bind (wpAny_pure (wpAny_pure ⟨_,rfl,wpAny_pure h⟩))) htake)
  | exact wpAny_bind (wpAny_bind (m:=Builtin.Tuple.tupleExact _) (wpAny_newObj_type (wpAny_pure (wpAny_pure ⟨_,rfl,wpAny_pure h⟩)) htake))
  | exact wpAny_bind (wpAny_bind (m:=Builtin.Tuple.tupleExact _) (wpAny_newObj_type (wpAny_pure ⟨_,rfl,wpAny_pure h⟩) htake))
end
end HT
namespace L2
open PySem PySem.Spec PyProof.Rows
abbrev TO:=St→Hp→(Option Int→Hp→Prop)→Prop
def PO(X:Cx)(e:Option Expr)(t:TO):Prop:=
 ∀(pins:List (Addr×Obj)) (s:Shared) (σ:St) (H:Hp) (Q:Option Int→Hp→Prop),Inv X pins σ H s→t σ H Q→
  wpAny (model X.prog X.w) X.A (evalPart e X.env) (fun u s'=>∃o H',Inv X pins σ H' s'∧IsPart u o∧Q o H') X.xe s
def amE:TO:=fun _ H Q=>Q none H
def auf(t:TE):TO:=fun σ H Q=>t σ H fun x H1=>∃i,x=.int i∧Q (some i) H1
section
variable{X:Cx}{e:Expr}{te:TE}{lo hi:Option Expr}{tl th:TO}{pos p2:Pos}
theorem ait:PO X none amE:=by
 intro pins s σ H Q I h
 rw[evalPart_none]
 exact wpAny_pure ⟨none,H,I,.none,h⟩
theorem ah0(h:PE X e te):PO X (some e) (auf te):=by
 intro pins s σ H Q I hw
 rw[evalPart_some]
 refine thn (h pins s σ H _ I hw) fun u s1 ⟨x,H1,I1,r1,q1⟩=>?_
 obtain⟨i,rfl,q⟩:=q1
 obtain⟨t,rfl⟩:=r1
 exact⟨some i,H1,I1,.int i t,q⟩
def SlR(X:Cx)(r:V→Option Int→Option Int→Hp→VK→Prop):Prop:=
 ∀(pins:List (Addr×Obj)) (s:Shared) (σ:St) (H:Hp) (x:V) (v vl vu:Value) (lo hi:Option Int) (sl:Addr) (Q:VK),Inv X pins σ H s→aaF x v→s.heap.IsSliceOf sl vl vu .none→IsPart vl lo→IsPart vu hi→r x lo hi H Q→
  ∃T id,typeLookup (.type T) "__getitem__"=pure (some (.builtin id))∧s.TypeIs v T∧wpAny (model X.prog X.w) X.A (getItem v (.ref sl)) (EP X pins σ Q) X.xe s
theorem SlR.or{r r':V→Option Int→Option Int→Hp→VK→Prop}(h:SlR X r)(h':SlR X r'):SlR X (fun x lo hi H Q=>r x lo hi H Q∨r' x lo hi H Q):=by
 intro pins s σ H x v vl vu lo hi sl Q I rx hs pl pu q
 rcases q with q|q
 ·exact h pins s σ H x v vl vu lo hi sl Q I rx hs pl pu q
 ·exact h' pins s σ H x v vl vu lo hi sl Q I rx hs pl pu q
def tSl(r:V→Option Int→Option Int→Hp→VK→Prop)(te:TE)(tl th:TO):TE:=fun σ H Q=>te σ H fun x H1=>tl σ H1 fun l H2=>th σ H2 fun u H3=>r x l u H3 Q
theorem agk{r:V→Option Int→Option Int→Hp→VK→Prop}(hr:SlR X r)(he:PE X e te)(hl:PO X lo tl)(hu:PO X hi th):PE X (.Subscript e (.Slice lo hi none p2) pos) (tSl r te tl th):=by
 intro pins s σ H Q I h
 refine Subscript_ (thn (he pins s σ H _ I h) fun v s1 ⟨x,H1,I1,r1,q1⟩=>?_)
 refine wpAny_Slice (thn (hl pins s1 σ H1 _ I1 q1) fun vl s2 ⟨l,H2,I2,pl,q2⟩=>thn (hu pins s2 σ H2 _ I2 q2) fun vu s3 ⟨u,H3,I3,pu,q3⟩=>?_)
 rw[evalPart_none]
 refine wpAny_pure ?_
 have I4:Inv X pins σ H3 { s3 with heap:=s3.heap.push { cls:=.type "slice",data:=.fields #[vl,vu,.none] } }:=I3.kept (t':=s3.toks) fun b ob q=>Heap.get?_push_of_some _ q
 obtain⟨T,id,hT,ht,hg⟩:=hr pins { s3 with heap:=s3.heap.push { cls:=.type "slice",data:=.fields #[vl,vu,.none] } } σ H3 x v vl vu l u s3.heap.objs.size Q I4 r1 (Heap.IsSliceOf.new ..) pl pu q3
 show wpAny (model X.prog X.w) X.A (subscriptTail e (.Slice lo hi none p2) v (.ref s3.heap.objs.size)) (EP X pins σ Q) X.xe { s3 with heap:=s3.heap.push { cls:=.type "slice",data:=.fields #[vl,vu,.none] } }
 exact tail_any (ops:=[.ref s3.heap.objs.size,v]) ht hT hg (by with_unfolding_all rfl)
def alp(xs:List V)(lo hi:Option Int):List V:=(xs.drop (HT.sIx xs.length 0 lo)).take (HT.sIx xs.length xs.length hi-HT.sIx xs.length 0 lo)
theorem adi(xs:List V)(lo hi:Option Int):(alp xs lo hi).length≤xs.length:=by
 unfold alp
 rw[List.length_take,List.length_drop]
 omega
def axS(K:PySem.W.Frag):V→Option Int→Option Int→Hp→VK→Prop:=fun x lo hi H Q=>∃a xs,x=.ref a∧SqT K H a xs∧
 ¬(HT.sIx xs.length 0 lo=0∧HT.sIx xs.length xs.length hi=xs.length)∧∀p,H p=none→Q (.ref p) (upd H p (.tup (alp xs lo hi)))
theorem aq3:SlR X (axS X.K):=by
 intro pins s σ H x v vl vu lo hi sl Q I rx hs pl pu h
 obtain⟨a,xs,rfl,hx,hw,q⟩:=h
 cases rx
 obtain⟨its,r,ht,hz⟩:=I.tuple hx
 have hlen:its.toArray.size=xs.length:=by rw[List.size_toArray];exact r.length.symm
 refine⟨"tuple",_,PyProof.Rows.slot_tuple_getitem.lookup,ht.typeIs,?_⟩
 refine HT.getItem_tuple_cut ht hs pl pu (by rw[hlen];exact hw) ?_ (by rw[hlen];exact hz)
 rw[hlen]
 refine⟨.ref s.heap.objs.size,_,I.laid (t':=s.toks) (o:=.tup (alp xs lo hi)) (fun b ob q=>Heap.get?_push_of_some _ q) (Nat.le_refl _) ?_,rfl,q _ (I.hok.fresh (Nat.le_refl _))⟩
 exact⟨Nat.le_trans (adi xs lo hi) hz,_,(r.drop (HT.sIx xs.length 0 lo)).take (HT.sIx xs.length xs.length hi-HT.sIx xs.length 0 lo),IsTup.new _ _⟩
def aty(K:PySem.W.Frag):R2:=fun x y H Q=>∃a b xs ys,x=.ref a∧y=.ref b∧SqT K H a xs∧SqT K H b ys∧xs≠[]∧xs.length+ys.length≤sizeLine∧
 (ys=[]→Q (.ref a) H)∧(ys≠[]→∀p,H p=none→Q (.ref p) (upd H p (.tup (xs++ys))))
theorem Vals.nil_iff{xs:List V}{us:List Value}(r:Vals xs us):us=[]↔xs=[]:=by
 cases r with
 | nil=>simp
 | cons _ _=>simp
theorem amS:OpR X (binaryOp .Add) (aty X.K):=by
 intro pins s σ H x y v u Q I rx ry h
 obtain⟨a,b,xs,ys,rfl,rfl,ha,hb,hx,hz,q1,q2⟩:=h
 cases rx
 cases ry
 obtain⟨its,r1,p1,_⟩:=I.tuple ha
 obtain⟨its2,r2,p2,_⟩:=I.tuple hb
 refine HT.cat_tup p1 p2 (fun z=>hx (r1.nil_iff.mp z)) (fun z=>⟨.ref a,H,I,rfl,q1 (r2.nil_iff.mp z)⟩) (fun z=>?_) (by rw[←r1.length,←r2.length];exact hz)
 refine⟨.ref s.heap.objs.size,_,I.laid (t':=s.toks) (o:=.tup (xs++ys)) (fun b ob q=>Heap.get?_push_of_some _ q) (Nat.le_refl _) ?_,rfl,q2 (fun w=>z (r2.nil_iff.mpr w)) _ (I.hok.fresh (Nat.le_refl _))⟩
 exact⟨by rw[List.length_append];exact hz,_,r1.append r2,IsTup.new _ _⟩
end
end L2
namespace L2
open PySem PySem.Spec PyProof.Rows
def ixN(n:Nat)(i:Int):Option Nat:=if 0≤i then(if i<n then some i.toNat else none)else if -(n:Int)≤i then some (i+n).toNat else none
def atI{α:Type}(xs:List α)(i:Int):Option α:=(ixN xs.length i).bind fun j=>xs[j]?
theorem ai7{n:Nat}{i:Int}{j:Nat}(h:ixN n i=some j):seqIndex? i n=some j∧j<n∧-(n:Int)≤i∧i<n:=by
 unfold ixN at h
 by_cases h0:0≤i
 ·rw[if_pos h0]at h
  by_cases h1:i<n
  ·rw[if_pos h1]at h
   have e:i.toNat=j:=Option.some.inj h
   exact⟨by rw[seqIndex_of h0 h1,e],by omega,by omega,h1⟩
  ·rw[if_neg h1]at h;cases h
 ·rw[if_neg h0]at h
  by_cases h1:-(n:Int)≤i
  ·rw[if_pos h1]at h
   have e:(i+n).toNat=j:=Option.some.inj h
   exact⟨by rw[seqIndex_neg (by omega) h1,e],by omega,h1,by omega⟩
  ·rw[if_neg h1]at h;cases h
theorem afA{α:Type}{xs:List α}{i:Int}{v:α}(h:atI xs i=some v):∃j,seqIndex? i xs.length=some j∧xs[j]?=some v∧j<xs.length∧-(xs.length:Int)≤i∧i<xs.length:=by
 unfold atI at h
 cases e:ixN xs.length i with
 | none=>rw[e]at h;cases h
 | some j=>
  rw[e]at h
  obtain⟨h1,h2,h3,h4⟩:=ai7 e
  exact⟨j,h1,h,h2,h3,h4⟩
def afu(b:Expr):Prop:=∀o i,subscripted b false o i=operate [o,i] (getItem o i)
def IxR(X:Cx)(r:R2):Prop:=
 ∀(value slice:Expr) (pins:List (Addr×Obj)) (s:Shared) (σ:St) (H:Hp) (x y:V) (v u:Value) (Q:VK),Inv X pins σ H s→aaF x v→aaF y u→r x y H Q→
  subscripted slice false v u=operate [v,u] (getItem v u)→wpAny (model X.prog X.w) X.A (subscriptTail value slice v u) (EP X pins σ Q) X.xe s
def MtR(X:Cx)(id:String)(r:V→List V→Hp→VK→Prop):Prop:=
 ∀(pins:List (Addr×Obj)) (s:Shared) (σ:St) (H:Hp) (x:V) (xs:List V) (v:Value) (us:List Value) (Q:VK),Inv X pins σ H s→aaF x v→Vals xs us→r x xs H Q→
  wpAny (model X.prog X.w) X.A (call (.builtin id) (v::us)) (EP X pins σ Q) X.xe s
section
variable{X:Cx}{a b:Expr}{ta tb:TE}{pos:Pos}
theorem IxR.or{r r':R2}(h:IxR X r)(h':IxR X r'):IxR X (fun x y H Q=>r x y H Q∨r' x y H Q):=by
 intro value slice pins s σ H x y v u Q I rx ry q hs
 rcases q with q|q
 ·exact h value slice pins s σ H x y v u Q I rx ry q hs
 ·exact h' value slice pins s σ H x y v u Q I rx ry q hs
theorem MtR.or{id:String}{r r':V→List V→Hp→VK→Prop}(h:MtR X id r)(h':MtR X id r'):MtR X id (fun x xs H Q=>r x xs H Q∨r' x xs H Q):=by
 intro pins s σ H x xs v us Q I rx rs q
 rcases q with q|q
 ·exact h pins s σ H x xs v us Q I rx rs q
 ·exact h' pins s σ H x xs v us Q I rx rs q
theorem au4{r:R2}(hr:IxR X r)(ha:PE X a ta)(hb:PE X b tb)(hs:afu b):PE X (.Subscript a b pos) (tOp r ta tb):=by
 intro pins s σ H Q I h
 exact Subscript_ (asW ha hb I h fun v u s2 x y H2 I2 rx ry q=>hr a b pins s2 σ H2 x y v u Q I2 rx ry q (hs _ _))
def awF(K:PySem.W.Frag):R2:=fun x y H Q=>∃p xs i v,x=.ref p∧y=.int i∧SqL K H p xs∧atI xs i=some v∧Q v H
def awo(K:PySem.W.Frag):R2:=fun x y H Q=>∃p xs i v,x=.ref p∧y=.int i∧SqT K H p xs∧atI xs i=some v∧Q v H
def avG:R2:=fun x y H Q=>∃z i c,x=.str z∧y=.int i∧z.length≤sizeLine∧atI z.cps.toList i=some c∧Q (.str ⟨#[c]⟩) H
theorem anx:IxR X (awF X.K):=by
 intro value slice pins s σ H x y v u Q I rx ry h hs
 obtain⟨p,xs,i,z,rfl,rfl,hq,he,q⟩:=h
 cases rx
 obtain⟨t,rfl⟩:=ry
 obtain⟨its,r,pl,hz⟩:=I.list hq
 obtain⟨j,h1,h2,h3,h4,h5⟩:=afA he
 obtain⟨w,ew,rw'⟩:=r.get h2
 have hl:=r.length
 have hn:=ad4
 have fin:EP X pins σ Q w s:=⟨z,H,I,rw',q⟩
 by_cases h0:0≤i
 ·have hj:i.toNat=j:=by
   rw[seqIndex_of h0 h5]at h1
   exact Option.some.inj h1
  exact item_listR pl.isList h0 (by omega) (by rw[hj];simpa using ew) fin hs
 ·have hj:(i+(its.toArray.size:Int)).toNat=j:=by
   rw[seqIndex_neg (by omega) h4]at h1
   rw[List.size_toArray,←hl]
   exact Option.some.inj h1
  exact subscriptTail_builtinR (x:=w) pl.isList.typeIs slot_list_getitem.lookup
   (wpAny_getItem_list_neg (Q:=fun r s'=>r=w∧EP X pins σ Q r s') pl.isList (by omega) (by rw[List.size_toArray]<;>omega) (by omega) (by rw[hj];simpa using ew) ⟨rfl,fin⟩) hs
theorem aqz:IxR X (awo X.K):=by
 intro value slice pins s σ H x y v u Q I rx ry h hs
 obtain⟨p,xs,i,z,rfl,rfl,hq,he,q⟩:=h
 cases rx
 obtain⟨t,rfl⟩:=ry
 obtain⟨its,r,pl,hz⟩:=I.tuple hq
 obtain⟨j,h1,h2,h3,h4,h5⟩:=afA he
 obtain⟨w,ew,rw'⟩:=r.get h2
 have hl:=r.length
 have hn:=ad4
 have fin:EP X pins σ Q w s:=⟨z,H,I,rw',q⟩
 exact subscriptTail_builtinR (x:=w) pl.typeIs slot_tuple_getitem.lookup
  (getItem_tuple (j:=j) (Q:=fun r s'=>r=w∧EP X pins σ Q r s') pl (by omega) (by omega) (by rw[List.size_toArray,←hl];exact h1) (by simpa using ew) ⟨rfl,fin⟩) hs
theorem apq:IxR X avG:=by
 intro value slice pins s σ H x y v u Q I rx ry h hs
 obtain⟨z,i,c,rfl,rfl,hz,he,q⟩:=h
 obtain⟨t,rfl⟩:=rx
 obtain⟨t',rfl⟩:=ry
 obtain⟨j,h1,h2,h3,h4,h5⟩:=afA he
 have hl:z.cps.toList.length=z.length:=by simp[Str.length]
 rw[hl]at h1 h4 h5
 have hn:=ad4
 exact tail_any (typeIs_str s z t) slot_str_getitem.lookup (getItem_str (c:=c) (by
  have e1:decide (i < -(2^63:Int))=false:=decide_eq_false (by omega)
  have e2:decide (i≥2^63)=false:=decide_eq_false (by omega)
  rw[e1,e2,Bool.or_false]) (by rw[h1];simpa using h2) ⟨.str ⟨#[c]⟩,H,I.tok _,⟨_,rfl⟩,q⟩) hs
def rIx(K:PySem.W.Frag):R2:=fun x y H Q=>awF K x y H Q∨awo K x y H Q∨avG x y H Q
theorem ape:IxR X (rIx X.K):=anx.or (aqz.or apq)
theorem aho(its:List Value)(n j:Nat)(u:Value):Obj.mapSeq (·.setIfInBounds j u) { cls:=.type "list",data:=.seq its.toArray n }={ cls:=.type "list",data:=.seq (its.set j u).toArray n }:=by
 simp[Obj.mapSeq]
theorem Inv.lst{pins:List (Addr×Obj)}{σ:St}{H:Hp}{s:Shared}{p:Addr}{xs:List V}(I:Inv X pins σ H s)(h:H p=some (.lst xs)):
  ∃(its:List Value) (n:Nat),Vals xs its∧s.heap.get? p=some { cls:=.type "list",data:=.seq its.toArray n }∧xs.length≤sizeLine:=by
 obtain⟨z,its,n,r,e⟩:=I.hok p _ h
 exact⟨its,n,r,e,z⟩
theorem Inv.lstUpd{pins:List (Addr×Obj)}{σ:St}{H:Hp}{s:Shared}{p:Addr}{xs ys:List V}{its its':List Value}{n n':Nat}{f:Obj→Obj}(I:Inv X pins σ H s)(h:H p=some (.lst xs))
  (ho:s.heap.get? p=some { cls:=.type "list",data:=.seq its.toArray n }) (hf:f { cls:=.type "list",data:=.seq its.toArray n }={ cls:=.type "list",data:=.seq its'.toArray n' }) (r:Vals ys its') (hz:ys.length≤sizeLine) (t:Nat):
  Inv X pins σ (upd H p (.lst ys)) { s with heap:=s.heap.update p f,toks:=t }:=by
 have e:(s.heap.update p f).get? p=some { cls:=.type "list",data:=.seq its'.toArray n' }:=by
  rw[Heap.get?_update_self f ho (by rw[hf]<;>rfl),hf]
 refine I.write (x:=p) (e:=p) (by rw[h];trivial) (.inl rfl) (fun b u hb q=>(Heap.get?_update_other _ _ (Ne.symm hb)).trans q) ⟨_,e⟩ ?_
 exact⟨hz,its',n',r,e⟩
def au1:V→V→V→Hp→(Hp→Prop)→Prop:=fun o i v H Q=>∃p xs k j,o=.ref p∧i=.int k∧H p=some (.lst xs)∧ixN xs.length k=some j∧Q (upd H p (.lst (xs.set j v)))
theorem ajC:axj X au1:=by
 intro pins s σ H o i v ov iv u Q I ro ri rv h
 obtain⟨p,xs,k,j,rfl,rfl,hp,hj,q⟩:=h
 cases ro
 obtain⟨t,rfl⟩:=ri
 obtain⟨its,n,r,ho,hz⟩:=I.lst hp
 obtain⟨h1,h2,h3,h4⟩:=ai7 hj
 have hl:=r.length
 have hn:=ad4
 have I':Inv X pins σ (upd H p (.lst (xs.set j v))) { s with heap:=s.heap.update p (Obj.mapSeq (·.setIfInBounds j u)) }:=
  I.lstUpd hp ho (aho its n j u) (r.set rv j) (by rw[List.length_set];exact hz) s.toks
 by_cases h0:0≤k
 ·have hk:k.toNat=j:=by
   rw[seqIndex_of h0 h4]at h1
   exact Option.some.inj h1
  exact PySem.W.ki_setAt ho h0 (by omega) (by rw[List.size_toArray,←hl];exact h4) (by rw[hk];exact⟨_,I',q⟩)
 ·have hk:(k+(its.toArray.size:Int)).toNat=j:=by
   rw[seqIndex_neg (by omega) h3]at h1
   rw[List.size_toArray,←hl]
   exact Option.some.inj h1
  exact PySem.W.ki_setBack ho (by omega) (by rw[List.size_toArray,←hl];exact h3) (by omega) (by rw[hk];exact⟨_,I',q⟩)
theorem aeI(lo hi:Option Int)(n:Nat):(sliceBounds lo hi none n).1=((HT.sIx n 0 lo:Nat):Int)∧(sliceBounds lo hi none n).2.1=((HT.sIx n n hi:Nat):Int)∧(sliceBounds lo hi none n).2.2=1:=by
 refine⟨?_,?_,rfl⟩
 ·cases lo with
  | none=>simp[sliceBounds,HT.sIx]
  | some i=>
   simp only[sliceBounds,HT.sIx,Option.getD_none,show(1:Int)>0 by decide,if_true]
   by_cases h:i<0
   ·simp only[h,if_true]<;>omega
   ·simp only[h,if_false]<;>omega
 ·cases hi with
  | none=>simp[sliceBounds,HT.sIx]
  | some i=>
   simp only[sliceBounds,HT.sIx,Option.getD_none,show(1:Int)>0 by decide,if_true]
   by_cases h:i<0
   ·simp only[h,if_true]<;>omega
   ·simp only[h,if_false]<;>omega
theorem adP(its:List Value)(lo hi:Option Int):slicePick its.toArray lo hi none=((its.drop (HT.sIx its.length 0 lo)).take (HT.sIx its.length its.length hi-HT.sIx its.length 0 lo)).toArray:=by
 obtain⟨h1,h2,h3⟩:=aeI lo hi its.toArray.size
 unfold slicePick
 rw[h1,h2,h3]
 simp only[sliceRange_one,pick_run,List.size_toArray]<;>rfl
def ayh(K:PySem.W.Frag):V→Option Int→Option Int→Hp→VK→Prop:=fun x lo hi H Q=>∃a xs,x=.ref a∧SqL K H a xs∧∀p,H p=none→Q (.ref p) (upd H p (.lst (alp xs lo hi)))
theorem ang:SlR X (ayh X.K):=by
 intro pins s σ H x v vl vu lo hi sl Q I rx hs pl pu h
 obtain⟨a,xs,rfl,hx,q⟩:=h
 cases rx
 obtain⟨its,r,ht,hz⟩:=I.list hx
 have hlen:=r.length
 refine⟨"list",_,slot_list_getitem.lookup,ht.isList.typeIs,?_⟩
 refine wpAny_getItem_list_slice ht.isList hs pl pu .none (by simp) ?_ (by rw[List.size_toArray]<;>omega)
 rw[adP,←hlen]
 refine⟨.ref s.heap.objs.size,_,I.laid (t':=s.toks) (o:=.lst (alp xs lo hi)) (fun b ob q=>Heap.get?_push_of_some _ q) (Nat.le_refl _) ?_,rfl,q _ (I.hok.fresh (Nat.le_refl _))⟩
 exact⟨Nat.le_trans (adi xs lo hi) hz,_,0,(r.drop (HT.sIx xs.length 0 lo)).take (HT.sIx xs.length xs.length hi-HT.sIx xs.length 0 lo),Heap.get?_push_size _ rfl⟩
theorem aeG:aaA X (.builtin "len") (fun xs H Q=>∃p ys,xs=[.ref p]∧(SqL X.K H p ys∨SqT X.K H p ys)∧Q (.int ys.length) H):=by
 intro pins s σ H xs us Q I r h
 obtain⟨p,ys,rfl,hq,q⟩:=h
 obtain⟨u,rfl,rx⟩:=agT r
 cases rx
 have hn:=ad4
 rcases hq with hq|hq
 ·obtain⟨its,r',pl,hz⟩:=I.list hq
  have hlen:=r'.length
  exact Calls.call_len_list pl.isList (by simp only[List.size_toArray]<;>omega) ⟨.int ys.length,H,I.tok _,⟨s.toks+1,by rw[List.size_toArray,hlen]⟩,q⟩
 ·obtain⟨its,r',pl,hz⟩:=I.tuple hq
  have hlen:=r'.length
  exact len_tuple pl (by simp only[List.size_toArray]<;>omega) ⟨.int ys.length,H,I.tok _,⟨s.toks+1,by rw[List.size_toArray,hlen]⟩,q⟩
theorem aaA.or{f:Value}{r r':List V→Hp→VK→Prop}(h:aaA X f r)(h':aaA X f r'):aaA X f (fun xs H Q=>r xs H Q∨r' xs H Q):=by
 intro pins s σ H xs us Q I rs q
 rcases q with q|q
 ·exact h pins s σ H xs us Q I rs q
 ·exact h' pins s σ H xs us Q I rs q
theorem ac2:aaA X (.type "list") (fun xs H Q=>∃p ys,xs=[.ref p]∧(SqL X.K H p ys∨SqT X.K H p ys)∧∀l,H l=none→Q (.ref l) (upd H l (.lst ys))):=by
 intro pins s σ H xs us Q I r h
 obtain⟨p,ys,rfl,hq,q⟩:=h
 obtain⟨u,rfl,rx⟩:=agT r
 cases rx
 have fin:∀(its:List Value),Vals ys its→ys.length≤sizeLine→∀(h':Heap) (c':Nat),(∀b o',s.heap.get? b=some o'→h'.get? b=some o')→
   h'.get? s.heap.objs.size=some { cls:=.type "list",dict:=none,data:=.seq its.toArray c',slots:=#[] }→EP X pins σ Q (.ref s.heap.objs.size) { s with heap:=h' }:=fun its r' hz h' c' kp e=>
  ⟨.ref s.heap.objs.size,_,I.laid (t':=s.toks) kp (Nat.le_refl _) (show abt X.prog X.w _ h' _ (.lst ys)from⟨hz,its,c',r',e⟩),rfl,q _ (I.hok.fresh (Nat.le_refl _))⟩
 rcases hq with hq|hq
 ·obtain⟨its,r',pl,hz⟩:=I.list hq
  have hlen:=r'.length
  obtain⟨o,ho,hc,n,hd⟩:=pl.isList
  exact call_list_seq p (.inl rfl) ho hc hd (fun h' c' kp e=>fin its r' hz h' c' kp e) (by simp only[List.size_toArray]<;>omega)
 ·obtain⟨its,r',pl,hz⟩:=I.tuple hq
  have hlen:=r'.length
  obtain⟨o,ho,hc,n,hd⟩:=pl
  exact call_list_seq p (.inr rfl) ho hc hd (fun h' c' kp e=>fin its r' hz h' c' kp e) (by simp only[List.size_toArray]<;>omega)
theorem adU:aaA X (.type "tuple") (fun xs H Q=>∃p ys,xs=[.ref p]∧((SqL X.K H p ys∧∀l,H l=none→Q (.ref l) (upd H l (.tup ys)))∨(SqT X.K H p ys∧Q (.ref p) H))):=by
 intro pins s σ H xs us Q I r h
 obtain⟨p,ys,rfl,h⟩:=h
 obtain⟨u,rfl,rx⟩:=agT r
 cases rx
 rcases h with⟨hq,q⟩|⟨hq,q⟩
 ·obtain⟨its,r',pl,hz⟩:=I.list hq
  have hlen:=r'.length
  refine call_tuple_list pl.isList (fun h' kp=>?_) (by simp only[List.size_toArray]<;>omega)
  have I1:Inv X pins σ H { s with heap:=h' }:=I.kept (t':=s.toks) kp
  have I2:Inv X pins σ (upd H h'.objs.size (.tup ys)) { s with heap:=h'.push { cls:=.type "tuple",data:=.seq its.toArray } }:=
   I1.laid (t':=s.toks) (fun b o e=>Heap.get?_push_of_some _ e) (Nat.le_refl _) (show abt X.prog X.w _ _ _ (.tup ys)from⟨hz,its,r',IsTup.new _ _⟩)
  exact⟨.ref h'.objs.size,_,I2,rfl,q _ (I1.hok.fresh (Nat.le_refl _))⟩
 ·obtain⟨its,r',pl,hz⟩:=I.tuple hq
  exact call_tuple_same pl ⟨.ref p,H,I,rfl,q⟩
def tyV(K:PySem.W.Frag)(T:String)(x:V)(H:Hp):Prop:=match x with
 | .str _=>T="str"
 | .int _=>T="int"
 | .ref p=>(T="list"∧∃xs,SqL K H p xs)∨(T="tuple"∧∃o,K.lookup p=some o∧o.cls=.type "tuple"∧o.dict=none)∨
   (T="dict"∧((∃kvs,H p=some (.dK kvs))∨∃kvs,H p=some (.dT kvs)))∨(T="set"∧∃S n,H p=some (.set S n))
 | _=>False
theorem aoa{pins:List (Addr×Obj)}{σ:St}{H:Hp}{s:Shared}{T:String}{x:V}{v:Value}(I:Inv X pins σ H s)(r:aaF x v)(ty:tyV X.K T x H):
  s.TypeIs v T∧∀a,v=.ref a→∃ob,s.heap.get? a=some ob∧ob.dict=none:=by
 cases x with
 | str z=>
  obtain⟨t,rfl⟩:=r
  cases(show T="str" from ty)
  exact⟨typeIs_str s z t,fun _ e=>nomatch e⟩
 | int i=>
  obtain⟨t,rfl⟩:=r
  cases(show T="int" from ty)
  exact⟨typeIs_int s i t,fun _ e=>nomatch e⟩
 | ref p=>
  cases r
  rcases ty with⟨rfl,xs,hq⟩|⟨rfl,o,hk,hc,hd⟩|⟨rfl,hk⟩|⟨rfl,S,n,hk⟩
  ·obtain⟨its,_,pl,_⟩:=I.list hq
   refine⟨pl.isList.typeIs,fun a e=>?_⟩
   cases e
   obtain⟨o,n,e,c,hd,_⟩:=pl
   exact⟨o,e,hd⟩
  ·refine⟨⟨o,I.kIn p o hk,hc⟩,fun a e=>?_⟩
   cases e
   exact⟨o,I.kIn _ o hk,hd⟩
  ·have z:∃o,s.heap.get? p=some o∧o.ExactDict:=by
    rcases hk with⟨kvs,hk⟩|⟨kvs,hk⟩
    ·obtain⟨_,_,_,_,o,_,_,e,ex,_⟩:=I.hok p _ hk
     exact⟨o,e,ex⟩
    ·obtain⟨_,_,_,_,o,_,_,e,ex,_⟩:=I.hok p _ hk
     exact⟨o,e,ex⟩
   obtain⟨o,e,ex⟩:=z
   refine⟨⟨o,e,ex.1⟩,fun a e2=>?_⟩
   cases e2
   exact⟨o,e,ex.2.1⟩
  ·obtain⟨o,_,_,_,e,ex,_⟩:=I.hok p _ hk
   refine⟨⟨o,e,ex.1⟩,fun a e2=>?_⟩
   cases e2
   exact⟨o,e,ex.2.1⟩
 | _=>exact False.elim ty
def tBM(K:PySem.W.Frag)(T:String)(r:V→List V→Hp→VK→Prop)(to:TE)(t:TA):TE:=fun σ H Q=>to σ H fun x H1=>tyV K T x H1∧t σ H1 fun xs H2=>r x xs H2 Q
variable{o e:Expr}{es:List Expr}{to:TE}{t:TA}{name:Str}{apos cpos:Pos}{T id:String}{r:V→List V→Hp→VK→Prop}
theorem ajk(pa:PlainAttrs T)(slot:Slot T name id)(hty:typeOf (.builtin id)=pure (.type "method_descriptor"))(hm:MtR X id r)(ho:PE X o to)(ha:PA X (e::es) t)
  (hbase:attributeBase o name X.env (eval o X.env)=eval o X.env:=by rfl)
  (hfew:((backTo cpos (starEach (e::es) X.env)).all (fun x=>!x.1)&&(backToKw cpos (keywordEach [] X.env)).all (fun x=>x.1.isSome)
   && decide ((e::es).length+([]:List Keyword).length+(if([]:List Keyword).isEmpty then 0 else 1)<30))=true:=by rfl)
  (hline:(apos.endLine==cpos.line)=true:=by rfl) (hs:starEach (e::es) X.env=(false,eval e X.env)::starEach es X.env:=by rfl) (hplain:(backTo cpos (starEach es X.env)).any (·.1)=false:=by rfl):
  PE X (.Call (.Attribute o name apos) (e::es) [] cpos) (tBM X.K T r to t):=by
 intro pins s σ H Q I h
 refine wpAny_Call_method_late hbase hfew hline rfl (thn (ho pins s σ H _ I h) fun v s1 ⟨x,H1,I1,r1,ty,q1⟩=>?_)
 obtain⟨h1,h2⟩:=aoa I1 r1 ty
 refine⟨T,id,pa,slot,hty,h1,h2,?_⟩
 have hA:=ha cpos pins s1 σ H1 _ I1 q1
 rw[hs]at hA ⊢
 refine Calls.callWith_builtin (by show(false||(backTo cpos (starEach es X.env)).any (·.1))=false;rw[hplain]<;>rfl) (Calls.evalArgs_plain ?_)
 exact thn hA fun us s2 ⟨vs,H2,I2,r2,q2⟩=>hm pins s2 σ H2 x vs v us Q I2 r1 r2 q2
end
end L2
namespace L2
open PySem PySem.Spec PyProof.Rows
def MtM(X:Cx)(id:String)(r:V→List V→Hp→VK→Prop):Prop:=
 ∀(pins:List (Addr×Obj)) (s:Shared) (σ:St) (H:Hp) (x:V) (xs:List V) (v:Value) (us:List Value) (Q:VK),Inv X pins σ H s→aaF x v→Vals xs us→r x xs H Q→
  wpAny (model X.prog X.w) X.A (call (.builtin id) (v::us)) (EP X pins σ Q) X.xe s
theorem Vals.one:∀{x:V}{us:List Value},Vals [x] us→∃u,us=[u]∧aaF x u
 | _,_,.cons r .nil=>⟨_,rfl,r⟩
theorem Vals.two:∀{x y:V}{us:List Value},Vals [x,y] us→∃u v,us=[u,v]∧aaF x u∧aaF y v
 | _,_,_,.cons r (.cons q .nil)=>⟨_,_,rfl,r,q⟩
theorem Vals.zero:∀{us:List Value},Vals [] us→us=[]
 | _,.nil=>rfl
theorem Vals.dropLast{xs:List V}{us:List Value}(h:Vals xs us):Vals xs.dropLast us.dropLast:=by
 induction h with
 | nil=>exact .nil
 | cons r t ih=>
  cases t with
  | nil=>exact .nil
  | cons q t'=>exact .cons r ih
theorem Vals.reverse{xs:List V}{us:List Value}(h:Vals xs us):Vals xs.reverse us.reverse:=by
 induction h with
 | nil=>exact .nil
 | cons r t ih=>rw[List.reverse_cons,List.reverse_cons];exact Vals.append ih (.cons r .nil)
section
variable{X:Cx}{pins:List (Addr×Obj)}{σ:St}{H:Hp}{s:Shared}{l b:Addr}{xs ys zs:List V}
theorem Inv.lset{its its':List Value}{n:Nat}{f:Array Value→Array Value}{t':Nat}(I:Inv X pins σ H s)(hH:H l=some (.lst xs))
  (e:s.heap.get? l=some { cls:=.type "list",data:=.seq its.toArray n }) (hf:f its.toArray=its'.toArray) (hv:Vals ys its') (hz:ys.length≤sizeLine):
  Inv X pins σ (upd H l (.lst ys)) { s with heap:=s.heap.update l (Obj.mapSeq f),toks:=t' }:=by
 have q:=PySem.IsL.update e f
 rw[hf]at q
 refine I.write (x:=l) (e:=l) (by rw[hH];exact trivial) (.inl rfl) (fun b' u hb hu=>(Heap.get?_update_other s.heap (Obj.mapSeq f) (Ne.symm hb)).trans hu) ⟨_,q⟩ ?_
 exact⟨hz,its',_,hv,q⟩
theorem Inv.lnew{its:List Value}{t':Nat}(I:Inv X pins σ H s)(hv:Vals ys its)(hz:ys.length≤sizeLine):
  Inv X pins σ (upd H s.heap.objs.size (.lst ys)) { s with heap:=s.heap.push { cls:=.type "list",data:=.seq its.toArray },toks:=t' }:=
 I.laid (fun _ _ q=>Heap.get?_push_of_some _ q) (Nat.le_refl _) ⟨hz,its,0,hv,Heap.get?_push_size _ rfl⟩
theorem Inv.fresh(I:Inv X pins σ H s):H s.heap.objs.size=none:=I.hok.fresh (Nat.le_refl _)
theorem Inv.lstM(I:Inv X pins σ H s)(hH:H l=some (.lst xs)):xs.length≤sizeLine∧∃(its:List Value) (n:Nat),Vals xs its∧xs.length=its.length∧s.heap.get? l=some { cls:=.type "list",data:=.seq its.toArray n }:=by
 obtain⟨z,its,n,r,e⟩:=I.hok l _ hH
 exact⟨z,its,n,r,r.length,e⟩
theorem ajE{n:Nat}(h:n≤sizeLine):Builtin.List.listTooLong n=false:=by
 unfold Builtin.List.listTooLong
 exact decide_eq_false (by omega)
end
section
variable{X:Cx}
def am3:V→List V→Hp→VK→Prop:=fun x vs H Q=>∃l xs y,x=.ref l∧vs=[y]∧H l=some (.lst xs)∧xs.length<sizeLine∧Q .non (upd H l (.lst (xs++[y])))
theorem adk:MtM X "list.append" am3:=by
 intro pins s σ H x vs v us Q I rx rv h
 obtain⟨l,xs,y,rfl,rfl,hH,hz,q⟩:=h
 cases rx
 obtain⟨u,rfl,ru⟩:=rv.one
 obtain⟨z,its,n,r,hl,e⟩:=I.lstM hH
 refine call_meets F.slot_list_append ⟨_,e,rfl⟩ F.entry_list_append (F.args_list_append_2 _ _) (PySem.list_append l its.toArray n u (by rw[List.size_toArray];omega)) ⟨e,?_⟩
 refine⟨.non,_,I.lset (its':=its++[u]) hH e (by simp) (r.append (.cons ru .nil)) ?_,rfl,q⟩
 rw[List.length_append,List.length_singleton]
 omega
def alH:V→List V→Hp→VK→Prop:=fun x vs H Q=>∃l b xs zs,x=.ref l∧vs=[.ref b]∧H l=some (.lst xs)∧H b=some (.lst zs)∧xs.length+zs.length≤sizeLine∧Q .non (upd H l (.lst (xs++zs)))
theorem ah3:MtM X "list.extend" alH:=by
 intro pins s σ H x vs v us Q I rx rv h
 obtain⟨l,b,xs,zs,rfl,rfl,hH,hB,hz,q⟩:=h
 cases rx
 obtain⟨u,rfl,ru⟩:=rv.one
 cases ru
 obtain⟨z,its,n,r,hl,e⟩:=I.lstM hH
 obtain⟨z2,its2,n2,r2,hl2,e2⟩:=I.lstM hB
 have hsz:its.toArray.size+its2.toArray.size≤sizeLine:=by rw[List.size_toArray,List.size_toArray];omega
 have hlong:¬(!its.toArray.isEmpty&&Builtin.List.listTooLong (its.toArray.size+its2.toArray.size))=true:=by
  rw[ajE hsz,Bool.and_false]
  exact Bool.false_ne_true
 refine call_meets F.slot_list_extend ⟨_,e,rfl⟩ F.entry_list_extend (F.args_list_extend_2 _ _)
  (AutoSeq1.list_extend_list_list_0 l its.toArray n b its2.toArray n2 hlong (by rw[List.size_toArray];omega) (by omega)) ⟨e,e2,?_⟩
 refine⟨.non,_,I.lset (its':=its++its2) hH e (by simp) (r.append r2) ?_,rfl,q⟩
 rw[List.length_append]
 omega
end
end L2
namespace Att
open PySem PySem.W PySem.Calls PyProof.Rows
theorem acU{P:Params}{h:Heap}:∀(ns:List Int) (vs:List Value),WellAll P h vs (ns.map WData.int)→IntsAre vs ns:=by
 intro ns
 induction ns with
 | nil=>
  intro vs w
  rw[List.map_nil]at w
  cases w
  exact .nil
 | cons n ns ih=>
  intro vs w
  rw[List.map_cons]at w
  cases w with
  | cons a b=>
   cases a
   exact .cons _ _ (ih _ b)
theorem aj1{l:OpenLaw}{n:Nat}(hn:l.most=some n){P:Params}{h:Heap}{args:List WData}{vals:List Value}
  (hpre:l.row.toRowW.claim.pre args=true) (hwl:WellAll P h vals args):
  ∃a vs ns,vals=[Value.ref a]∧args=[WData.list (ns.map WData.int)]∧h.get? a=some { cls:=.type "list",data:=.seq vs.toArray }∧IntsAre vs ns∧ns.length≤n:=by
 have hsh:WShape.hasAll [] args [.list .int]=true:=(pre_splitW hpre).1
 have hc:l.pre.holds [] { args:=args }=true:=(pre_splitW hpre).2
 obtain⟨d,r,rfl,h1,h2⟩:=hasAllW_cons hsh
 obtain rfl:=hasAllW_nil h2
 obtain⟨xs,rfl,h3⟩:=hasW_list h1
 obtain⟨ns,rfl⟩:=items_int h3
 have hlen:ns.length≤n:=by
  unfold OpenLaw.pre at hc
  have h4:(WTm.not (.lt (.lit (.int (n:Int))) (.len (.arg 0)))).holds [] { args:=[.list (ns.map .int)] }=true:=by
   have h4:=(holds_andW hc).1
   rw[hn]at h4
   exact h4
  have h5:=condW_of h4 (w_not (w_lt w_lit (w_len_list (w_arg rfl))))
  rw[List.length_map]at h5
  refine Nat.le_of_not_lt fun q=>?_
  have q':(n:Int)<((ns.length:Nat):Int):=by omega
  first
   | (rw[decide_eq_true q']at h5;exact absurd h5 (by decide))
   | (simp at h5;omega)
 cases hwl with
 | cons w1 w2=>
  cases w2
  cases w1 with
  | list ho hall=>exact⟨_,_,ns,rfl,rfl,ho,acU ns _ hall,hlen⟩
theorem aj2(l:OpenLaw)(args:List WData):l.row.toRowW.claim.post args (.bool true) args=true:=
 postW_of (r:=l.row.toRowW) (X:=(true==true))
  (show WShape.has [] (.bool true) .bool=true by first|rfl|decide|simp[WShape.has,WShape.arms,WShape.armsAll])
  (show(WTm.eq .res (.lit (.bool true))).value [] { args:=args,res:=some (.bool true),after:=args }=some (.bool (true==true))from w_eq_bool (w_res rfl) w_lit) rfl
theorem attach_call{l:OpenLaw}{n:Nat}{q:Program}{loose:List Str}{XP:(Str→Option Value)→Heap→Prop}{YP:World→Heap→Prop}{d:DefRec}
  (hn:l.most=some n) (hdf:d.params.defaults=[])
  (call:∀(w:World) (s₀ s₁:Shared) (mg mb:Str→Option Value) (fa:Addr) (o:Obj) (pm cd doc:Value) (a:Addr) (vs:List Value) (ns:List Int),
   Ground q loose [] XP w s₀ mg mb s₁.heap→YP w s₁.heap→
   s₁.heap.get? fa=some o→o.data=.func (docDef d.name d.params d.body d.scope pm cd doc)→s₁.heap.CodeRec cd d.name→mg d.name=some (.ref fa)→
   s₁.heap.get? a=some { cls:=.type "list",data:=.seq vs.toArray }→IntsAre vs ns→ns.length≤n→s₁.gens=#[]→
   codeAny (model l.prog w) callerA (.call (.ref fa) ⟨[.ref a],[]⟩) (fun r s'=>r=.ok (.ret (.bool true))∧OldK s₁.heap s'.heap∧s'.os=s₁.os∧AllBare s'.gens) s₁):
  WalkO q loose XP YP l.row.toRowW d [] (fun f vs=>PySem.call f vs):=by
 intro w s₀ s₁ mg mb G Y fa o pm cd doc dV kV ho hd hcd hD hmg hg args vals as hpre hlay hrd hwl hlo
 obtain rfl:dV=.none:=Dflts.none hD hdf
 obtain rfl:kV=.none:=Dflts.noKw hD
 obtain⟨a,vs,ns,rfl,rfl,hobj,hints,hlen⟩:=aj1 hn hpre hwl
 refine enter_call (codeAny_mono (call w s₀ s₁ mg mb fa o pm cd doc a vs ns G Y ho (fd_plain hd) hcd hmg hobj hints hlen hg) fun r s' hq=>?_)
 obtain⟨rfl,h2,h3,h4⟩:=hq
 exact⟨.inl ⟨.bool true,.bool true,[],rfl,fun _=>rfl,.bool true,aj2 l _,fun _=>⟨List.Pairwise.nil,fun _ hm=>(nomatch hm)⟩⟩,h2,h3,h4⟩
section
variable{prog:Program}{w:World}{A:Around}{E:Value→Shared→Prop}{s:Shared}{K:Frag}
def avi(h:Heap)(L d:Addr):List (Addr×Obj):=(List.range h.objs.size).filterMap fun a=>if a=L∨a=d then none else(h.get? a).map fun o=>(a,o)
end
end Att
namespace L2
open PySem PySem.Spec PyProof.Rows
theorem ae6:∀{vs:List Value}{ns:List Int},IntsAre vs ns→Vals (ns.map V.int) vs
 | _,_,.nil=>.nil
 | _,_,.cons n t h=>.cons ⟨t,rfl⟩ (ae6 h)
def ac3(H:Hp):Prop:=∀b,H b=none∨∃o xs,H b=some (.frz o (.lst xs))
theorem ajH{P:Program}{w:World}{K:PySem.W.Frag}{mg mb:Str→Option Value}{CX:CXT}{k:Nat}{fa a:Addr}{fd:FuncData}{x:Str}{sp:Sp}{s₁:Shared}{vs:List Value}{ns:List Int}
  (KX:K.In s₁.heap) (hns:s₁.heap.Ns mainGlobals mg) (hb:s₁.heap.Ns builtinsNs mb) (hbb:∀x:Str,x≠"__name__"→mb x=bootBuiltins x) (hlim:s₁.heap.NoLimit) (hg:s₁.gens=#[])
  (ha:s₁.heap.get? a=some { cls:=.type "list",data:=.seq vs.toArray }) (hi:IntsAre vs ns) (hl:ns.length≤sizeLine) (hr:Room k callerA)
  (F:∀base:Heap,K.In base→base.Ns mainGlobals mg→FnOk P w K mg base CX k fa fd [x] sp) (hbind:∀(s:Shared) (u:Value),BindsTo s fd ⟨[u],[]⟩ [(x,u)])
  (hsp:∀H:Hp,ac3 H→SqL K H a (ns.map V.int)→sp [.ref a] H (fun v _=>v=.bl true) fun _ _ _=>False)
  (hCX:∀H e s',CX [] H s₁ (fun _ _ _=>False) e s'→False):
  codeAny (model P w) callerA (.call (.ref fa) ⟨[.ref a],[]⟩) (fun r s'=>r=.ok (.ret (.bool true))∧OldK s₁.heap s'.heap∧s'.os=s₁.os∧AllBare s'.gens) s₁:=by
 have rv:=ae6 hi
 have lenV:=hi.length
 have core:∀H:Hp,ac3 H→SqL K H a (ns.map V.int)→HOk P w H s₁.heap→(∀b,H b≠none→b=a)→(H a≠none→K.lookup a=none)→
   codeAny (model P w) callerA (.call (.ref fa) ⟨[.ref a],[]⟩) (fun r s'=>r=.ok (.ret (.bool true))∧OldK s₁.heap s'.heap∧s'.os=s₁.os∧AllBare s'.gens) s₁:=by
  intro H hO hS hok hA hK
  have base_of:∀{b:Addr}{o:Obj},s₁.heap.get? b=some o→H b=none→(ajK s₁.heap H).get? b=some o:=fun e n=>ajQ e n
  have noA:∀{b:Addr}{o:Obj}{es:Array DictEntry}{ep:Nat},s₁.heap.get? b=some o→o.data=.dict es ep→H b=none:=fun {b o es ep} e d=>by
   cases q:H b with
   | none=>rfl
   | some u=>
    have e':b=a:=hA b (by rw[q];simp)
    subst e'
    rw[ha]at e;cases e
    have d':Data.seq vs.toArray _=Data.dict es ep:=d
    cases d'
  have nsK:∀{b:Addr}{m:Str→Option Value},s₁.heap.Ns b m→(ajK s₁.heap H).Ns b m:=fun {b m} ⟨o,es,ep,e,d,r⟩=>⟨o,es,ep,base_of e (noA e d),d,r⟩
  have hKb:K.In (ajK s₁.heap H):=fun b o e=>base_of (KX b o e) (by
   cases q:H b with
   | none=>rfl
   | some u=>
    have e':b=a:=hA b (by rw[q];simp)
    subst e'
    rw[hK (by rw[q];simp)]at e;cases e)
  have hM:Mod K mg (ajK s₁.heap H):=⟨hKb,nsK hns,⟨mb,nsK hb,hbb⟩,let ⟨mc,h1,h2⟩:=hlim;⟨mc,nsK h1,h2⟩⟩
  have e0:Env0 P w K mg (ajK s₁.heap H) callerA [] s₁ H:=⟨rfl,hM,fun b o e=>amM e,Nat.le_of_eq (aia _ _),trivial,fun b hb=>absurd (show b∈([]:List Addr)from hb) (by simp),hok,.of_eq hg⟩
  refine codeAny_mono ((F _ hKb (nsK hns)).run callerA [] s₁ H ⟨[.ref a],[]⟩ [.ref a] [.ref a] _ _ hr e0 (hbind s₁ (.ref a)) (.cons rfl .nil) (hsp H hO hS)) fun r s' h=>?_
  cases r with
  | error e=>exact(hCX H e s' h).elim
  | ok fl=>
   cases fl with
   | next=>exact False.elim h
   | brk=>exact False.elim h
   | cont=>exact False.elim h
   | ret u=>
    obtain⟨v,H',os,bare,un,hok',r',q⟩:=h
    have q':v=.bl true:=q
    subst q'
    obtain rfl:u=Value.bool true:=r'
    refine⟨rfl,OldK.of_keep fun b o e=>?_,os,bare⟩
    cases q:H b with
    | none=>exact un.keep b o e q (by intro z;exact absurd (show b∈([]:List Addr)from z) (by simp)) (by simp)
    | some u=>
     rcases hO b with z|⟨ob,xs,z⟩
     ·rw[q]at z;cases z
     ·have z2:=un.frzs b ob _ z
      obtain⟨e1,_⟩:=hok b _ z
      obtain⟨e2,_⟩:=hok' b _ z2
      rw[e]at e1;cases e1
      exact e2
 cases hk:K.lookup a with
 | some o=>
  have e:=KX a o hk
  rw[ha]at e
  cases e
  refine core (fun _=>none) (fun _=>.inl rfl) (.inr ⟨_,vs.toArray,_,hk,rfl,rfl,rfl,by rw[List.size_toArray,lenV];exact hl,by simpa using rv⟩) (fun b u z=>by have z':(none:Option HO)=some u:=z;cases z') (fun b z=>absurd rfl z) fun z=>absurd rfl z
 | none=>
  refine core (fun b=>if b=a then some (.frz { cls:=.type "list",data:=.seq vs.toArray } (.lst (ns.map V.int)))else none) (fun b=>?_) (.inl (.inr ⟨{ cls:=.type "list",data:=.seq vs.toArray },if_pos rfl⟩)) (fun b u z=>?_) (fun b z=>?_) fun _=>hk
  ·by_cases hb:b=a
   ·exact .inr ⟨_,_,if_pos hb⟩
   ·exact .inl (if_neg hb)
  ·by_cases hb:b=a
   ·have z':=(if_pos hb).symm.trans z
    cases z'
    subst hb
    exact⟨ha,by rw[List.length_map];exact hl,vs,_,rv,ha⟩
   ·have z':=(if_neg hb).symm.trans z
    cases z'
  ·by_cases hb:b=a
   ·exact hb
   ·exact absurd (if_neg hb) z
end L2
namespace L2
open PySem PySem.Spec PyProof.Rows
abbrev KOf{K:PySem.W.Frag}{h:Heap}(_:K.In h):PySem.W.Frag:=K
theorem walk_of{l:PySem.W.OpenLaw}{n k:Nat}{q:Program}{loose:List Str}{XP:(Str→Option Value)→Heap→Prop}{YP:World→Heap→Prop}{d:DefRec}{K:Params→PySem.W.Frag}{CX:World→CXT}{sp:World→Sp}{x:Str}
  (hn:l.most=some n) (hn2:n≤sizeLine) (hdf:d.params.defaults=[]) (hr:Room k callerA)
  (hY:∀(w:World) (h:Heap),YP w h→(K w.params).In h)
  (F:∀(w:World) (mg:Str→Option Value) (fa:Addr) (h:Heap),(K w.params).In h→h.Ns mainGlobals mg→mg d.name=some (.ref fa)→
   ∃fd:FuncData,(∀(s:Shared) (u:Value),BindsTo s fd ⟨[u],[]⟩ [(x,u)])∧
    ∀base:Heap,(K w.params).In base→base.Ns mainGlobals mg→FnOk l.prog w (K w.params) mg base (CX w) k fa fd [x] (sp w))
  (hsp:∀(w:World) (H:Hp) (a:Addr) (ns:List Int),ns.length≤n→ac3 H→SqL (K w.params) H a (ns.map V.int)→sp w [.ref a] H (fun v _=>v=.bl true) fun _ _ _=>False)
  (hCX:∀(w:World) (H:Hp) (s:Shared) (e:Value) (s':Shared),CX w [] H s (fun _ _ _=>False) e s'→False):
  PySem.W.WalkO q loose XP YP l.row.toRowW d [] (fun f vs=>PySem.call f vs):=by
 refine Att.attach_call hn hdf fun w s₀ s₁ mg mb fa o pm cd doc a vs ns G Y ho hd hcd hmg hobj hints hlen hg=>?_
 have KX:=hY w _ Y
 obtain⟨fd,hb,hF⟩:=F w mg fa _ KX G.T.g hmg
 exact ajH KX G.T.g G.T.b G.T.builtins G.T.nolimit hg hobj hints (Nat.le_trans hlen hn2) hr hF hb (fun H hO hS=>hsp w H a ns hlen hO hS) fun H e s'=>hCX w H s₁ e s'
end L2
namespace L2
open PySem PySem.Spec PyProof.Rows
def inClass(s:Stmt)(j:Nat):Stmt:=match s with
 | .ClassDef _ _ _ body _ _ _ _ _ _ _=>body.getD j (.Pass ⟨0,0,0,0⟩)
 | _=>.Pass ⟨0,0,0,0⟩
def defArgs(s:Stmt):Arguments:=match s with
 | .FunctionDef _ a _ _ _ _ _ _ _ _=>a
 | _=>{ posonlyargs:=[],args:=[],vararg:=none,kwonlyargs:=[],kw_defaults:=[],kwarg:=none,defaults:=[] }
def defBody(s:Stmt):List Stmt:=match s with
 | .FunctionDef _ _ b _ _ _ _ _ _ _=>b
 | _=>[]
def defScope(s:Stmt):Scope:=match s with
 | .FunctionDef _ _ _ _ _ _ sc _ _ _=>sc
 | _=>{ kind:=.function,names:=[],isGenerator:=false,isCoroutine:=false }
abbrev CX0:CXT:=fun _ _ _ _ _ _=>False
structure Fun(K:PySem.W.Frag)(x qual:Str)(st:Stmt)(f:Addr)(fd:FuncData):Prop where
 ex:∃(oc:Value) (od:Option Addr) (kV doc pm:Value) (an:Option Addr) (cdv ct:Value) (osl:Array (Option Value)),
  fd=PySem.W.fnOf x qual (defArgs st) (defBody st) (defScope st) .none kV doc pm an cdv ct∧K.lookup f=some ⟨oc,od,.func fd,osl⟩∧PySem.W.codeIn K cdv qual=true
 kp:PySem.W.keepIn K (.ref f)=true
section
variable{P:Program}{w:World}{K:PySem.W.Frag}{mg:Str→Option Value}{base:Heap}
theorem Fun.ok{x qual:Str}{st:Stmt}{f:Addr}{fd:FuncData}{N ps:List Str}{k:Nat}{sp:Sp}(F:Fun K x qual st f fd)(S:FnScope N ps (defScope st))(len:∀vs H Q E,sp vs H Q E→vs.length=ps.length)
  (hbody:∀(cdv:Value) (A:Around) (outer:List Env) (s:Shared) (H:Hp) (vs:List V) (Q:VK) (E:XK),Room k (A.deeper (envOfC qual (defScope st) s.heap.objs.size f cdv))→sp vs H Q E→
   ∃t,PSs (aen CX0 P w K mg base N qual (defScope st) f cdv A outer s H E).nox (defBody st) t∧t { nx:=fun _ H'=>Q .non H',rt:=Q } (start N vs) H):FnOk P w K mg base CX0 (k+1) f fd ps sp:=by
 obtain⟨oc,od,kV,doc,pm,an,cdv,ct,osl,rfl,lk,hcd⟩:=F.ex
 refine aow lk hcd S len fun A outer s H vs Q E hr hsp=>?_
 obtain⟨t,h,q⟩:=hbody cdv A outer s H vs Q E hr hsp
 exact⟨t,h.nox,q⟩
theorem Fun.binds{x qual:Str}{st:Stmt}{f:Addr}{fd:FuncData}{ps:List Str}(F:Fun K x qual st f fd)
  (h:∀(kV doc pm:Value) (an:Option Addr) (cdv ct:Value) (us:List Value),us.length=ps.length→bindArgs (PySem.W.fnOf x qual (defArgs st) (defBody st) (defScope st) .none kV doc pm an cdv ct) ⟨us,[]⟩=pure (ps.zip us)):Binds K fd ps []:=by
 obtain⟨oc,od,kV,doc,pm,an,cdv,ct,osl,rfl,lk,hcd⟩:=F.ex
 exact .all (h kV doc pm an cdv ct)
end
section
variable{X:Cx}
theorem pv(i:Nat){x:Str}{pos:Pos}(hN:X.N[i]?=some x:=by rfl)(hv:Vis X.env.scope x:=by first|exact Or.inl rfl|exact Or.inr (Or.inl rfl)|exact Or.inr (Or.inr rfl))(hd:(x==("__debug__":Str))=false:=by decide)
  (hcd:(x==("__classdict__":Str))=false:=by decide):PE X (.Name x pos) (awS i):=adu hN hv hd hcd
end
theorem ame{A B:Prop}(h:B):if false=true then A else B:=by
 rw[if_neg Bool.false_ne_true]
 exact h
theorem anw{A B:Prop}(h:A):if true=true then A else B:=by
 rw[if_pos rfl]
 exact h
def aj5(H H':Hp):Prop:=∀b o,H b=some o→H' b=some o
theorem aj5.refl(H:Hp):aj5 H H:=fun _ _ h=>h
theorem aj5.trans{H H1 H2:Hp}(a:aj5 H H1)(b:aj5 H1 H2):aj5 H H2:=fun c o h=>b c o (a c o h)
theorem aj5.free{H H':Hp}(e:aj5 H H'){l:Addr}(h:H' l=Option.none):H l=Option.none:=by
 cases q:H l with
 | none=>rfl
 | some o=>
  rw[e l o q]at h
  cases h
theorem aj5.seq{K:PySem.W.Frag}{H H':Hp}{a:Addr}{xs:List V}(e:aj5 H H')(h:SqL K H a xs):SqL K H' a xs:=by
 rcases h with(h|⟨o,h⟩)|h
 ·exact .inl (.inl (e _ _ h))
 ·exact .inl (.inr ⟨o,e _ _ h⟩)
 ·exact .inr h
end L2
end
noncomputable section
namespace IP
open PySem (Str)
set_option genInjectivity true in
inductive T where
 | non|bl (b:Bool)|int (i:Int)|str (x:Str)|tup (xs:List T)|lst (xs:List T)|loc (l:Nat)|exc (c:Nat)
 deriving Inhabited
set_option genInjectivity true in
inductive R where
 | val (t:T)|bor (ts:List T)
set_option genInjectivity true in
inductive B where
 | val (t:T)|own (ts:List T)|bor (ts:List T)|lck (ts:List T)
 deriving Inhabited
abbrev Fr:=List (Option B)
set_option genInjectivity true in
inductive Cell where
 | lst (ts:List T)|ins (c:Nat) (fs:List (Option T))|tbl (k:Nat) (p:PySem.Pos) (q:PySem.Str)
abbrev Sto:=List Cell
set_option genInjectivity true in
inductive Res(α:Type)where
 | stuck|ok (a:α) (s:Sto)|exc (c:Nat) (s:Sto)
def Res.bind{α β:Type}(m:Res α)(k:α→Sto→Res β):Res β:=match m with
 | .stuck=>.stuck
 | .ok a s=>k a s
 | .exc c s=>.exc c s
@[simp] theorem Res.bind_ok {α β:Type} (a:α) (s:Sto) (k:α→Sto→Res β):(Res.ok a s).bind k=k a s:=rfl
@[simp] theorem Res.bind_exc {α β:Type} (c:Nat) (s:Sto) (k:α→Sto→Res β):(Res.exc c s:Res α).bind k=.exc c s:=rfl
@[simp] theorem Res.bind_stuck {α β:Type} (k:α→Sto→Res β):(Res.stuck:Res α).bind k=.stuck:=rfl
def Res.of{α:Type}(o:Option α)(s:Sto):Res α:=match o with
 | none=>.stuck
 | some a=>.ok a s
@[simp] theorem Res.of_some {α:Type} (a:α) (s:Sto):Res.of (some a) s=.ok a s:=rfl
@[simp] theorem Res.of_none {α:Type} (s:Sto):Res.of (none:Option α) s=.stuck:=rfl
inductive Op where|add|sub|mul|fdiv|mod|pow
inductive Cm where|lt|le|gt|ge|eq|ne|isN|notN|mem|nmem
inductive Bi where|len|abs|int|list|tuple|any|all|min|max|sorted|str
inductive Ty where|int|bool|tuple|list|str|cls(c:Nat)
set_option genInjectivity true in
inductive Tg where|one(i:Nat)|many(is:List Nat)
inductive E where
 | var (i:Nat)
 | cst (t:T)
 | glb (x:Str) (i:Int)
 | bin (o:Op) (a b:E)
 | neg (a:E)
 | not (a:E)
 | cmp (c:Cm) (a b:E)
 | and (a b:E)|or (a b:E)
 | ife (c a b:E)
 | tup (es:List E)|lst (es:List E)
 | sub (a b:E)
 | cutL (a lo:E)|cutU (a hi:E)|cutLU (a lo hi:E)|rev (a:E)
 | b1 (f:Bi) (a:E)
 | mn2 (a b:E)|mx2 (a b:E)
 | mxd (a d:E)|mnd (a d:E)
 | mnk (a:E) (i j l k:Nat) (p:PySem.Pos) (q:Str)|sok (a:E) (i:Nat) (k:E)
 | isi (a:E) (c:Ty)
 | call (f:Nat) (es:List E) (ds:List T)
 | comp (elt:E) (tg:Tg) (it:E)
 | compIf (elt:E) (tg:Tg) (it c:E)
 | rng1 (a:E)|rng2 (a b:E)|enm (a:E)|zip (a b:E)
 | fld (a:E) (c f:Nat)|cell (a:E)|new (c f n:Nat) (es:List E) (ds:List T)|meth (a:E) (c f:Nat) (es:List E) (ds:List T)
 | compC (elt:E) (tg:Tg) (it:E)
 | cmpD (c:Cm) (a b:E)
 | join (x:Str) (b:E)
 | splt (x:Str) (a:E)|intS (a:E)|lenS (a:E)|isB (a:E) (c:Nat)
 deriving Inhabited
inductive S where
 | asg (i:Nat) (e:E)
 | asgT (is:List Nat) (e:E)
 | mk (i:Nat) (e:E)
 | app (i:Nat) (e:E)
 | ext (i:Nat) (e:E)
 | put (i:Nat) (j e:E)
 | pop (k i:Nat)
 | frz (i:Nat)
 | ifs (c:E) (a b:List S)
 | whl (c:E) (b:List S)
 | for_ (tg:Tg) (it:E) (b:List S)
 | ret (e:E)
 | retO (e:E)
 | retV (i:Nat)
 | exp (e:E)
 | raise (c:Nat)
 | putL (a j e:E)|appL (a e:E)|setF (a:E) (c f:Nat) (e:E)|popL (a:E)|clrL (a:E)|forC (tg:Tg) (it:E) (b:List S)
 | try_ (b:List S) (c:Nat) (nm:Option Nat) (h:List S)
 | pass
 | tryN (b:List S)
 deriving Inhabited
def eqL(f:T→T→Option Bool):List T→List T→Option Bool
 | [],[]=>some true
 | [],_::_=>some false
 | _::_,[]=>some false
 | a::r,b::q=>match f a b,eqL f r q with
  | some k,some k'=>some (k&&k')
  | _,_=>none
def eqD:Nat→T→T→Option Bool
 | _,.non,.non=>some true
 | _,.bl a,.bl b=>some (a==b)
 | _,.int a,.int b=>some (a==b)
 | _,.str a,.str b=>some (a==b)
 | n+1,.tup a,.tup b=>eqL (eqD n) a b
 | n+1,.lst a,.lst b=>eqL (eqD n) a b
 | _,.non,.int _=>some false
 | _,.int _,.non=>some false
 | _+1,.non,.tup _=>some false
 | _+1,.tup _,.non=>some false
 | _,_,_=>none
abbrev eqT:T→T→Option Bool:=eqD 8
abbrev aul:List T→List T→Option Bool:=eqL (eqD 7)
def big:Nat:=10^300
def anT(i j:Int):Bool:=decide (i.natAbs<2^64)||decide (j.natAbs<2^64)||(decide (i.natAbs<big)&&decide (j.natAbs<big))
def lim:Nat:=1000000
def R.seq:R→Option (List T)
 | .val (.lst ts)=>some ts
 | .bor ts=>some ts
 | _=>none
def R.sq2:R→Option (List T)
 | .val (.lst ts)=>some ts
 | .val (.tup ts)=>some ts
 | .bor ts=>some ts
 | _=>none
def R.dr(s:Sto):R→R
 | .val (.loc l)=>match s[l]? with
  | some (.lst ts)=>.bor ts
  | _=>.val (.loc l)
 | r=>r
def opI:Op→Int→Int→Option Int
 | .add,i,j=>some (i+j)
 | .sub,i,j=>some (i-j)
 | .mul,i,j=>if anT i j then some (i*j)else none
 | .fdiv,i,j=>if j≠0∧j.natAbs<big then some (Int.fdiv i j)else none
 | .mod,i,j=>if j≠0 then some (Int.fmod i j)else none
 | .pow,i,j=>if 0≤j∧j≤100∧i.natAbs<big then some (i^j.toNat)else none
def opR(o:Op)(x y:R):Option R:=match o,x,y with
 | o,.val (.int i),.val (.int j)=>(opI o i j).map fun k=>.val (.int k)
 | .add,.val (.tup xs),.val (.tup ys)=>if xs≠[]∧ys≠[]∧xs.length+ys.length≤lim then some (.val (.tup (xs++ys)))else none
 | .add,.val (.str x),.val (.str y)=>if x.length+y.length≤lim then some (.val (.str (x++y)))else none
 | .add,x,y=>match x.seq,y.seq with
  | some xs,some ys=>if xs.length+ys.length≤lim then some (.val (.lst (xs++ys)))else none
  | _,_=>none
 | _,_,_=>none
def ac5:List T→Option (List Int)
 | []=>some []
 | .int i::r=>(ac5 r).map (i::·)
 | _=>none
def aaP:List T→Option (List Bool)
 | []=>some []
 | .bl b::r=>(aaP r).map (b::·)
 | _=>none
def ade:List T→Option (List Str)
 | []=>some []
 | .str x::r=>(ade r).map (x::·)
 | _=>none
def R.int?:R→Option Int
 | .val (.int i)=>some i
 | _=>none
def R.isNon:R→Bool
 | .val .non=>true
 | _=>false
def R.tup?:R→Option (List T)
 | .val (.tup ts)=>some ts
 | .val (.lst ts)=>some ts
 | _=>none
def R.val?:R→Option T
 | .val t=>some t
 | _=>none
def tru:R→Option Bool
 | .val .non=>some false
 | .val (.bl b)=>some b
 | .val (.int i)=>some (i != 0)
 | .val (.lst ts)=>some (!ts.isEmpty)
 | .val (.tup ts)=>some (!ts.isEmpty)
 | .bor ts=>some (!ts.isEmpty)
 | _=>none
def eqR:R→R→Option Bool
 | .val a,.val b=>eqT a b
 | .val (.lst a),.bor b=>aul a b
 | .bor a,.val (.lst b)=>aul a b
 | .bor a,.bor b=>aul a b
 | _,_=>none
def al4(x:T):List T→Option Bool
 | []=>some false
 | y::r=>match eqT y x,al4 x r with
  | some k,some k'=>some (k||k')
  | _,_=>none
def act(c:Cm)(x y:R):Option Bool:=match c with
 | .lt=>do let i ←x.int?;let j ←y.int?;some (decide (i<j))
 | .le=>do let i ←x.int?;let j ←y.int?;some (decide (i≤j))
 | .gt=>do let i ←x.int?;let j ←y.int?;some (decide (j<i))
 | .ge=>do let i ←x.int?;let j ←y.int?;some (decide (j≤i))
 | .eq=>eqR x y
 | .ne=>(eqR x y).map (!·)
 | .isN=>match y with
  | .val .non=>some x.isNon
  | _=>none
 | .notN=>match y with
  | .val .non=>some (!x.isNon)
  | _=>none
 | .mem=>do let t ←x.val?;let ts ←y.sq2;al4 t ts
 | .nmem=>do let t ←x.val?;let ts ←y.sq2;(al4 t ts).map (!·)
def aaQ(x:R)(i:Int):Option T:=match x.sq2 with
 | some ts=>L2.atI ts i
 | none=>none
def amm(ts:List T)(lo hi:Option Int):List T:=(ts.drop (HT.sIx ts.length 0 lo)).take (HT.sIx ts.length ts.length hi-HT.sIx ts.length 0 lo)
def aem(x:R)(lo hi:Option Int):Option R:=match x with
 | .val (.tup ts)=>if HT.sIx ts.length 0 lo=0∧HT.sIx ts.length ts.length hi=ts.length then none else some (.val (.tup (amm ts lo hi)))
 | .val (.lst ts)=>some (.val (.lst (amm ts lo hi)))
 | .bor ts=>some (.val (.lst (amm ts lo hi)))
 | _=>none
def axT(i j:Nat):T→Option (Int×Int)
 | .tup ts=>match ts[i]?,ts[j]? with
  | some (.int x),some (.int y)=>some (x,y)
  | _,_=>none
 | _=>none
def aqR(i j:Nat):List T→Option (List (Int×Int))
 | []=>some []
 | t::r=>match axT i j t,aqR i j r with
  | some x,some y=>some (x::y)
  | _,_=>none
def lt2(a b:Int×Int):Bool:=decide (a.1<b.1)||(decide (a.1=b.1)&&decide (a.2<b.2))
def amp:Int×Int→T→List ((Int×Int)×T)→T
 | _,t,[]=>t
 | k,t,(k',t')::r=>if lt2 k' k then amp k' t' r else amp k t r
def auM(s:Sto)(l k:Nat)(p:PySem.Pos)(q:Str):Bool:=match s[l]? with
 | some (.tbl k' p' q')=>decide (k'=k)&&decide (p'=p)&&decide (q'=q)
 | _=>false
def ayF(i j:Nat)(ts:List T):Option T:=match aqR i j ts,ts with
 | some (k::ks),t::r=>some (amp k t (ks.zip r))
 | _,_=>none
def awI:List Int→Option Int
 | []=>none
 | a::r=>some (r.foldl (fun m x=>if x<m then x else m) a)
def avL:List Int→Option Int
 | []=>none
 | a::r=>some (r.foldl (fun m x=>if x>m then x else m) a)
def arA(x:Int):List Int→List Int
 | []=>[x]
 | y::r=>if x<y then x::y::r else y::arA x r
def alU(xs:List Int):List Int:=xs.foldl (fun acc x=>arA x acc) []
def b1R(f:Bi)(x:R):Option R:=match f with
 | .len=>x.sq2.map fun ts=>.val (.int ts.length)
 | .abs=>x.int?.map fun i=>.val (.int (if i<0 then -i else i))
 | .int=>match x with | .val (.int i)=>some (.val (.int i)) | .val (.bl b)=>some (.val (.int (if b then 1 else 0))) | _=>none
 | .list=>x.sq2.map fun ts=>.val (.lst ts)
 | .tuple=>x.sq2.map fun ts=>.val (.tup ts)
 | .any=>do let ts ←x.seq;let bs ←aaP ts;some (.val (.bl (bs.any id)))
 | .all=>do let ts ←x.seq;let bs ←aaP ts;some (.val (.bl (bs.all id)))
 | .min=>do let ts ←x.seq;let is ←ac5 ts;(awI is).map fun i=>.val (.int i)
 | .max=>do let ts ←x.seq;let is ←ac5 ts;(avL is).map fun i=>.val (.int i)
 | .sorted=>do let ts ←x.seq;let is ←ac5 ts;if is.length<64 then some (.val (.lst ((alU is).map .int)))else none
 | .str=>match x with | .val (.int i)=>if i.natAbs<big then some (.val (.str (PySem.Str.ofString (toString i))))else none | .val (.str y)=>some (.val (.str y)) | _=>none
def aff(sep:Str)(y:R):Option R:=do let ts ←y.seq;let xs ←ade ts;if(xs.map (·.length)).sum+xs.length*sep.length≤lim then some (.val (.str (PySem.Str.join sep xs)))else none
def alO(sep:Str):R→Option R
 | .val (.str y)=>if y.length≤lim then some (.val (.lst ((PySem.Txt.split y sep).map .str)))else none
 | _=>none
def aog:R→Option R
 | .val (.str y)=>if y.length≤640 then(PySem.intText? y).map fun n=>.val (.int n)else none
 | _=>none
def ar2:R→Option R
 | .val (.str y)=>if y.length≤lim then some (.val (.int y.length))else none
 | _=>none
def anV(s:Sto)(c:Nat):R→Option R
 | .val (.loc l)=>match s[l]? with
  | some (.ins d _)=>if d=c then some (.val (.bl true))else none
  | _=>none
 | _=>none
def asy(x:R)(c:Ty):Option Bool:=match x,c with
 | .val (.int _),.int=>some true | .val (.bl _),.int=>some true | .val (.tup _),.int=>some false | .val (.lst _),.int=>some false | .val .non,.int=>some false | .bor _,.int=>some false
 | .val (.int _),.bool=>some false | .val (.bl _),.bool=>some true | .val (.tup _),.bool=>some false | .val (.lst _),.bool=>some false | .val .non,.bool=>some false
 | .val (.tup _),.tuple=>some true | .val (.int _),.tuple=>some false | .val (.bl _),.tuple=>some false | .val (.lst _),.tuple=>some false | .val .non,.tuple=>some false
 | .val (.lst _),.list=>some true | .bor _,.list=>some true | .val (.tup _),.list=>some false | .val (.int _),.list=>some false | .val .non,.list=>some false
 | .val (.str _),.str=>some true | .val (.int _),.str=>some false | .val .non,.str=>some false | .val (.tup _),.str=>some false | .val (.lst _),.str=>some false
 | _,_=>none
def agK(sub:Nat→Nat→Bool)(x:R)(c:Ty):Option Bool:=match x,c with
 | .val (.exc d),.cls k=>some (sub d k)
 | x,c=>asy x c
def enT:Nat→List T→List T
 | _,[]=>[]
 | n,t::ts=>.tup [.int n,t]::enT (n+1) ts
def ziT:List T→List T→List T
 | a::as,b::bs=>.tup [a,b]::ziT as bs
 | _,_=>[]
def ae2(s:Sto)(x:R)(c f:Nat):Option T:=match x with
 | .val (.loc l)=>match s[l]? with
  | some (.ins d fs)=>if d=c then(fs[f]?).join else none
  | _=>none
 | _=>none
def R.locL(s:Sto):R→Option (Nat×List T)
 | .val (.loc l)=>match s[l]? with
  | some (.lst ts)=>some (l,ts)
  | _=>none
 | _=>none
def R.locI(s:Sto)(c:Nat):R→Option (Nat×List (Option T))
 | .val (.loc l)=>match s[l]? with
  | some (.ins d fs)=>if d=c then some (l,fs)else none
  | _=>none
 | _=>none
def look(σ:Fr)(i:Nat):Option R:=match σ[i]? with
 | some (some (.val t))=>some (.val t)
 | some (some (.own ts))=>some (.bor ts)
 | some (some (.bor ts))=>some (.bor ts)
 | some (some (.lck ts))=>some (.bor ts)
 | _=>none
def put(σ:Fr)(i:Nat)(t:T):Fr:=σ.set i (some (.val t))
def puts(σ:Fr):List Nat→List T→Option Fr
 | [],[]=>some σ
 | i::is,t::ts=>puts (put σ i t) is ts
 | _,_=>none
def aaq(σ:Fr)(g:Tg)(t:T):Option Fr:=match g with
 | .one i=>some (put σ i t)
 | .many is=>match t with
  | .tup ts=>puts σ is ts
  | .lst ts=>puts σ is ts
  | _=>none
set_option genInjectivity true in
inductive SR where
 | stuck|next (σ:Fr) (s:Sto)|ret (r:R) (s:Sto)|retO (ts:List T) (s:Sto)|exc (c:Nat) (σ:Fr) (s:Sto)
structure Cf where
 cf:Nat→List R→Sto→Res R
 sub:Nat→Nat→Bool
 fr:Nat→Bool
 wl:(Fr→Sto→Res Bool)→(Fr→Sto→SR)→Fr→Sto→SR
def afT:Option T→List T→List T
 | some x,q=>x::q
 | none,q=>q
@[simp] theorem anX (x:T) (q:List T):afT (some x) q=x::q:=rfl
@[simp] theorem agY (q:List T):afT none q=q:=rfl
def aa0(f:T→Sto→Res (Option T)):List T→Sto→Res (List T)
 | [],s=>.ok [] s
 | t::ts,s=>(f t s).bind fun r s1=>(aa0 f ts s1).bind fun q s2=>.ok (afT r q) s2
def aao(i j:Int):List T:=(List.range (j-i).toNat).map fun(k:Nat)=>T.int (i+k)
def bnd(i:Int):Bool:=decide (-(2^62)≤i)&&decide (i<2^62)
inductive Md where|v|t|i|j
def R.sq3:R→Option (List T)
 | .val (.lst ts)=>some ts
 | .val (.tup ts)=>some ts
 | _=>none
def fin(m:Md)(r:Res R):Res R:=match m with
 | .v=>r
 | .t=>r.bind fun x s=>.of ((tru x).map fun k=>.val (.bl k)) s
 | .i=>r.bind fun x s=>.of (x.sq2.map fun ts=>.val (.lst ts)) s
 | .j=>r.bind fun x s=>.of (x.sq3.map fun ts=>.val (.lst ts)) s
@[simp] theorem as0 (r:Res R):fin .v r=r:=rfl
@[simp] theorem ayq (r:Res R):fin .t r=r.bind fun x s=>.of ((tru x).map fun k=>.val (.bl k)) s:=rfl
@[simp] theorem axu (r:Res R):fin .j r=r.bind fun x s=>.of (x.sq3.map fun ts=>.val (.lst ts)) s:=rfl
@[simp] theorem ayG (r:Res R):fin .i r=r.bind fun x s=>.of (x.sq2.map fun ts=>.val (.lst ts)) s:=rfl
def onB(x:R)(a b:Res R):Res R:=match x with
 | .val (.bl true)=>a
 | .val (.bl false)=>b
 | _=>.stuck
def onI(x:R)(f:Int→Res R):Res R:=match x with
 | .val (.int i)=>f i
 | _=>.stuck
def onL(x:R)(f:List T→Res R):Res R:=match x with
 | .val (.lst ts)=>f ts
 | _=>.stuck
def onV(x:R)(f:T→Res (List T)):Res (List T):=match x with
 | .val t=>f t
 | _=>.stuck
def one(m:Res R):Res (Option T):=match m with
 | .ok r s=>.of (r.val?.map some) s
 | .exc c s=>.exc c s
 | .stuck=>.stuck
def onO{α β:Type}(o:Option α)(f:α→Res β):Res β:=match o with
 | some a=>f a
 | none=>.stuck
def onN(x:R)(m:Res R):Res R:=match x with
 | .val .non=>m
 | _=>.stuck
open Classical in
def atQ{α:Type}(l:Nat)(ts:List T)(m:Res α):Res α:=match m with
 | .ok a s=>if s[l]?=some (.lst ts)then .ok a s else .stuck
 | r=>r
def akr(m:Md)(r:Res R):Res R:=match m with | .i=>r | .j=>r | _=>.stuck
mutual
def ev(C:Cf):E→Md→Fr→Sto→Res R
 | .var i,m,σ,s=>fin m (.of (look σ i) s)
 | .cst t,m,_,s=>fin m (.ok (.val t) s)
 | .glb _ i,m,_,s=>fin m (.ok (.val (.int i)) s)
 | .bin o a b,m,σ,s=>fin m ((ev C a .v σ s).bind fun x s1=>(ev C b .v σ s1).bind fun y s2=>.of (opR o x y) s2)
 | .neg a,m,σ,s=>fin m ((ev C a .v σ s).bind fun x s1=>.of (x.int?.map fun i=>.val (.int (-i))) s1)
 | .not a,.t,σ,s=>(ev C a .t σ s).bind fun x s1=>onB x (.ok (.val (.bl false)) s1) (.ok (.val (.bl true)) s1)
 | .not a,m,σ,s=>fin m ((ev C a .v σ s).bind fun x s1=>.of ((tru x).map fun k=>.val (.bl (!k))) s1)
 | .cmp c a b,m,σ,s=>fin m ((ev C a .v σ s).bind fun x s1=>(ev C b .v σ s1).bind fun y s2=>.of ((act c x y).map fun k=>.val (.bl k)) s2)
 | .and a b,.t,σ,s=>(ev C a .t σ s).bind fun x s1=>onB x (ev C b .t σ s1) (.ok (.val (.bl false)) s1)
 | .or a b,.t,σ,s=>(ev C a .t σ s).bind fun x s1=>onB x (.ok (.val (.bl true)) s1) (ev C b .t σ s1)
 | .and a b,m,σ,s=>fin m ((ev C a .v σ s).bind fun x s1=>onB x (ev C b .v σ s1) (.ok (.val (.bl false)) s1))
 | .or a b,m,σ,s=>fin m ((ev C a .v σ s).bind fun x s1=>onB x (.ok (.val (.bl true)) s1) (ev C b .v σ s1))
 | .ife c a b,m,σ,s=>fin m ((ev C c .t σ s).bind fun x s1=>onB x (ev C a .v σ s1) (ev C b .v σ s1))
 | .tup es,m,σ,s=>fin m ((evs C es σ s).bind fun ts s1=>.ok (.val (.tup ts)) s1)
 | .lst es,m,σ,s=>fin m ((evs C es σ s).bind fun ts s1=>.ok (.val (.lst ts)) s1)
 | .sub a b,m,σ,s=>fin m ((ev C a .v σ s).bind fun x s1=>(ev C b .v σ s1).bind fun y s2=>onI y fun i=>.of ((aaQ (x.dr s2) i).map .val) s2)
 | .cutL a l,m,σ,s=>fin m ((ev C a .v σ s).bind fun x s1=>(ev C l .v σ s1).bind fun y s2=>onI y fun i=>.of (aem (x.dr s2) (some i) none) s2)
 | .cutU a h,m,σ,s=>fin m ((ev C a .v σ s).bind fun x s1=>(ev C h .v σ s1).bind fun y s2=>onI y fun i=>.of (aem (x.dr s2) none (some i)) s2)
 | .cutLU a l h,m,σ,s=>fin m ((ev C a .v σ s).bind fun x s1=>(ev C l .v σ s1).bind fun y s2=>onI y fun i=>(ev C h .v σ s2).bind fun z s3=>onI z fun j=>.of (aem (x.dr s3) (some i) (some j)) s3)
 | .rev a,m,σ,s=>fin m ((ev C a .v σ s).bind fun x s1=>.of (x.seq.map fun ts=>.val (.lst ts.reverse)) s1)
 | .b1 f a,m,σ,s=>fin m ((ev C a .v σ s).bind fun x s1=>.of (b1R f (x.dr s1)) s1)
 | .mn2 a b,m,σ,s=>fin m ((ev C a .v σ s).bind fun x s1=>(ev C b .v σ s1).bind fun y s2=>.of (do let i ←x.int?;let j ←y.int?;some (.val (.int (if j<i then j else i)))) s2)
 | .mx2 a b,m,σ,s=>fin m ((ev C a .v σ s).bind fun x s1=>(ev C b .v σ s1).bind fun y s2=>.of (do let i ←x.int?;let j ←y.int?;some (.val (.int (if j>i then j else i)))) s2)
 | .mxd a d,m,σ,s=>fin m ((ev C a .v σ s).bind fun x s1=>(ev C d .v σ s1).bind fun y s2=>.of (do let ts ←x.seq;let is ←ac5 ts;let d ←y.int?;some (.val (.int ((avL is).getD d)))) s2)
 | .mnd a d,m,σ,s=>fin m ((ev C a .v σ s).bind fun x s1=>(ev C d .v σ s1).bind fun y s2=>.of (do let ts ←x.seq;let is ←ac5 ts;let d ←y.int?;some (.val (.int ((awI is).getD d)))) s2)
 | .mnk a i j l k p q,m,σ,s=>fin m ((ev C a .v σ s).bind fun x s1=>.of (if auM s1 l k p q then x.seq.bind fun ts=>(ayF i j ts).map .val else none) s1)
 | .sok _ _ _,_,_,_=>.stuck
 | .isi a c,m,σ,s=>fin m ((ev C a .v σ s).bind fun x s1=>.of ((agK C.sub (x.dr s1) c).map fun k=>.val (.bl k)) s1)
 | .call f es ds,m,σ,s=>fin m ((evr C es σ s).bind fun rs s1=>C.cf f (rs++ds.map .val) s1)
 | .comp e g it,m,σ,s=>fin m ((ev C it .i σ s).bind fun x s1=>onL x fun ts=>(aa0 (fun t s=>onO (aaq σ g t) fun σ'=>one (ev C e .v σ' s)) ts s1).bind fun q s2=>.ok (.val (.lst q)) s2)
 | .compIf e g it c,m,σ,s=>fin m ((ev C it .i σ s).bind fun x s1=>onL x fun ts=>(aa0 (fun t s=>onO (aaq σ g t) fun σ'=>
   match ev C c .t σ' s with
   | .ok (.val (.bl true)) s2=>one (ev C e .v σ' s2)
   | .ok (.val (.bl false)) s2=>.ok none s2
   | .exc c s2=>.exc c s2
   | _=>.stuck) ts s1).bind fun q s2=>.ok (.val (.lst q)) s2)
 | .rng1 a,m,σ,s=>akr m ((ev C a .v σ s).bind fun x s1=>onI x fun j=>if bnd j&&decide (j≤lim)then .ok (.val (.lst (aao 0 j))) s1 else .stuck)
 | .rng2 a b,m,σ,s=>akr m ((ev C a .v σ s).bind fun x s1=>onI x fun i=>(ev C b .v σ s1).bind fun y s2=>onI y fun j=>if bnd i&&bnd j&&decide (j-i≤lim)then .ok (.val (.lst (aao i j))) s2 else .stuck)
 | .enm a,m,σ,s=>akr m ((ev C a .v σ s).bind fun x s1=>onL x fun ts=>.ok (.val (.lst (enT 0 ts))) s1)
 | .zip a b,m,σ,s=>akr m ((ev C a .v σ s).bind fun x s1=>(ev C b .v σ s1).bind fun y s2=>onL x fun ts=>onL y fun us=>.ok (.val (.lst (ziT ts us))) s2)
 | .fld a c f,m,σ,s=>fin m ((ev C a .v σ s).bind fun x s1=>.of ((ae2 s1 x c f).map .val) s1)
 | .cell a,m,σ,s=>fin m ((ev C a .v σ s).bind fun x s1=>onL x fun ts=>.ok (.val (.loc s1.length)) (s1++[.lst ts]))
 | .new c f n es ds,m,σ,s=>fin m ((evr C es σ s).bind fun rs s1=>(C.cf f (.val (.loc s1.length)::rs++ds.map .val) (s1++[.ins c (List.replicate n none)])).bind fun r s2=>onN r (.ok (.val (.loc s1.length)) s2))
 | .meth a c f es ds,m,σ,s=>fin m ((ev C a .v σ s).bind fun x s1=>onO (x.locI s1 c) fun _=>(evr C es σ s1).bind fun rs s2=>C.cf f (x::rs++ds.map .val) s2)
 | .compC e g it,m,σ,s=>fin m ((ev C it .v σ s).bind fun x s1=>onO (x.locL s1) fun p=>(aa0 (fun t s=>onO (aaq σ g t) fun σ'=>atQ p.1 p.2 (one (ev C e .v σ' s))) p.2 s1).bind fun q s2=>.ok (.val (.lst q)) s2)
 | .cmpD c a b,m,σ,s=>fin m ((ev C a .v σ s).bind fun x s1=>(ev C b .v σ s1).bind fun y s2=>.of ((act c (x.dr s2) (y.dr s2)).map fun k=>.val (.bl k)) s2)
 | .join x b,m,σ,s=>fin m ((ev C b .v σ s).bind fun y s1=>.of (aff x (y.dr s1)) s1)
 | .splt x a,m,σ,s=>fin m ((ev C a .v σ s).bind fun y s1=>.of (alO x (y.dr s1)) s1)
 | .intS a,m,σ,s=>fin m ((ev C a .v σ s).bind fun y s1=>.of (aog (y.dr s1)) s1)
 | .isB a c,m,σ,s=>fin m ((ev C a .v σ s).bind fun y s1=>.of (anV s1 c y) s1)
 | .lenS a,m,σ,s=>fin m ((ev C a .v σ s).bind fun y s1=>.of (ar2 (y.dr s1)) s1)
def evs(C:Cf):List E→Fr→Sto→Res (List T)
 | [],_,s=>.ok [] s
 | e::es,σ,s=>(ev C e .v σ s).bind fun x s1=>onV x fun t=>(evs C es σ s1).bind fun ts s2=>.ok (t::ts) s2
def evr(C:Cf):List E→Fr→Sto→Res (List R)
 | [],_,s=>.ok [] s
 | e::es,σ,s=>(ev C e .v σ s).bind fun x s1=>(evr C es σ s1).bind fun xs s2=>.ok (x::xs) s2
end
def frz(σ:Fr)(i:Nat):Fr:=match σ[i]? with
 | some (some (.own ts))=>σ.set i (some (.val (.lst ts)))
 | _=>σ
def aai(σ:Fr)(i:Nat)(ts:List T):Fr:=σ.set i (some (.own ts))
def ab5(σ:Fr)(i:Nat):Option (List T):=match σ[i]? with
 | some (some (.own ts))=>some ts
 | _=>none
def R.sto(r:R):Option T:=r.val?
def Res.st(m:Res R)(σ:Fr)(k:R→Sto→SR):SR:=match m with
 | .stuck=>.stuck
 | .ok a s=>k a s
 | .exc c s=>.exc c σ s
@[simp] theorem Res.st_ok (a:R) (s:Sto) (σ:Fr) (k:R→Sto→SR):(Res.ok a s).st σ k=k a s:=rfl
@[simp] theorem Res.st_exc (c:Nat) (s:Sto) (σ:Fr) (k:R→Sto→SR):(Res.exc c s).st σ k=.exc c σ s:=rfl
def SR.bind(m:SR)(k:Fr→Sto→SR):SR:=match m with
 | .next σ s=>k σ s
 | r=>r
@[simp] theorem SR.bind_next (σ:Fr) (s:Sto) (k:Fr→Sto→SR):(SR.next σ s).bind k=k σ s:=rfl
@[simp] theorem SR.bind_ret (r:R) (s:Sto) (k:Fr→Sto→SR):(SR.ret r s).bind k=.ret r s:=rfl
@[simp] theorem SR.bind_retO (ts:List T) (s:Sto) (k:Fr→Sto→SR):(SR.retO ts s).bind k=.retO ts s:=rfl
@[simp] theorem SR.bind_exc (c:Nat) (σ:Fr) (s:Sto) (k:Fr→Sto→SR):(SR.exc c σ s).bind k=.exc c σ s:=rfl
@[simp] theorem SR.bind_stuck (k:Fr→Sto→SR):SR.stuck.bind k=.stuck:=rfl
def onS{α:Type}(o:Option α)(f:α→SR):SR:=match o with
 | some a=>f a
 | none=>.stuck
@[simp] theorem adT {α:Type} (a:α) (f:α→SR):onS (some a) f=f a:=rfl
@[simp] theorem arD {α:Type} (f:α→SR):onS none f=.stuck:=rfl
def arX(x:R)(a b:SR):SR:=match x with
 | .val (.bl true)=>a
 | .val (.bl false)=>b
 | _=>.stuck
def R.lst?:R→Option (List T)
 | .val (.lst ts)=>some ts
 | _=>none
def abr(g:Tg)(body:Fr→Sto→SR):List T→Fr→Sto→SR
 | [],σ,s=>.next σ s
 | t::ts,σ,s=>onS (aaq σ g t) fun σ'=>(body σ' s).bind fun σ2 s2=>abr g body ts σ2 s2
open Classical in
def forC(g:Tg)(body:Fr→Sto→SR)(l:Nat)(all:List T):List T→Fr→Sto→SR
 | [],σ,s=>if s[l]?=some (.lst all)then .next σ s else .stuck
 | t::ts,σ,s=>if s[l]?=some (.lst all)then onS (aaq σ g t) fun σ'=>(body σ' s).bind fun σ2 s2=>forC g body l all ts σ2 s2 else .stuck
def SR.nox(r:SR):SR:=match r with
 | .exc _ _ _=>.stuck
 | r=>r
def lock(σ:Fr)(i:Nat):Fr:=match σ[i]? with
 | some (some (.own ts))=>σ.set i (some (.lck ts))
 | _=>σ
def unlock(σ:Fr)(i:Nat):Fr:=match σ[i]? with
 | some (some (.lck ts))=>σ.set i (some (.own ts))
 | _=>σ
def SR.unlock(r:SR)(i:Nat):SR:=match r with
 | .next σ s=>.next (IP.unlock σ i) s
 | .exc c σ s=>.exc c (IP.unlock σ i) s
 | r=>r
def ab8(σ:Fr)(i:Nat):Bool:=match σ[i]? with
 | some (some (.own _))=>true
 | _=>false
def abn(C:Cf):E→Bool
 | .lst _=>true | .comp _ _ _=>true | .compIf _ _ _ _=>true | .b1 .list _=>true | .rev _=>true | .bin .add _ _=>true | .call f _ _=>C.fr f | _=>false
mutual
def ex(C:Cf):S→Fr→Sto→SR
 | .asg i e,σ,s=>(ev C e .v σ s).st σ fun x s1=>onS x.val? fun t=>.next (put σ i t) s1
 | .asgT is e,σ,s=>(ev C e .v σ s).st σ fun x s1=>onS x.tup? fun ts=>onS (puts σ is ts) fun σ'=>.next σ' s1
 | .mk i e,σ,s=>if abn C e then(ev C e .v σ s).st σ fun x s1=>onS x.lst? fun ts=>.next (aai σ i ts) s1 else .stuck
 | .app i e,σ,s=>onS (ab5 σ i) fun ts=>(ev C e .v σ s).st σ fun x s1=>onS x.val? fun t=>if ts.length<lim then .next (aai σ i (ts++[t])) s1 else .stuck
 | .ext i e,σ,s=>onS (ab5 σ i) fun ts=>(ev C e .v σ s).st σ fun x s1=>onS x.lst? fun us=>if ts.length+us.length≤lim then .next (aai σ i (ts++us)) s1 else .stuck
 | .put i j e,σ,s=>onS (ab5 σ i) fun ts=>(ev C e .v σ s).st σ fun x s1=>onS x.val? fun t=>(ev C j .v σ s1).st σ fun y s2=>onS y.int? fun k=>onS (L2.ixN ts.length k) fun n=>.next (aai σ i (ts.set n t)) s2
 | .pop k i,σ,s=>onS (ab5 σ i) fun ts=>onS ts.getLast? fun t=>.next (put (aai σ i ts.dropLast) k t) s
 | .frz i,σ,s=>.next (frz σ i) s
 | .ifs c a b,σ,s=>(ev C c .t σ s).st σ fun x s1=>arX x (exs C a σ s1) (exs C b σ s1)
 | .whl c b,σ,s=>C.wl (fun σ s=>(ev C c .t σ s).bind fun x s1=>.of (match x with | .val (.bl k)=>some k | _=>none) s1) (fun σ s=>exs C b σ s) σ s
 | .for_ g it b,σ,s=>match it with
  | .var i=>(ev C (.var i) .i σ s).st σ fun x s1=>onS x.lst? fun ts=>if ab8 σ i then(abr g (fun σ s=>exs C b σ s) ts (lock σ i) s1).unlock i else abr g (fun σ s=>exs C b σ s) ts σ s1
  | it=>(ev C it .j σ s).st σ fun x s1=>onS x.lst? fun ts=>abr g (fun σ s=>exs C b σ s) ts σ s1
 | .ret e,σ,s=>(ev C e .v σ s).st σ fun x s1=>.ret x s1
 | .retO e,σ,s=>if abn C e then(ev C e .v σ s).st σ fun x s1=>onS x.lst? fun ts=>.retO ts s1 else .stuck
 | .retV i,σ,s=>onS (ab5 σ i) fun ts=>.retO ts s
 | .exp e,σ,s=>(ev C e .v σ s).st σ fun _ s1=>.next σ s1
 | .raise c,σ,s=>.exc c σ s
 | .try_ b c nm h,σ,s=>match exs C b σ s with
  | .exc d σ1 s1=>if C.sub d c then(match nm with
    | none=>(exs C h σ1 s1).nox
    | some i=>(exs C h (put σ1 i (.exc d)) s1).nox.bind fun σ2 s2=>.next (σ2.set i none) s2)else .exc d σ1 s1
  | r=>r
 | .putL a j e,σ,s=>(ev C e .v σ s).st σ fun x s1=>onS x.val? fun t=>(ev C a .v σ s1).st σ fun y s2=>(ev C j .v σ s2).st σ fun z s3=>onS (y.locL s3) fun p=>onS z.int? fun k=>onS (L2.ixN p.2.length k) fun n=>.next σ (s3.set p.1 (.lst (p.2.set n t)))
 | .appL a e,σ,s=>(ev C a .v σ s).st σ fun y s1=>onS (y.locL s1) fun _=>(ev C e .v σ s1).st σ fun x s2=>onS x.val? fun t=>onS (y.locL s2) fun p=>if p.2.length<lim then .next σ (s2.set p.1 (.lst (p.2++[t])))else .stuck
 | .setF a c f e,σ,s=>(ev C e .v σ s).st σ fun x s1=>onS x.val? fun t=>(ev C a .v σ s1).st σ fun y s2=>onS (y.locI s2 c) fun p=>if f<p.2.length then .next σ (s2.set p.1 (.ins c (p.2.set f (some t))))else .stuck
 | .popL a,σ,s=>(ev C a .v σ s).st σ fun y s1=>onS (y.locL s1) fun p=>if p.2.isEmpty then .stuck else .next σ (s1.set p.1 (.lst p.2.dropLast))
 | .clrL a,σ,s=>(ev C a .v σ s).st σ fun y s1=>onS (y.locL s1) fun p=>.next σ (s1.set p.1 (.lst []))
 | .forC g it b,σ,s=>(ev C it .v σ s).st σ fun x s1=>onS (x.locL s1) fun p=>forC g (fun σ s=>exs C b σ s) p.1 p.2 p.2 σ s1
 | .pass,σ,s=>.next σ s
 | .tryN b,σ,s=>(exs C b σ s).nox
def exs(C:Cf):List S→Fr→Sto→SR
 | [],σ,s=>.next σ s
 | a::r,σ,s=>(ex C a σ s).bind fun σ1 s1=>exs C r σ1 s1
end
structure Fn where
 pars:Nat
 size:Nat
 fr:Bool
 body:List S
def ofR:R→B
 | .val t=>.val t
 | .bor ts=>.bor ts
def aam(F:Fn)(rs:List R):Fr:=rs.map (fun r=>some (ofR r))++List.replicate (F.size-rs.length) none
def aaC(x fr:Bool):SR→Res R
 | .ret r s=>if fr then .stuck else .ok r s
 | .retO ts s=>if fr then .ok (.val (.lst ts)) s else .stuck
 | .next _ s=>if fr then .stuck else .ok (.val .non) s
 | .exc c _ s=>if x then .exc c s else .stuck
 | .stuck=>.stuck
def aa3(c:Fr→Sto→Res Bool)(b:Fr→Sto→SR):Nat→Fr→Sto→SR
 | 0,_,_=>.stuck
 | n+1,σ,s=>match c σ s with
  | .stuck=>.stuck
  | .exc d s1=>.exc d σ s1
  | .ok false s1=>.next σ s1
  | .ok true s1=>(b σ s1).bind fun σ2 s2=>aa3 c b n σ2 s2
open Classical in
def aad(c:Fr→Sto→Res Bool)(b:Fr→Sto→SR)(σ:Fr)(s:Sto):SR:=
 if h:∃n,aa3 c b n σ s≠.stuck then aa3 c b (choose h) σ s else .stuck
def adK(fs:List Fn)(f:Nat):Bool:=match fs[f]? with
 | some F=>F.fr
 | none=>false
def run(x:Bool)(fs:List Fn)(sub:Nat→Nat→Bool)(wl:(Fr→Sto→Res Bool)→(Fr→Sto→SR)→Fr→Sto→SR):Nat→Nat→List R→Sto→Res R
 | 0,_,_,_=>.stuck
 | k+1,f,rs,s=>match fs[f]? with
  | none=>.stuck
  | some F=>if rs.length=F.pars then aaC x F.fr (exs ⟨run x fs sub wl k,sub,adK fs,wl⟩ F.body (aam F rs) s)else .stuck
end IP
end
noncomputable section
namespace IP
open PySem L2
structure Gx where
 K:PySem.W.Frag
 cA:Nat→Addr
 iA:Nat→Addr
 nm:Nat→List Str
structure Wo where
 n:Nat
 io:Nat→Addr
 Z:Addr→Prop
def agL(a:Addr)(C:Addr):Heap→Prop:=fun h=>∃o,h.get? a=some o∧o.cls=.ref C
def asq(c:Addr)(q:Str):Heap→Prop:=fun h=>h.CodeRec (.ref c) q
section
variable(G:Gx)
mutual
def Rep(w:Wo)(H:Hp):T→V→Prop
 | .non,v=>v=.non
 | .bl b,v=>v=.bl b
 | .int i,v=>v=.int i
 | .str x,v=>v=.str x
 | .tup ts,v=>∃a vs,v=.ref a∧H a=some (.tup vs)∧aah w H ts vs
 | .lst ts,v=>∃a vs,v=.ref a∧w.Z a∧Rd H a (.lst vs)∧aah w H ts vs
 | .loc l,v=>l<w.n∧v=.ref (w.io l)
 | .exc c,v=>∃a,v=.ref a∧H a=some (.ext (agL a (G.cA c)))
def aah(w:Wo)(H:Hp):List T→List V→Prop
 | [],vs=>vs=[]
 | t::ts,vs=>∃v r,vs=v::r∧Rep w H t v∧aah w H ts r
end
end
def notLoc(w:Wo)(a:Addr):Prop:=∀l,l<w.n→a≠w.io l
structure Le(w w':Wo)(H H':Hp):Prop where
 n:w.n≤w'.n
 io:∀l,l<w.n→w'.io l=w.io l
 Z:∀a,w.Z a→w'.Z a
 keep:∀a o,H a=some o→notLoc w a→H' a=some o
 newL:∀l,w.n≤l→l<w'.n→H (w'.io l)=none
 newZ:∀a,w'.Z a→w.Z a∨H a=none
 some_:∀a,H a≠none→H' a≠none
theorem Le.refl(w:Wo)(H:Hp):Le w w H H:=⟨Nat.le_refl _,fun _ _=>rfl,fun _ z=>z,fun _ _ e _=>e,fun l a b=>absurd (Nat.lt_of_lt_of_le b a) (Nat.lt_irrefl _),fun _ z=>.inl z,fun _ z=>z⟩
theorem Le.trans{w w1 w2:Wo}{H H1 H2:Hp}(a:Le w w1 H H1)(b:Le w1 w2 H1 H2):Le w w2 H H2 where
 n:=Nat.le_trans a.n b.n
 io:=fun l h=>(b.io l (Nat.lt_of_lt_of_le h a.n)).trans (a.io l h)
 Z:=fun x z=>b.Z x (a.Z x z)
 keep:=fun x o e nl=>b.keep x o (a.keep x o e nl) fun l hl q=>by
  by_cases h:l<w.n
  ·exact nl l h (q.trans (a.io l h))
  ·have:=a.newL l (Nat.le_of_not_lt h) hl
   rw[←q,e]at this
   cases this
 newL:=fun l h1 h2=>by
  by_cases h:l<w1.n
  ·rw[b.io l h]
   exact a.newL l h1 h
  ·have q:=b.newL l (Nat.le_of_not_lt h) h2
   cases e:H (w2.io l)with
   | none=>rfl
   | some o=>exact absurd q (a.some_ _ (by rw[e];intro z;cases z))
 newZ:=fun x z=>by
  rcases b.newZ x z with z|z
  ·exact a.newZ x z
  ·refine .inr ?_
   cases e:H x with
   | none=>rfl
   | some o=>exact absurd z (a.some_ x (by rw[e];intro q;cases q))
 some_:=fun x z=>b.some_ x (a.some_ x z)
section
variable{G:Gx}
def arI(nm:List Str)(kvs:List (Str×V)):Prop:=(kvs.map (·.1)).Nodup∧∀x∈kvs.map (·.1),x∈nm
def abm(G:Gx)(w:Wo)(H:Hp)(a:Addr):Cell→Prop
 | .lst ts=>∃vs,H a=some (.lst vs)∧aah G w H ts vs
 | .ins c fs=>∃dx kvs,H a=some (.ins (G.iA c) dx kvs)∧arI (G.nm c) kvs∧∀(i:Nat) (x:Str) (t:T),(G.nm c)[i]?=some x→fs[i]?=some (some t)→∃v,kvs.lookup x=some v∧Rep G w H t v
 | .tbl k p q=>a=G.iA k∧∃ps:Array Value,H a=some (.tbl ps)∧TriplesOk ps.toList∧∀cv,codeAmong p ps.toList=some cv→∃c,cv=.ref c∧H c=some (.ext (asq c q))
structure StoOk(G:Gx)(w:Wo)(H:Hp)(s:Sto):Prop where
 len:s.length=w.n
 inj:∀l m,l<w.n→m<w.n→w.io l=w.io m→l=m
 nz:∀l,l<w.n→¬w.Z (w.io l)
 cell:∀l c,s[l]?=some c→abm G w H (w.io l) c
 zt:∀a,w.Z a→∃vs,Rd H a (.lst vs)
theorem StoOk.loc{w:Wo}{H:Hp}{s:Sto}(S:StoOk G w H s){l:Nat}(h:l<w.n):(∃vs,H (w.io l)=some (.lst vs))∨(∃c dx kvs,H (w.io l)=some (.ins c dx kvs))∨∃ps,H (w.io l)=some (.tbl ps):=by
 have hl:l<s.length:=by rw[S.len];exact h
 have q:=S.cell l s[l] (List.getElem?_eq_getElem hl)
 cases e:s[l]with
 | lst ts=>rw[e]at q;obtain⟨vs,q,_⟩:=q;exact .inl ⟨vs,q⟩
 | ins c fs=>rw[e]at q;obtain⟨dx,kvs,q,_⟩:=q;exact .inr (.inl ⟨_,dx,kvs,q⟩)
 | tbl k p q'=>rw[e]at q;obtain⟨_,ps,q,_⟩:=q;exact .inr (.inr ⟨ps,q⟩)
theorem StoOk.notLoc{w:Wo}{H:Hp}{s:Sto}(S:StoOk G w H s){a:Addr}{o:HO}(e:H a=some o)(h1:∀vs,o≠.lst vs)(h2:∀c dx kvs,o≠.ins c dx kvs)(h3:∀ps,o≠.tbl ps:=by intro _ z;cases z):IP.notLoc w a:=fun l hl q=>by
 subst q
 rcases S.loc hl with⟨vs,z⟩|⟨c,dx,kvs,z⟩|⟨ps,z⟩
 ·rw[e]at z;exact h1 vs (Option.some.inj z)
 ·rw[e]at z;exact h2 c dx kvs (Option.some.inj z)
 ·rw[e]at z;exact h3 ps (Option.some.inj z)
theorem StoOk.zLoc{w:Wo}{H:Hp}{s:Sto}(S:StoOk G w H s){a:Addr}(z:w.Z a):IP.notLoc w a:=fun l hl q=>S.nz l hl (q▸z)
theorem StoOk.fresh{w:Wo}{H:Hp}{s:Sto}(S:StoOk G w H s){a:Addr}(h:H a=none):¬w.Z a∧IP.notLoc w a:=by
 refine⟨fun z=>?_,fun l hl q=>?_⟩
 ·obtain⟨vs,r|⟨o,r⟩⟩:=S.zt a z
  ·rw[h]at r;cases r
  ·rw[h]at r;cases r
 ·subst q
  rcases S.loc hl with⟨vs,z⟩|⟨c,dx,kvs,z⟩|⟨ps,z⟩<;>(rw[h]at z;cases z)
theorem Rd.keep{w w':Wo}{H H':Hp}{a:Addr}{u:HO}(L:Le w w' H H')(nl:IP.notLoc w a)(r:Rd H a u):Rd H' a u:=by
 rcases r with r|⟨o,r⟩
 ·exact .inl (L.keep _ _ r nl)
 ·exact .inr ⟨o,L.keep _ _ r nl⟩
mutual
theorem Rep.mono{w w':Wo}{H H':Hp}{s:Sto}(L:Le w w' H H')(S:StoOk G w H s):∀(t:T) (v:V),Rep G w H t v→Rep G w' H' t v
 | .non,v,h=>h
 | .bl b,v,h=>h
 | .int i,v,h=>h
 | .str x,v,h=>h
 | .tup ts,v,⟨a,vs,e,h,r⟩=>⟨a,vs,e,L.keep _ _ h (S.notLoc h (fun _ z=>by cases z) fun _ _ _ z=>by cases z),aah.mono L S ts vs r⟩
 | .lst ts,v,⟨a,vs,e,z,h,r⟩=>⟨a,vs,e,L.Z _ z,Rd.keep L (S.zLoc z) h,aah.mono L S ts vs r⟩
 | .loc l,v,⟨h,e⟩=>⟨Nat.lt_of_lt_of_le h L.n,by rw[L.io l h];exact e⟩
 | .exc c,v,⟨a,e,h⟩=>⟨a,e,L.keep _ _ h (S.notLoc h (fun _ z=>by cases z) fun _ _ _ z=>by cases z)⟩
theorem aah.mono{w w':Wo}{H H':Hp}{s:Sto}(L:Le w w' H H')(S:StoOk G w H s):∀(ts:List T) (vs:List V),aah G w H ts vs→aah G w' H' ts vs
 | [],vs,h=>h
 | t::ts,vs,⟨v,r,e,h,q⟩=>⟨v,r,e,Rep.mono L S t v h,aah.mono L S ts r q⟩
end
theorem aah.length{w:Wo}{H:Hp}:∀{ts:List T}{vs:List V},aah G w H ts vs→ts.length=vs.length
 | [],_,h=>by rw[h];rfl
 | t::ts,_,⟨v,r,e,_,q⟩=>by subst e;simp[aah.length q]
theorem aah.get{w:Wo}{H:Hp}:∀{ts:List T}{vs:List V}{i:Nat}{t:T},aah G w H ts vs→ts[i]?=some t→∃v,vs[i]?=some v∧Rep G w H t v
 | [],_,i,t,h,e=>by simp at e
 | t::ts,_,0,u,⟨v,r,e,h,q⟩,z=>by subst e;simp at z;subst z;exact⟨v,rfl,h⟩
 | t::ts,_,i+1,u,⟨v,r,e,h,q⟩,z=>by
  subst e
  obtain⟨x,h1,h2⟩:=aah.get q (i:=i) (t:=u) (by simpa using z)
  exact⟨x,by simpa using h1,h2⟩
theorem aah.get'{w:Wo}{H:Hp}{ts:List T}{vs:List V}{i:Nat}{v:V}(h:aah G w H ts vs)(e:vs[i]?=some v):∃t,ts[i]?=some t∧Rep G w H t v:=by
 have hi:i<ts.length:=by
  rw[h.length]
  exact(List.getElem?_eq_some_iff.mp e).1
 obtain⟨u,h1,h2⟩:=h.get (List.getElem?_eq_getElem hi)
 rw[e]at h1
 cases h1
 exact⟨_,List.getElem?_eq_getElem hi,h2⟩
theorem aah.append{w:Wo}{H:Hp}:∀{ts us:List T}{vs ws:List V},aah G w H ts vs→aah G w H us ws→aah G w H (ts++us) (vs++ws)
 | [],us,_,ws,h,q=>by rw[h];exact q
 | t::ts,us,_,ws,⟨v,r,e,h,k⟩,q=>by subst e;exact⟨v,r++ws,rfl,h,aah.append k q⟩
theorem aah.set{w:Wo}{H:Hp}{t:T}{v:V}(rv:Rep G w H t v):∀{ts:List T}{vs:List V} (i:Nat),aah G w H ts vs→aah G w H (ts.set i t) (vs.set i v)
 | [],_,i,h=>by rw[h];exact rfl
 | x::ts,_,0,⟨y,r,e,h,k⟩=>by subst e;exact⟨v,r,rfl,rv,k⟩
 | x::ts,_,i+1,⟨y,r,e,h,k⟩=>by subst e;exact⟨y,r.set i v,rfl,h,aah.set rv i k⟩
theorem aah.drop{w:Wo}{H:Hp}:∀{ts:List T}{vs:List V} (i:Nat),aah G w H ts vs→aah G w H (ts.drop i) (vs.drop i)
 | ts,vs,0,h=>h
 | [],_,i+1,h=>by rw[h];exact rfl
 | x::ts,_,i+1,⟨y,r,e,h,k⟩=>by subst e;exact aah.drop i k
theorem aah.take{w:Wo}{H:Hp}:∀{ts:List T}{vs:List V} (i:Nat),aah G w H ts vs→aah G w H (ts.take i) (vs.take i)
 | ts,vs,0,h=>by simp;exact rfl
 | [],_,i+1,h=>by rw[h];exact rfl
 | x::ts,_,i+1,⟨y,r,e,h,k⟩=>by subst e;exact⟨y,r.take i,rfl,h,aah.take i k⟩
theorem aah.reverse{w:Wo}{H:Hp}:∀{ts:List T}{vs:List V},aah G w H ts vs→aah G w H ts.reverse vs.reverse
 | [],_,h=>by rw[h];exact rfl
 | x::ts,_,⟨y,r,e,h,k⟩=>by
  subst e
  rw[List.reverse_cons,List.reverse_cons]
  exact aah.append (aah.reverse k) ⟨y,[],rfl,h,rfl⟩
theorem aah.cut{w:Wo}{H:Hp}{ts:List T}{vs:List V}(h:aah G w H ts vs)(lo hi:Option Int):aah G w H (amm ts lo hi) (alp vs lo hi):=by
 unfold amm alp
 rw[←h.length]
 exact(h.drop _).take _
def aaX(G:Gx)(w:Wo)(H:Hp):R→V→Prop
 | .val t,v=>Rep G w H t v
 | .bor ts,v=>∃a vs,v=.ref a∧H a=some (.lst vs)∧aah G w H ts vs∧notLoc w a
def acK(G:Gx)(w:Wo)(H:Hp):R→V→Prop
 | .val t,v=>Rep G w H t v
 | .bor ts,v=>∃a vs,v=.ref a∧H a=some (.lst vs)∧aah G w H ts vs
theorem aaX.d{w:Wo}{H:Hp}:∀{r:R}{v:V},aaX G w H r v→acK G w H r v
 | .val t,v,h=>h
 | .bor ts,v,⟨a,vs,e,h,r,_⟩=>⟨a,vs,e,h,r⟩
theorem aaX.dr{w:Wo}{H:Hp}{s:Sto}(S:StoOk G w H s){r:R}{v:V}(h:aaX G w H r v):acK G w H (r.dr s) v:=by
 unfold R.dr
 split
 ·rename_i l
  obtain⟨hl,e⟩:=h
  split
  ·rename_i ts q
   obtain⟨vs,h1,h2⟩:=S.cell l _ q
   exact⟨w.io l,vs,e,h1,h2⟩
  ·exact⟨hl,e⟩
 ·exact h.d
theorem aaX.mono{w w':Wo}{H H':Hp}{s:Sto}(L:Le w w' H H')(S:StoOk G w H s):∀{r:R}{v:V},aaX G w H r v→aaX G w' H' r v
 | .val t,v,h=>Rep.mono L S t v h
 | .bor ts,v,⟨a,vs,e,h,r,nl⟩=>⟨a,vs,e,L.keep _ _ h nl,aah.mono L S ts vs r,fun l hl q=>by
   by_cases k:l<w.n
   ·exact nl l k (q.trans (L.io l k))
   ·have:=L.newL l (Nat.le_of_not_lt k) hl
    rw[←q,h]at this
    cases this⟩
def aaZ(G:Gx)(w:Wo)(H:Hp):List R→List V→Prop
 | [],vs=>vs=[]
 | t::ts,vs=>∃v r,vs=v::r∧aaX G w H t v∧aaZ G w H ts r
theorem aaZ.mono{w w':Wo}{H H':Hp}{s:Sto}(L:Le w w' H H')(S:StoOk G w H s):∀{ts:List R}{vs:List V},aaZ G w H ts vs→aaZ G w' H' ts vs
 | [],vs,h=>h
 | t::ts,vs,⟨v,r,e,h,q⟩=>⟨v,r,e,aaX.mono L S h,aaZ.mono L S q⟩
theorem aaZ.length{w:Wo}{H:Hp}:∀{ts:List R}{vs:List V},aaZ G w H ts vs→ts.length=vs.length
 | [],_,h=>by rw[h];rfl
 | t::ts,_,⟨v,r,e,_,q⟩=>by subst e;simp[aaZ.length q]
def ajs:B→Option (List T)
 | .own ts=>some ts
 | .lck ts=>some ts
 | _=>none
structure FrOk(G:Gx)(w:Wo)(H H₀:Hp)(σ:Fr)(σV:St):Prop where
 len:σ.length=σV.length
 val:∀(i:Nat) (t:T),σ[i]?=some (some (.val t))→∃v,σV[i]?=some (some v)∧Rep G w H t v
 own:∀(i:Nat) (b:B) (ts:List T),σ[i]?=some (some b)→ajs b=some ts→∃a vs,σV[i]?=some (some (.ref a))∧H a=some (.lst vs)∧aah G w H ts vs∧H₀ a=none∧¬w.Z a∧notLoc w a
 apart:∀(i j:Nat) (b c:B) (ts us:List T) (a:Addr),i≠j→σ[i]?=some (some b)→ajs b=some ts→σ[j]?=some (some c)→ajs c=some us→σV[i]?=some (some (.ref a))→σV[j]?=some (some (.ref a))→False
 bor:∀(i:Nat) (ts:List T),σ[i]?=some (some (.bor ts))→∃a vs,σV[i]?=some (some (.ref a))∧H a=some (.lst vs)∧aah G w H ts vs∧H₀ a≠none∧notLoc w a
theorem notLoc.mono{w w':Wo}{H H':Hp}(L:Le w w' H H'){a:Addr}(h:H a≠none)(nl:notLoc w a):notLoc w' a:=fun l hl q=>by
 by_cases k:l<w.n
 ·exact nl l k (q.trans (L.io l k))
 ·have:=L.newL l (Nat.le_of_not_lt k) hl
  rw[←q]at this
  exact h this
theorem FrOk.mono{w w':Wo}{H H' H₀:Hp}{s:Sto}{σ:Fr}{σV:St}(L:Le w w' H H')(S:StoOk G w H s)(F:FrOk G w H H₀ σ σV):FrOk G w' H' H₀ σ σV where
 len:=F.len
 val:=fun i t e=>let ⟨v,h1,h2⟩:=F.val i t e;⟨v,h1,Rep.mono L S t v h2⟩
 own:=fun i b ts e eb=>by
  obtain⟨a,vs,h1,h2,h3,h4,h5,h6⟩:=F.own i b ts e eb
  have hn:H a≠none:=by rw[h2];intro z;cases z
  refine⟨a,vs,h1,L.keep _ _ h2 h6,aah.mono L S ts vs h3,h4,fun z=>?_,notLoc.mono L hn h6⟩
  rcases L.newZ a z with z|z
  ·exact h5 z
  ·exact hn z
 apart:=F.apart
 bor:=fun i ts e=>by
  obtain⟨a,vs,h1,h2,h3,h4,h6⟩:=F.bor i ts e
  have hn:H a≠none:=by rw[h2];intro z;cases z
  exact⟨a,vs,h1,L.keep _ _ h2 h6,aah.mono L S ts vs h3,h4,notLoc.mono L hn h6⟩
structure Good(G:Gx)(w₀:Wo)(H₀:Hp)(w:Wo)(H:Hp)(σ:Fr)(s:Sto)(σV:St):Prop where
 sto:StoOk G w H s
 fr:FrOk G w H H₀ σ σV
 ent:Le w₀ w H₀ H
theorem Good.step{w₀ w w':Wo}{H₀ H H':Hp}{σ:Fr}{s s':Sto}{σV:St}(g:Good G w₀ H₀ w H σ s σV)(L:Le w w' H H')(S:StoOk G w' H' s'):Good G w₀ H₀ w' H' σ s' σV:=⟨S,g.fr.mono L g.sto,g.ent.trans L⟩
end
end IP
end
noncomputable section
namespace IP
open PySem PySem.Spec L2
structure Flt(stack:List Env)(h B:Heap)(e:Addr)(sh:Heap):Prop where
 cov:∀b o,B.get? b=some o↔h.get? b=some o∧b∉frs stack
 keep:∀b o,h.get? b=some o→b∉frs stack→sh.get? b=some o
 slot:∀b o,h.get? b=some o→b∈frs stack→∃sl,sh.get? b=some { o with slots:=sl }
 new:h.get? e=none
def ap0(base:Heap)(l:List Env)(e:Addr)(cls a0 fl:Value)(h:Heap):Prop:=base.StaysIn h∧base.get? e=none∧h.FunFrames base l∧h.TracedAtW base e cls a0 fl
def aaV(G:Gx)(X:Cx)(pins:List (Addr×Obj))(σV:St)(H:Hp)(c:Nat)(u:Value)(sh:Shared):Prop:=
 ∃(e:Addr) (h B:Heap),u=.ref e∧Inv X pins σV H { sh with heap:=h }∧Flt X.stack h B e sh.heap∧X.base.StaysIn B∧
  ((∃args,Heap.MadeExcOf h sh.heap e (.ref (G.cA c)) args)∨(∃t,Heap.FlyingW B X.stack e (.ref (G.cA c)) t sh.heap)∨
   ∃t fl,ap0 B X.stack e (.ref (G.cA c)) t fl sh.heap)
def aa4(G:Gx)(X:Cx)(σV:St)(w:Wo)(H:Hp)(res:Res R)(Q:VK):Prop:=match res with
 | .stuck=>False
 | .ok r s'=>∀w' H' v,Le w w' H H'→StoOk G w' H' s'→aaX G w' H' r v→Q v H'
 | .exc c s'=>∀w' H' pins u sh,Le w w' H H'→StoOk G w' H' s'→aaV G X pins σV H' c u sh→X.xe u sh
section
variable{G:Gx}{X:Cx}{σV:St}{w w₀:Wo}{H H₀:Hp}{Q Q':VK}
theorem aa4.imp{res:Res R}(h:aa4 G X σV w H res Q)(q:∀v H',Q v H'→Q' v H'):aa4 G X σV w H res Q':=by
 cases res with
 | stuck=>exact h
 | ok r s=>exact fun w' H' v a b c=>q _ _ (h w' H' v a b c)
 | exc c s=>exact h
theorem aa4.mono{res:Res R}{w1:Wo}{H1:Hp}(L:Le w w1 H H1)(h:aa4 G X σV w H res Q):aa4 G X σV w1 H1 res Q:=by
 cases res with
 | stuck=>exact h
 | ok r s=>exact fun w' H' v a b c=>h w' H' v (L.trans a) b c
 | exc c s=>exact fun w' H' pins u sh a b=>h w' H' pins u sh (L.trans a) b
theorem aa4.bind{m:Res R}{k:R→Sto→Res R}(h:aa4 G X σV w H (m.bind k) Q):
  aa4 G X σV w H m fun v H1=>∃w1 r s1,Le w w1 H H1∧StoOk G w1 H1 s1∧aaX G w1 H1 r v∧aa4 G X σV w1 H1 (k r s1) Q:=by
 cases m with
 | stuck=>exact h
 | ok r s=>exact fun w' H' v a b c=>⟨w',r,s,a,b,c,aa4.mono a h⟩
 | exc c s=>exact h
theorem aa4.of{o:Option R}{s:Sto}(h:aa4 G X σV w H (Res.of o s) Q):∃r,o=some r∧∀w' H' v,Le w w' H H'→StoOk G w' H' s→aaX G w' H' r v→Q v H':=by
 cases o with
 | none=>exact h.elim
 | some r=>exact⟨r,rfl,h⟩
theorem PE.imp{e:Expr}{t t':TE}(h:PE X e t)(q:∀σ H Q,t' σ H Q→t σ H Q):PE X e t':=fun pins s σ H Q I z=>h pins s σ H Q I (q _ _ _ z)
theorem PT.imp{e:Expr}{t t':TT}(h:PT X e t)(q:∀σ H Q,t' σ H Q→t σ H Q):PT X e t':=fun pins s σ H Q I z=>h pins s σ H Q I (q _ _ _ z)
theorem PA.imp{e:List Expr}{t t':TA}(h:PA X e t)(q:∀σ H Q,t' σ H Q→t σ H Q):PA X e t':=fun pos pins s σ H Q I z=>h pos pins s σ H Q I (q _ _ _ z)
def tV(G:Gx)(X:Cx)(C:Cf)(e:E):TE:=fun σV H Q=>∃w₀ H₀ w σ s,Good G w₀ H₀ w H σ s σV∧aa4 G X σV w H (ev C e .v σ s) Q
def tT(G:Gx)(X:Cx)(C:Cf)(e:E):TT:=fun σV H Q=>∃w₀ H₀ w σ s,Good G w₀ H₀ w H σ s σV∧aa4 G X σV w H (ev C e .t σ s) fun v H'=>∃k,v=.bl k∧Q k H'
theorem abU{a p:Addr}{o:HO}(e:H a=some o)(hp:H p=none):a≠p:=fun q=>by rw[q,hp]at e;cases e
theorem Le.new{p:Addr}(hp:H p=none)(o:HO):Le w w H (upd H p o)where
 n:=Nat.le_refl _
 io:=fun _ _=>rfl
 Z:=fun _ z=>z
 keep:=fun a u e _=>by rw[aag (abU e hp)];exact e
 newL:=fun l a b=>absurd (Nat.lt_of_lt_of_le b a) (Nat.lt_irrefl _)
 newZ:=fun _ z=>.inl z
 some_:=fun a z=>by
  cases e:H a with
  | none=>exact absurd e z
  | some u=>rw[aag (abU e hp),e];intro q;cases q
def Wo.addZ(w:Wo)(p:Addr):Wo:={ w with Z:=fun a=>w.Z a∨a=p }
theorem Le.newZ_{p:Addr}(hp:H p=none)(o:HO):Le w (w.addZ p) H (upd H p o)where
 n:=Nat.le_refl _
 io:=fun _ _=>rfl
 Z:=fun _ z=>.inl z
 keep:=(Le.new (w:=w) hp o).keep
 newL:=(Le.new (w:=w) hp o).newL
 newZ:=fun a z=>z.elim .inl fun q=>.inr (q▸hp)
 some_:=(Le.new (w:=w) hp o).some_
theorem abm.mono{w':Wo}{H':Hp}{s:Sto}(L:Le w w' H H')(S:StoOk G w H s){a:Addr}(e:H' a=H a):∀{c:Cell},abm G w H a c→abm G w' H' a c
 | .lst ts,⟨vs,h,r⟩=>⟨vs,e.trans h,aah.mono L S ts vs r⟩
 | .ins c fs,⟨dx,kvs,h,z,k⟩=>⟨dx,kvs,e.trans h,z,fun i x t h1 h2=>let ⟨v,q1,q2⟩:=k i x t h1 h2;⟨v,q1,Rep.mono L S t v q2⟩⟩
 | .tbl k p q,⟨ha,ps,h,z,f⟩=>⟨ha,ps,e.trans h,z,fun cv hcv=>let ⟨c,e1,e2⟩:=f cv hcv;⟨c,e1,L.keep _ _ e2 (S.notLoc e2 (fun _ z=>by cases z) fun _ _ _ z=>by cases z)⟩⟩
theorem StoOk.grow{w':Wo}{H':Hp}{s:Sto}(S:StoOk G w H s)(L:Le w w' H H')(hn:w'.n=w.n)(hl:∀l,l<w.n→H' (w.io l)=H (w.io l))(hz:∀a,w'.Z a→∃vs,Rd H' a (.lst vs)):StoOk G w' H' s where
 len:=S.len.trans hn.symm
 inj:=fun l m h1 h2 e=>by
  rw[hn]at h1 h2
  rw[L.io l h1,L.io m h2]at e
  exact S.inj l m h1 h2 e
 nz:=fun l h z=>by
  rw[hn]at h
  rw[L.io l h]at z
  rcases L.newZ _ z with q|q
  ·exact S.nz l h q
  ·rcases S.loc h with⟨vs,y⟩|⟨c,dx,kvs,y⟩|⟨ps,y⟩<;>(rw[q]at y;cases y)
 cell:=fun l c e=>by
  have h:l<w.n:=by rw[←S.len];exact(List.getElem?_eq_some_iff.mp e).1
  rw[L.io l h]
  exact abm.mono L S (hl l h) (S.cell l c e)
 zt:=hz
theorem Rd.upd{a p:Addr}{u o:HO}(hp:H p=none)(r:Rd H a u):Rd (upd H p o) a u:=by
 rcases r with r|⟨q,r⟩
 ·exact .inl (by rw[aag (abU r hp)];exact r)
 ·exact .inr ⟨q,by rw[aag (abU r hp)];exact r⟩
theorem StoOk.new{s:Sto}{p:Addr}(S:StoOk G w H s)(hp:H p=none)(o:HO):StoOk G w (L2.upd H p o) s:=
 S.grow (Le.new hp o) rfl (fun l h=>aag ((S.fresh hp).2 l h).symm) fun a z=>let ⟨vs,r⟩:=S.zt a z;⟨vs,Rd.upd hp r⟩
theorem StoOk.newZ{s:Sto}{p:Addr}(S:StoOk G w H s)(hp:H p=none)(vs:List V):StoOk G (w.addZ p) (L2.upd H p (.lst vs)) s:=
 S.grow (Le.newZ_ hp _) rfl (fun l h=>aag ((S.fresh hp).2 l h).symm) fun a z=>z.elim (fun z=>let ⟨vs,r⟩:=S.zt a z;⟨vs,Rd.upd hp r⟩) fun q=>⟨vs,.inl (by rw[q];exact aax)⟩
theorem adS{s:Sto}{ts:List T}{vs:List V}(S:StoOk G w H s)(r:aah G w H ts vs)(h:∀w' H' v,Le w w' H H'→StoOk G w' H' s→aaX G w' H' (.val (.tup ts)) v→Q v H')(p:Addr)(hp:H p=none):Q (.ref p) (L2.upd H p (.tup vs)):=
 h w _ _ (Le.new hp _) (S.new hp _) ⟨p,vs,rfl,aax,aah.mono (Le.new hp _) S ts vs r⟩
theorem acj{s:Sto}{ts:List T}{vs:List V}(S:StoOk G w H s)(r:aah G w H ts vs)(h:∀w' H' v,Le w w' H H'→StoOk G w' H' s→aaX G w' H' (.val (.lst ts)) v→Q v H')(p:Addr)(hp:H p=none):Q (.ref p) (L2.upd H p (.lst vs)):=
 h _ _ _ (Le.newZ_ hp _) (S.newZ hp vs) ⟨p,vs,rfl,.inr rfl,.inl aax,aah.mono (Le.newZ_ hp _) S ts vs r⟩
def aaL(G:Gx)(X:Cx)(σV:St)(w:Wo)(H:Hp)(res:Res R)(Q:VK):Prop:=match res with
 | .ok (.val (.lst ts)) s'=>∀w' H' a vs,Le w w' H H'→StoOk G w' H' s'→H' a=some (.lst vs)→aah G w' H' ts vs→H a=none→¬w'.Z a→notLoc w' a→Q (.ref a) H'
 | .exc c s'=>∀w' H' pins u sh,Le w w' H H'→StoOk G w' H' s'→aaV G X pins σV H' c u sh→X.xe u sh
 | _=>False
def tO(G:Gx)(X:Cx)(C:Cf)(e:E):TE:=fun σV H Q=>∃w₀ H₀ w σ s,Good G w₀ H₀ w H σ s σV∧aaL G X σV w H (ev C e .v σ s) Q
theorem afx{s:Sto}{ts:List T}{vs:List V}(S:StoOk G w H s)(r:aah G w H ts vs)(h:∀w' H' a vs,Le w w' H H'→StoOk G w' H' s→H' a=some (.lst vs)→aah G w' H' ts vs→H a=none→¬w'.Z a→notLoc w' a→Q (.ref a) H')(p:Addr)(hp:H p=none):Q (.ref p) (L2.upd H p (.lst vs)):=
 h w _ p vs (Le.new hp _) (S.new hp _) aax (aah.mono (Le.new hp _) S ts vs r) hp (S.fresh hp).1 (S.fresh hp).2
theorem acK.seq{s:Sto}{x:R}{v:V}{ts:List T}(r:acK G w H x v)(e:x.seq=some ts):∃a vs,v=.ref a∧Rd H a (.lst vs)∧aah G w H ts vs:=by
 match x,e with
 | .val (.lst us),e=>obtain⟨a,vs,e1,_,h,q⟩:=r;cases e;exact⟨a,vs,e1,h,q⟩
 | .bor us,e=>obtain⟨a,vs,e1,h,q⟩:=r;cases e;exact⟨a,vs,e1,.inl h,q⟩
theorem aaX.seq{s:Sto}{x:R}{v:V}{ts:List T}(r:aaX G w H x v)(e:x.seq=some ts):∃a vs,v=.ref a∧Rd H a (.lst vs)∧aah G w H ts vs:=acK.seq (s:=s) r.d e
theorem acK.sq2{x:R}{v:V}{ts:List T}(r:acK G w H x v)(e:x.sq2=some ts):∃a vs,v=.ref a∧(Rd H a (.lst vs)∨H a=some (.tup vs))∧aah G w H ts vs:=by
 match x,e with
 | .val (.lst us),e=>obtain⟨a,vs,e1,_,h,q⟩:=r;cases e;exact⟨a,vs,e1,.inl h,q⟩
 | .val (.tup us),e=>obtain⟨a,vs,e1,h,q⟩:=r;cases e;exact⟨a,vs,e1,.inr h,q⟩
 | .bor us,e=>obtain⟨a,vs,e1,h,q⟩:=r;cases e;exact⟨a,vs,e1,.inl (.inl h),q⟩
theorem aaX.sq2{x:R}{v:V}{ts:List T}(r:aaX G w H x v)(e:x.sq2=some ts):∃a vs,v=.ref a∧(Rd H a (.lst vs)∨H a=some (.tup vs))∧aah G w H ts vs:=acK.sq2 r.d e
theorem aaX.int{x:R}{v:V}{i:Int}(r:aaX G w H x v)(e:x.int?=some i):v=.int i:=by
 match x,e with
 | .val (.int j),e=>cases e;exact r
theorem acK.int{x:R}{v:V}{i:Int}(r:acK G w H x v)(e:x.int?=some i):v=.int i:=by
 match x,e with
 | .val (.int j),e=>cases e;exact r
end
section
variable{G:Gx}{X:Cx}{C:Cf}{a b c:Expr}{a' b' c':E}{pos:Pos}
theorem Rd.lst{pins:List (Addr×Obj)}{σ:St}{H:Hp}{s:Shared}{p:Addr}{xs:List V}(I:Inv X pins σ H s)(h:Rd H p (.lst xs)):
  xs.length≤sizeLine∧∃(its:List Value) (n:Nat),Vals xs its∧xs.length=its.length∧s.heap.get? p=some { cls:=.type "list",data:=.seq its.toArray n }:=by
 obtain⟨z,its,n,r,e⟩:=Rd.ok h I.hok
 exact⟨z,its,n,r,r.length,e⟩
theorem aoC{i:Nat}{x:Str}(hN:X.N[i]?=some x)(hv:Vis X.env.scope x)(hd:(x==("__debug__":Str))=false)(hcd:(x==("__classdict__":Str))=false):PE X (.Name x pos) (tV G X C (.var i)):=by
 refine PE.imp (adu hN hv hd hcd) ?_
 rintro σV H Q ⟨w₀,H₀,w,σ,s,g,h⟩
 obtain⟨r,e,q⟩:=aa4.of h
 unfold look at e
 split at e
 ·rename_i t ht
  cases e
  obtain⟨v,h1,h2⟩:=g.fr.val i t ht
  exact⟨v,h1,q w H v (Le.refl _ _) g.sto h2⟩
 ·rename_i ts ht
  cases e
  obtain⟨p,vs,h1,h2,h3,_,_,h6⟩:=g.fr.own i _ ts ht rfl
  exact⟨_,h1,q w H _ (Le.refl _ _) g.sto ⟨p,vs,rfl,h2,h3,h6⟩⟩
 ·rename_i ts ht
  cases e
  obtain⟨p,vs,h1,h2,h3,_,h6⟩:=g.fr.bor i ts ht
  exact⟨_,h1,q w H _ (Le.refl _ _) g.sto ⟨p,vs,rfl,h2,h3,h6⟩⟩
 ·rename_i ts ht
  cases e
  obtain⟨p,vs,h1,h2,h3,_,_,h6⟩:=g.fr.own i _ ts ht rfl
  exact⟨_,h1,q w H _ (Le.refl _ _) g.sto ⟨p,vs,rfl,h2,h3,h6⟩⟩
 ·cases e
theorem akG{t:T}{v:V}(r:∀w H,Rep G w H t v){σV:St}{H:Hp}{Q:VK}(h:tV G X C (.cst t) σV H Q):tC v σV H Q:=by
 obtain⟨w₀,H₀,w,σ,s,g,h⟩:=h
 exact h w H v (Le.refl _ _) g.sto (r w H)
theorem aoB{i j}:PE X (.Constant (.int i) j pos) (tV G X C (.cst (.int i))):=PE.imp aqj fun _ _ _ h=>akG (t:=.int i) (v:=.int i) (fun _ _=>rfl) h
theorem avb{b j}:PE X (.Constant (.bool b) j pos) (tV G X C (.cst (.bl b))):=PE.imp ats fun _ _ _ h=>akG (t:=.bl b) (v:=.bl b) (fun _ _=>rfl) h
theorem aox{j}:PE X (.Constant .none j pos) (tV G X C (.cst .non)):=PE.imp aoo fun _ _ _ h=>akG (t:=.non) (v:=.non) (fun _ _=>rfl) h
theorem aof{x j}:PE X (.Constant (.str x) j pos) (tV G X C (.cst (.str x))):=PE.imp afa fun _ _ _ h=>akG (t:=.str x) (v:=.str x) (fun _ _=>rfl) h
theorem apf{x:Str}{i:Int}{t:Tok}(hg:Gl X x)(hm:X.mg x=some (.int i t))(hd:(x==("__debug__":Str))=false):PE X (.Name x pos) (tV G X C (.glb x i)):=by
 refine PE.imp (aje (v:=.int i) hg hm ⟨t,rfl⟩ hd) ?_
 rintro σV H Q ⟨w₀,H₀,w,σ,s,g,h⟩
 exact h w H _ (Le.refl _ _) g.sto rfl
def r2(G:Gx)(f:R→R→Option R):R2:=fun x y H Q=>∃w s rx ry r,StoOk G w H s∧aaX G w H rx x∧aaX G w H ry y∧f rx ry=some r∧∀w' H' v,Le w w' H H'→StoOk G w' H' s→aaX G w' H' r v→Q v H'
theorem amU{f:R→R→Option R}{σV:St}{H:Hp}{Q:VK}(h:∃w₀ H₀ w σ s,Good G w₀ H₀ w H σ s σV∧aa4 G X σV w H ((ev C a' .v σ s).bind fun x s1=>(ev C b' .v σ s1).bind fun y s2=>.of (f x y) s2) Q):
  tOp (r2 G f) (tV G X C a') (tV G X C b') σV H Q:=by
 obtain⟨w₀,H₀,w,σ,s,g,h⟩:=h
 refine⟨w₀,H₀,w,σ,s,g,(aa4.bind h).imp ?_⟩
 rintro x H1 ⟨w1,r1,s1,L1,S1,R1,h1⟩
 refine⟨w₀,H₀,w1,σ,s1,g.step L1 S1,(aa4.bind h1).imp ?_⟩
 rintro y H2 ⟨w2,r2,s2,L2,S2,R2,h2⟩
 obtain⟨r,e,q⟩:=aa4.of h2
 exact⟨w2,s2,r1,r2,r,S2,R1.mono L2 S1,R2,e,q⟩
theorem s2{f:R→R→Option R}{op:Operator}(ho:OpR X (binaryOp op) (r2 G f))(ha:PE X a (tV G X C a'))(hb:PE X b (tV G X C b')){e:E}(he:∀σ s,ev C e .v σ s=(ev C a' .v σ s).bind fun x s1=>(ev C b' .v σ s1).bind fun y s2=>.of (f x y) s2):
  PE X (.BinOp a op b pos) (tV G X C e):=by
 refine PE.imp (ark ho ha hb) fun σV H Q h=>?_
 obtain⟨w₀,H₀,w,σ,s,g,h⟩:=h
 rw[he]at h
 exact amU ⟨w₀,H₀,w,σ,s,g,h⟩
theorem s2c{f:R→R→Option R}{op:CmpOp}(ho:OpR X (compareOp op) (r2 G f))(ha:PE X a (tV G X C a'))(hb:PE X b (tV G X C b'))(hm:behindInMarks op b=false){e:E}(he:∀σ s,ev C e .v σ s=(ev C a' .v σ s).bind fun x s1=>(ev C b' .v σ s1).bind fun y s2=>.of (f x y) s2):
  PE X (.Compare a [op] [b] pos) (tV G X C e):=by
 refine PE.imp (an6 ho ha hb hm) fun σV H Q h=>?_
 obtain⟨w₀,H₀,w,σ,s,g,h⟩:=h
 rw[he]at h
 exact amU ⟨w₀,H₀,w,σ,s,g,h⟩
theorem aco{j:Int}(h:j.natAbs<big):j.natAbs.log2<1000:=by
 rcases Nat.eq_zero_or_pos j.natAbs with h0|hp
 ·rw[h0];decide
 ·refine(Nat.log2_lt (Nat.ne_of_gt hp)).mpr (Nat.lt_trans h ?_)
  unfold big
  decide +kernel
theorem afM{k:Int}(h:k.natAbs<big):Builtin.Int.intBits k≤1000:=by
 unfold Builtin.Int.intBits
 split
 ·exact Nat.zero_le _
 ·have:=aco h
  omega
theorem anp{i j:Int}(h:anT i j=true):IntMulOk i j:=by
 unfold anT at h
 rw[Bool.or_eq_true,Bool.or_eq_true,Bool.and_eq_true,decide_eq_true_iff,decide_eq_true_iff,decide_eq_true_iff,decide_eq_true_iff]at h
 rcases h with(h|h)|⟨h1,h2⟩
 ·exact IntMulOk.of_left (intBits_le_64 (by omega) (by omega))
 ·exact IntMulOk.of_right (intBits_le_64 (by omega) (by omega))
 ·exact PyProof.Rows.mulOk_of_bits (afM h1) (afM h2) (by decide)
def anL:Op→Operator
 | .add=>.Add | .sub=>.Sub | .mul=>.Mult | .fdiv=>.FloorDiv | .mod=>.Mod | .pow=>.Pow
theorem aqC(o:Op)(i j k:Int)(h:opI o i j=some k):∀(t u:Tok) (s:Shared) (Q:Value→Shared→Prop) (E:Value→Shared→Prop),Q (.int k s.toks) { s with toks:=s.toks+1 }→wpAny (model X.prog X.w) X.A (binaryOp (anL o) (.int i t) (.int j u)) Q E s:=by
 intro t u s Q E q
 cases o with
 | add=>cases h;exact PyProof.Rows.add_int q
 | sub=>cases h;exact PyProof.Rows.sub_int q
 | mul=>
  simp only[opI]at h
  split at h
  ·rename_i hm;cases h;exact PyProof.Rows.mul_int q (anp hm)
  ·cases h
 | fdiv=>
  simp only[opI]at h
  split at h
  ·rename_i hm;cases h;exact PyProof.Rows.floordiv_int hm.1 q (Or.inl (PyProof.noPylong_of_log2 (Nat.lt_trans (aco hm.2) (by decide))))
  ·cases h
 | mod=>
  simp only[opI]at h
  split at h
  ·rename_i hm;cases h;exact PyProof.Rows.mod_int hm q
  ·cases h
 | pow=>
  simp only[opI]at h
  split at h
  ·rename_i hm
   cases h
   refine PyProof.Rows.pow_int hm.1 ?_ q
   have h1:=afM hm.2.2
   have h2:((Builtin.Int.intBits i:Nat):Int)*j≤1000*100:=by
    refine Int.mul_le_mul (by omega) hm.2.1 hm.1 (by omega)
   omega
  ·cases h
theorem auU(o:Op):OpR X (binaryOp (anL o)) (r2 G (opR o)):=by
 intro pins s σ H x y v u Q I rx ry h
 obtain⟨w,st,x',y',r,S,Rx,Ry,e,q⟩:=h
 have intc:∀i j k,x'=.val (.int i)→y'=.val (.int j)→opI o i j=some k→r=.val (.int k)→wpAny (model X.prog X.w) X.A (binaryOp (anL o) v u) (EP X pins σ Q) X.xe s:=by
  rintro i j k rfl rfl ho rfl
  have hx:x=.int i:=Rx
  have hy:y=.int j:=Ry
  subst hx hy
  obtain⟨t,rfl⟩:=rx
  obtain⟨t2,rfl⟩:=ry
  exact aqC o i j k ho t t2 s _ _ ⟨.int k,H,I.tok _,⟨_,rfl⟩,q w H _ (Le.refl _ _) S rfl⟩
 have lstc:∀xs ys,x'.seq=some xs→y'.seq=some ys→o=.add→xs.length+ys.length≤lim→r=.val (.lst (xs++ys))→wpAny (model X.prog X.w) X.A (binaryOp (anL o) v u) (EP X pins σ Q) X.xe s:=by
  rintro xs ys e1 e2 rfl hl rfl
  obtain⟨p,vs,rfl,hp,r1⟩:=aaX.seq (s:=st) Rx e1
  obtain⟨p2,vs2,rfl,hp2,r2⟩:=aaX.seq (s:=st) Ry e2
  cases rx
  cases ry
  obtain⟨z,its,n,q1,l1,g1⟩:=Rd.lst I hp
  obtain⟨z2,its2,n2,q2,l2,g2⟩:=Rd.lst I hp2
  have hz:its.length+its2.length≤sizeLine:=by
   rw[←l1,←l2,←r1.length,←r2.length]
   have:lim≤sizeLine:=by decide
   omega
  refine PySem.P.add_list g1 g2 ?_ (by rw[List.size_toArray,List.size_toArray];exact hz)
  have ea:its.toArray++its2.toArray=(its++its2).toArray:=by simp
  rw[ea]
  exact⟨.ref _,_,I.lnew (t':=s.toks) (q1.append q2) (by rw[List.length_append,l1,l2];exact hz),rfl,acj S (r1.append r2) q _ I.fresh⟩
 unfold opR at e
 split at e
 ·rename_i i j
  cases ho:opI o i j with
  | none=>rw[ho]at e;cases e
  | some k=>rw[ho]at e;cases e;exact intc i j k rfl rfl ho rfl
 ·rename_i xs ys
  split at e
  ·rename_i hc
   cases e
   obtain⟨p,vs,rfl,hp,r1⟩:=Rx
   obtain⟨p2,vs2,rfl,hp2,r2⟩:=Ry
   have n1:vs≠[]:=by
    intro z;subst z
    exact hc.1 (List.length_eq_zero_iff.mp r1.length)
   have n2:vs2≠[]:=by
    intro z;subst z
    exact hc.2.1 (List.length_eq_zero_iff.mp r2.length)
   refine amS pins s σ H _ _ v u Q I rx ry ⟨p,p2,vs,vs2,rfl,rfl,SqT.of hp,SqT.of hp2,n1,?_,fun z=>absurd z n2,fun _=>adS S (r1.append r2) q⟩
   rw[←r1.length,←r2.length]
   have:lim≤sizeLine:=by decide
   omega
  ·cases e
 ·rename_i a b
  split at e
  ·rename_i hl
   cases e
   cases Rx;cases Ry
   obtain⟨t,rfl⟩:=rx
   obtain⟨t2,rfl⟩:=ry
   have hz:a.length+b.length≤sizeLine:=Nat.le_trans hl (by decide)
   exact PyProof.Rows.add_str (fun t' tk=>⟨.str (a++b),H,I.tok _,⟨_,rfl⟩,q w H _ (Le.refl _ _) S rfl⟩) hz
  ·cases e
 ·split at e
  ·rename_i xs ys e1 e2
   split at e
   ·rename_i hl
    cases e
    exact lstc xs ys e1 e2 rfl hl rfl
   ·cases e
  ·cases e
 ·cases e
theorem art(o:Op)(ha:PE X a (tV G X C a'))(hb:PE X b (tV G X C b')):PE X (.BinOp a (anL o) b pos) (tV G X C (.bin o a' b')):=s2 (auU o) ha hb fun _ _=>rfl
end
end IP
end
noncomputable section
namespace IP
open PySem PySem.Spec L2 PySem.SeqAt
section
variable{G:Gx}{X:Cx}{pins:List (Addr×Obj)}{σ:St}{H:Hp}{s:Shared}{w:Wo}{st:Sto}
theorem abh{a:Addr}{vs:List V}(I:Inv X pins σ H s)(h:H a=some (.tup vs)):∃its:List Value,Vals vs its∧s.heap.IsTuple a its.toArray:=by
 obtain⟨its,r,q,_⟩:=I.tuple (SqT.of (K:=X.K) h)
 exact⟨its,r,q⟩
theorem aaN{a:Addr}{vs:List V}(I:Inv X pins σ H s)(h:Rd H a (.lst vs)):∃its:List Value,Vals vs its∧s.heap.IsList a its.toArray:=by
 obtain⟨_,its,n,r,_,e⟩:=Rd.lst I h
 exact⟨its,r,_,e,rfl,n,rfl⟩
theorem adJ{f:T→T→Option Bool}:∀(ts us:List T) (vs:List V),(∀t u v k,Rep G w H t v→Rep G w H u v→f t u=some k→k=true)→aah G w H ts vs→aah G w H us vs→∀k,eqL f ts us=some k→k=true
 | [],[],_,_,_,_,k,h=>by cases h;rfl
 | [],_::_,_,_,h1,h2,k,h=>by
  obtain⟨v,r,e,_⟩:=h2
  rw[h1]at e
  cases e
 | _::_,[],_,_,h1,h2,k,h=>by
  obtain⟨v,r,e,_⟩:=h1
  rw[h2]at e
  cases e
 | t::ts,u::us,_,hf,⟨v,r,e,h1,h2⟩,⟨v',r',e',h1',h2'⟩,k,h=>by
  subst e
  cases e'
  unfold eqL at h
  split at h
  ·rename_i k1 k2 q1 q2
   cases h
   rw[hf t u v k1 h1 h1' q1,adJ ts us r hf h2 h2' k2 q2]
   rfl
  ·cases h
theorem acB:∀(n:Nat) (t u:T) (v:V) (k:Bool),Rep G w H t v→Rep G w H u v→eqD n t u=some k→k=true
 | n,.non,u,v,k,h1,h2,h=>by
  cases h1
  cases u<;>simp only[Rep]at h2<;>first|(cases h2;done)|(simp[eqD]at h;exact h)|(obtain⟨a,vs,e,_⟩:=h2;cases e)|(obtain⟨e,e2⟩:=h2;cases e2;done)|(obtain⟨e,e2,_⟩:=h2;cases e2)
 | n,.bl b,u,v,k,h1,h2,h=>by
  cases h1
  cases u<;>simp only[Rep]at h2<;>first|(cases h2;done)|(cases h2;simp[eqD]at h;exact h)|(obtain⟨a,vs,e,_⟩:=h2;cases e)|(obtain⟨e,e2⟩:=h2;cases e2;done)|(obtain⟨e,e2,_⟩:=h2;cases e2)
 | n,.int i,u,v,k,h1,h2,h=>by
  cases h1
  cases u<;>simp only[Rep]at h2<;>first|(cases h2;done)|(cases h2;simp[eqD]at h;exact h)|(obtain⟨a,vs,e,_⟩:=h2;cases e)|(obtain⟨e,e2⟩:=h2;cases e2;done)|(obtain⟨e,e2,_⟩:=h2;cases e2)
 | n,.str x,u,v,k,h1,h2,h=>by
  cases h1
  cases u<;>simp only[Rep]at h2<;>first|(cases h2;done)|(cases h2;simp[eqD]at h;exact h)|(obtain⟨a,vs,e,_⟩:=h2;cases e)|(obtain⟨e,e2⟩:=h2;cases e2;done)|(obtain⟨e,e2,_⟩:=h2;cases e2)
 | 0,.tup ts,u,v,k,h1,h2,h=>by cases u<;>simp[eqD]at h
 | n+1,.tup ts,u,v,k,h1,h2,h=>by
  obtain⟨a,vs,e,q,r⟩:=h1
  subst e
  cases u with
  | tup us=>
   obtain⟨a',vs',e',q',r'⟩:=h2
   cases e'
   rw[q]at q'
   cases q'
   simp only[eqD]at h
   exact adJ ts us vs (fun t u v k=>acB n t u v k) r r' k h
  | non=>cases h2
  | _=>simp[eqD]at h
 | 0,.lst ts,u,v,k,h1,h2,h=>by cases u<;>simp[eqD]at h
 | n+1,.lst ts,u,v,k,h1,h2,h=>by
  obtain⟨a,vs,e,z,q,r⟩:=h1
  subst e
  cases u with
  | lst us=>
   obtain⟨a',vs',e',z',q',r'⟩:=h2
   cases e'
   have ev:vs=vs':=by
    rcases q with q|⟨o,q⟩<;>rcases q' with q'|⟨o',q'⟩<;>(rw[q]at q';cases q';try rfl)
   subst ev
   simp only[eqD]at h
   exact adJ ts us vs (fun t u v k=>acB n t u v k) r r' k h
  | _=>simp[eqD]at h
 | n,.loc l,u,v,k,h1,h2,h=>by cases u<;>simp[eqD]at h
 | n,.exc c,u,v,k,h1,h2,h=>by cases u<;>simp[eqD]at h
theorem acT{f:T→T→Option Bool}:∀(ts us:List T) (k:Bool),eqL f ts us=some k→∃e:Nat→Bool,(∀(j:Nat) t u,ts[j]?=some t→us[j]?=some u→f t u=some (e j))∧k=((List.range (min ts.length us.length)).all e&&ts.length==us.length)
 | [],[],k,h=>by cases h;exact⟨fun _=>true,fun j t u z=>by simp at z,rfl⟩
 | [],u::us,k,h=>by cases h;exact⟨fun _=>true,fun j t u z=>by simp at z,by simp⟩
 | t::ts,[],k,h=>by cases h;exact⟨fun _=>true,fun j t u _ z=>by simp at z,by simp⟩
 | t::ts,u::us,k,h=>by
  unfold eqL at h
  split at h
  ·rename_i k1 k2 q1 q2
   cases h
   obtain⟨e,h1,h2⟩:=acT ts us k2 q2
   refine⟨fun j=>match j with | 0=>k1|j+1=>e j,fun j t' u' z1 z2=>?_,?_⟩
   ·cases j with
    | zero=>simp at z1 z2;subst z1 z2;exact q1
    | succ j=>simp at z1 z2;exact h1 j t' u' z1 z2
   ·rw[h2]
    have em:min (t::ts).length (u::us).length=min ts.length us.length+1:=by simp[Nat.succ_min_succ]
    rw[em,List.range_succ_eq_map,List.all_cons,List.all_map]
    have el:((t::ts).length==(u::us).length)=(ts.length==us.length):=by simp
    rw[el,Bool.and_assoc]
    rfl
  ·cases h
theorem adN{vs:List V}{its:List Value}(r:Vals vs its){j:Nat}{u:Value}(e:its[j]?=some u):∃v,vs[j]?=some v∧aaF v u:=by
 have hj:j<vs.length:=by rw[r.length];exact(List.getElem?_eq_some_iff.mp e).1
 obtain⟨u',h1,h2⟩:=r.get (List.getElem?_eq_getElem hj)
 rw[e]at h1
 cases h1
 exact⟨_,List.getElem?_eq_getElem hj,h2⟩
variable{A:Around}
theorem abG{n:Nat}{ts us:List T}{vs vs':List V}{its its':List Value}{e:Nat→Bool}(r:aah G w H ts vs)(r':aah G w H us vs')(q:Vals vs its)(q':Vals vs' its')
  (he:∀(j:Nat) t u,ts[j]?=some t→us[j]?=some u→eqD n t u=some (e j))
  (ih:∀(t u:T) (v v':V) (x y:Value) (k:Bool),Rep G w H t v→Rep G w H u v'→aaF v x→aaF v' y→eqD n t u=some k→EqAt A s x y k):
  ∀j (h1:j<its.toArray.size) (h2:j<its'.toArray.size),EqAt A s its.toArray[j] its'.toArray[j] (e j):=by
 intro j h1 h2
 have h1':j<its.length:=by simpa using h1
 have h2':j<its'.length:=by simpa using h2
 obtain⟨v,e1,rv⟩:=adN q (List.getElem?_eq_getElem h1')
 obtain⟨v',e2,rv'⟩:=adN q' (List.getElem?_eq_getElem h2')
 obtain⟨t,e3,rt⟩:=r.get' e1
 obtain⟨u,e4,ru⟩:=r'.get' e2
 have:=ih t u v v' its[j] its'[j] (e j) rt ru rv rv' (he j t u e3 e4)
 simpa using this
theorem ahB(I:Inv X pins σ H s):∀(n:Nat) (A:Around),A.units+n<cLine→∀(t u:T) (v v':V) (x y:Value) (k:Bool),Rep G w H t v→Rep G w H u v'→aaF v x→aaF v' y→eqD n t u=some k→EqAt A s x y k:=by
 intro n
 induction n with
 | zero=>
  intro A hu t u v v' x y k h1 h2 r1 r2 h
  cases t<;>cases u<;>simp only[eqD]at h<;>first|(cases h;done)|skip
  ·cases h;cases h1;cases h2;cases r1;cases r2;exact EqAt.same _
  ·cases h;cases h1;cases h2;cases r1;obtain⟨_,rfl⟩:=r2;exact EqAt.none_int _ _
  ·cases h;cases h1;cases h2;cases r1;cases r2;exact EqAt.bool_bool _ _
  ·cases h;cases h1;cases h2;obtain⟨_,rfl⟩:=r1;cases r2;exact EqAt.int_none _ _
  ·cases h;cases h1;cases h2;obtain⟨_,rfl⟩:=r1;obtain⟨_,rfl⟩:=r2;exact EqAt.int_int _ _ _ _
  ·cases h;cases h1;cases h2;obtain⟨_,rfl⟩:=r1;obtain⟨_,rfl⟩:=r2;exact EqAt.str_str _ _ _ _
 | succ n ih=>
  intro A hu t u v v' x y k h1 h2 r1 r2 h
  have hu0:A.units<cLine:=by omega
  have hin:A.in1.units+n<cLine:=by show A.units+1+n<cLine;omega
  cases t<;>cases u<;>simp only[eqD]at h<;>first|(cases h;done)|skip
  ·cases h;cases h1;cases h2;cases r1;cases r2;exact EqAt.same _
  ·cases h;cases h1;cases h2;cases r1;obtain⟨_,rfl⟩:=r2;exact EqAt.none_int _ _
  ·cases h
   obtain⟨a,vs,e,q,_⟩:=h2
   subst e
   cases h1;cases r1;cases r2
   obtain⟨its,_,hi⟩:=abh I q
   exact EqAt.none_tuple hi hu0
  ·cases h;cases h1;cases h2;cases r1;cases r2;exact EqAt.bool_bool _ _
  ·cases h;cases h1;cases h2;obtain⟨_,rfl⟩:=r1;cases r2;exact EqAt.int_none _ _
  ·cases h;cases h1;cases h2;obtain⟨_,rfl⟩:=r1;obtain⟨_,rfl⟩:=r2;exact EqAt.int_int _ _ _ _
  ·cases h;cases h1;cases h2;obtain⟨_,rfl⟩:=r1;obtain⟨_,rfl⟩:=r2;exact EqAt.str_str _ _ _ _
  ·cases h
   obtain⟨a,vs,e,q,_⟩:=h1
   subst e
   cases h2;cases r1;cases r2
   obtain⟨its,_,hi⟩:=abh I q
   exact EqAt.tuple_none hi hu0
  ·rename_i ts us
   have hs:=acB (G:=G) (w:=w) (H:=H) (n+1) (.tup ts) (.tup us)
   have h1':=h1
   have h2':=h2
   obtain⟨a,vs,e,q,r⟩:=h1
   obtain⟨a',vs',e',q',r'⟩:=h2
   subst e e'
   cases r1;cases r2
   by_cases ea:a=a'
   ·subst ea
    have hk:k=true:=hs (.ref a) k h1' h2' (by simp only[eqD];exact h)
    subst hk
    exact EqAt.same _
   ·obtain⟨its,q1,hi⟩:=abh I q
    obtain⟨its',q1',hi'⟩:=abh I q'
    obtain⟨e,he,hk⟩:=acT ts us k h
    have hz:=RcAt.tuples hi hi' hu0 (abG r r' q1 q1' he (ih A.in1 hin))
    rw[List.size_toArray,List.size_toArray,←q1.length,←q1'.length,←r.length,←r'.length,←hk]at hz
    exact EqAt.of_refs ea hz
  ·rename_i ts us
   have hs:=acB (G:=G) (w:=w) (H:=H) (n+1) (.lst ts) (.lst us)
   have h1':=h1
   have h2':=h2
   obtain⟨a,vs,e,_,q,r⟩:=h1
   obtain⟨a',vs',e',_,q',r'⟩:=h2
   subst e e'
   cases r1;cases r2
   by_cases ea:a=a'
   ·subst ea
    have hk:k=true:=hs (.ref a) k h1' h2' (by simp only[eqD];exact h)
    subst hk
    exact EqAt.same _
   ·obtain⟨its,q1,hi⟩:=aaN I q
    obtain⟨its',q1',hi'⟩:=aaN I q'
    obtain⟨e,he,hk⟩:=acT ts us k h
    have l1:its.toArray.size=ts.length:=by rw[List.size_toArray,←q1.length,←r.length]
    have l2:its'.toArray.size=us.length:=by rw[List.size_toArray,←q1'.length,←r'.length]
    by_cases el:ts.length=us.length
    ·have hz:=RcAt.lists hi hi' (by rw[l1,l2,el]) hu0 (abG r r' q1 q1' he (ih A.in1 hin))
     rw[l1]at hz
     rw[el,Nat.min_self]at hk
     have:k=(List.range us.length).all e:=by rw[hk];simp
     rw[el,←this]at hz
     exact EqAt.of_refs ea hz
    ·have hz:=RcAt.lists_lengths hi hi' (by rw[l1,l2];simpa using el) hu0
     have:k=false:=by rw[hk];simp[el]
     rw[this]
     exact EqAt.of_refs ea hz
end
section
variable{G:Gx}{X:Cx}{pins:List (Addr×Obj)}{σ:St}{H:Hp}{s:Shared}{w:Wo}{st:Sto}{A:Around}
theorem acD(I:Inv X pins σ H s)(hu:A.units+8<cLine){a b:Addr}{vs vs':List V}{ts us:List T}{k:Bool}(q:Rd H a (.lst vs))(q':Rd H b (.lst vs'))(r:aah G w H ts vs)(r':aah G w H us vs')(h:eqL (eqD 7) ts us=some k):
  RcAt A s (.ref a) (.ref b) k∧RcNeAt A s (.ref a) (.ref b) (!k):=by
 have hu0:A.units<cLine:=by omega
 have hin:A.in1.units+7<cLine:=by show A.units+1+7<cLine;omega
 obtain⟨its,q1,hi⟩:=aaN I q
 obtain⟨its',q1',hi'⟩:=aaN I q'
 obtain⟨e,he,hk⟩:=acT ts us k h
 have l1:its.toArray.size=ts.length:=by rw[List.size_toArray,←q1.length,←r.length]
 have l2:its'.toArray.size=us.length:=by rw[List.size_toArray,←q1'.length,←r'.length]
 have hp:=abG (s:=s) (A:=A.in1) r r' q1 q1' he (ahB I 7 A.in1 hin)
 by_cases el:ts.length=us.length
 ·have hz:=RcAt.lists hi hi' (by rw[l1,l2,el]) hu0 hp
  have hy:=RcNeAt.lists hi hi' (by rw[l1,l2,el]) hu0 hp
  rw[el,Nat.min_self]at hk
  have:k=(List.range us.length).all e:=by rw[hk];simp
  rw[l1,el,←this]at hz hy
  exact⟨hz,hy⟩
 ·have hz:=RcAt.lists_lengths hi hi' (by rw[l1,l2];simpa using el) hu0
  have hy:=RcNeAt.lists_lengths hi hi' (by rw[l1,l2];simpa using el) hu0
  have:k=false:=by rw[hk];simp[el]
  rw[this]
  exact⟨hz,hy⟩
theorem amx(I:Inv X pins σ H s)(hu:A.units+8<cLine){a b:Addr}{vs vs':List V}{ts us:List T}{k:Bool}(q:H a=some (.tup vs))(q':H b=some (.tup vs'))(r:aah G w H ts vs)(r':aah G w H us vs')(h:eqL (eqD 7) ts us=some k):
  RcAt A s (.ref a) (.ref b) k∧RcNeAt A s (.ref a) (.ref b) (!k):=by
 have hu0:A.units<cLine:=by omega
 have hin:A.in1.units+7<cLine:=by show A.units+1+7<cLine;omega
 obtain⟨its,q1,hi⟩:=abh I q
 obtain⟨its',q1',hi'⟩:=abh I q'
 obtain⟨e,he,hk⟩:=acT ts us k h
 have hp:=abG (s:=s) (A:=A.in1) r r' q1 q1' he (ahB I 7 A.in1 hin)
 have hz:=RcAt.tuples hi hi' hu0 hp
 have hy:=RcNeAt.tuples hi hi' hu0 hp
 rw[List.size_toArray,List.size_toArray,←q1.length,←q1'.length,←r.length,←r'.length,←hk]at hz hy
 exact⟨hz,hy⟩
theorem axV(I:Inv X pins σ H s)(hu:A.units+8<cLine){t u:T}{v v':V}{x y:Value}{k:Bool}(h1:Rep G w H t v)(h2:Rep G w H u v')(r1:aaF v x)(r2:aaF v' y)(h:eqD 8 t u=some k):
  RcAt A s x y k∧RcNeAt A s x y (!k):=by
 have hu0:A.units<cLine:=by omega
 cases t<;>cases u<;>simp only[eqD]at h<;>first|(cases h;done)|skip
 ·cases h;cases h1;cases h2;cases r1;cases r2;exact⟨RcAt.none_none,RcNeAt.none_none⟩
 ·cases h;cases h1;cases h2;cases r1;obtain⟨_,rfl⟩:=r2;exact⟨RcAt.none_int _ _,RcNeAt.none_int _ _⟩
 ·cases h
  obtain⟨a,vs,e,q,_⟩:=h2
  subst e
  cases h1;cases r1;cases r2
  obtain⟨its,_,hi⟩:=abh I q
  exact⟨RcAt.none_tuple hi hu0,RcNeAt.none_tuple hi hu0⟩
 ·cases h;cases h1;cases h2;cases r1;cases r2;exact⟨RcAt.bool_bool _ _,RcNeAt.bool_bool _ _⟩
 ·cases h;cases h1;cases h2;obtain⟨_,rfl⟩:=r1;cases r2;exact⟨RcAt.int_none _ _,RcNeAt.int_none _ _⟩
 ·cases h;cases h1;cases h2;obtain⟨_,rfl⟩:=r1;obtain⟨_,rfl⟩:=r2;exact⟨RcAt.int_int _ _ _ _,RcNeAt.int_int _ _ _ _⟩
 ·cases h;cases h1;cases h2;obtain⟨_,rfl⟩:=r1;obtain⟨_,rfl⟩:=r2;exact⟨RcAt.str_str _ _ _ _,RcNeAt.str_str _ _ _ _⟩
 ·cases h
  obtain⟨a,vs,e,q,_⟩:=h1
  subst e
  cases h2;cases r1;cases r2
  obtain⟨its,_,hi⟩:=abh I q
  exact⟨RcAt.tuple_none hi hu0,RcNeAt.tuple_none hi hu0⟩
 ·obtain⟨a,vs,e,q,r⟩:=h1
  obtain⟨a',vs',e',q',r'⟩:=h2
  subst e e'
  cases r1;cases r2
  exact amx I hu q q' r r' h
 ·obtain⟨a,vs,e,_,q,r⟩:=h1
  obtain⟨a',vs',e',_,q',r'⟩:=h2
  subst e e'
  cases r1;cases r2
  exact acD I hu q q' r r' h
theorem aw6(I:Inv X pins σ H s)(hu:A.units+8<cLine){t u:R}{v v':V}{x y:Value}{k:Bool}(h1:aaX G w H t v)(h2:aaX G w H u v')(r1:aaF v x)(r2:aaF v' y)(h:eqR t u=some k):
  RcAt A s x y k∧RcNeAt A s x y (!k):=by
 unfold eqR at h
 split at h
 ·exact axV I hu h1 h2 r1 r2 h
 ·obtain⟨a,vs,e,_,q,r⟩:=h1
  obtain⟨a',vs',e',q',r',_⟩:=h2
  subst e e'
  cases r1;cases r2
  exact acD I hu q (.inl q') r r' h
 ·obtain⟨a,vs,e,q,r,_⟩:=h1
  obtain⟨a',vs',e',_,q',r'⟩:=h2
  subst e e'
  cases r1;cases r2
  exact acD I hu (.inl q) q' r r' h
 ·obtain⟨a,vs,e,q,r,_⟩:=h1
  obtain⟨a',vs',e',q',r',_⟩:=h2
  subst e e'
  cases r1;cases r2
  exact acD I hu (.inl q) (.inl q') r r' h
 ·cases h
end
section
variable{G:Gx}{X:Cx}{C:Cf}{a b c:Expr}{a' b' c':E}{pos:Pos}
def aks:Cm→CmpOp
 | .lt=>.Lt | .le=>.LtE | .gt=>.Gt | .ge=>.GtE | .eq=>.Eq | .ne=>.NotEq | .isN=>.Is | .notN=>.IsNot | .mem=>.In | .nmem=>.NotIn
def aj6(c:Cm)(x y:R):Option R:=(act c x y).map fun k=>.val (.bl k)
theorem abI{pins:List (Addr×Obj)}{σ:St}{H:Hp}{s:Shared}{w:Wo}{st:Sto}{Q:VK}{k:Bool}(I:Inv X pins σ H s)(S:StoOk G w H st)(q:∀w' H' v,Le w w' H H'→StoOk G w' H' st→aaX G w' H' (.val (.bl k)) v→Q v H'):EP X pins σ Q (.bool k) s:=
 ⟨.bl k,H,I,rfl,q w H _ (Le.refl _ _) S rfl⟩
theorem aee{op:CmpOp}{f:Int→Int→Bool}{c:Cm}(hc:∀x y r,aj6 c x y=some r→∃i j,x=.val (.int i)∧y=.val (.int j)∧r=.val (.bl (f i j)))
  (ho:OpR X (compareOp op) (rI0 fun i j=>.bl (f i j))):OpR X (compareOp op) (r2 G (aj6 c)):=by
 intro pins s σ H x y v u Q I rx ry h
 obtain⟨w,st,x',y',r,S,Rx,Ry,e,q⟩:=h
 obtain⟨i,j,rfl,rfl,rfl⟩:=hc x' y' r e
 have hx:x=.int i:=Rx
 have hy:y=.int j:=Ry
 exact ho pins s σ H x y v u Q I rx ry ⟨i,j,hx,hy,q w H _ (Le.refl _ _) S rfl⟩
theorem arM{x y:R}{g:Int→Int→Bool}{r:R}(h:(do let i ←x.int?;let j ←y.int?;some (g i j)).map (fun k=>R.val (.bl k))=some r):∃i j,x=.val (.int i)∧y=.val (.int j)∧r=.val (.bl (g i j)):=by
 match x,y with
 | .val (.int i),.val (.int j)=>cases h;exact⟨i,j,rfl,rfl,rfl⟩
 | .val (.int i),.val .non=>cases h
 | .val (.int i),.val (.bl _)=>cases h
 | .val (.int i),.val (.str _)=>cases h
 | .val (.int i),.val (.tup _)=>cases h
 | .val (.int i),.val (.lst _)=>cases h
 | .val (.int i),.val (.loc _)=>cases h
 | .val (.int i),.val (.exc _)=>cases h
 | .val (.int i),.bor _=>cases h
 | .val .non,_=>cases h
 | .val (.bl _),_=>cases h
 | .val (.str _),_=>cases h
 | .val (.tup _),_=>cases h
 | .val (.lst _),_=>cases h
 | .val (.loc _),_=>cases h
 | .val (.exc _),_=>cases h
 | .bor _,_=>cases h
theorem adt{w:Wo}{H:Hp}{x:R}{v:V}(r:aaX G w H x v):decide (v=.non)=x.isNon:=by
 match x,r with
 | .val .non,r=>cases r;rfl
 | .val (.bl _),r=>cases r;rfl
 | .val (.int _),r=>cases r;rfl
 | .val (.str _),r=>cases r;rfl
 | .val (.tup _),r=>obtain⟨_,_,e,_⟩:=r;subst e;rfl
 | .val (.lst _),r=>obtain⟨_,_,e,_⟩:=r;subst e;rfl
 | .val (.loc _),r=>obtain⟨_,e⟩:=r;subst e;rfl
 | .val (.exc _),r=>obtain⟨_,e,_⟩:=r;subst e;rfl
 | .bor _,r=>obtain⟨_,_,e,_⟩:=r;subst e;rfl
theorem adl{w:Wo}{H:Hp}{f:T→T→Option Bool}(hf:∀t t' u v k k',Rep G w H t v→Rep G w H t' v→f t u=some k→f t' u=some k'→k=k'):
  ∀(ts ts' us:List T) (vs:List V) (k k':Bool),aah G w H ts vs→aah G w H ts' vs→eqL f ts us=some k→eqL f ts' us=some k'→k=k'
 | [],[],us,vs,k,k',_,_,h,h'=>by rw[h]at h';cases h';rfl
 | [],_::_,us,vs,k,k',r,r',h,h'=>by obtain⟨v,q,e,_⟩:=r';rw[r]at e;cases e
 | _::_,[],us,vs,k,k',r,r',h,h'=>by obtain⟨v,q,e,_⟩:=r;rw[r']at e;cases e
 | t::ts,t'::ts',[],vs,k,k',r,r',h,h'=>by cases h;cases h';rfl
 | t::ts,t'::ts',u::us,vs,k,k',⟨v,q,e,h1,h2⟩,⟨v',q',e',h1',h2'⟩,h,h'=>by
  subst e
  cases e'
  unfold eqL at h h'
  split at h
  ·rename_i k1 k2 z1 z2
   split at h'
   ·rename_i k3 k4 z3 z4
    cases h
    cases h'
    rw[hf t t' u v k1 k3 h1 h1' z1 z3,adl hf ts ts' us q k2 k4 h2 h2' z2 z4]
   ·cases h'
  ·cases h
theorem aek(n l:Nat)(u:T):eqD n (.loc l) u=none:=by cases n<;>cases u<;>rfl
theorem adQ(n l:Nat)(u:T):eqD n (.exc l) u=none:=by cases n<;>cases u<;>rfl
theorem aka(ts:List T)(u:T):eqD 0 (.tup ts) u=none:=by cases u<;>rfl
theorem agA(ts:List T)(u:T):eqD 0 (.lst ts) u=none:=by cases u<;>rfl
theorem aeD{w:Wo}{H:Hp}:∀(n:Nat) (t t' u:T) (v:V) (k k':Bool),Rep G w H t v→Rep G w H t' v→eqD n t u=some k→eqD n t' u=some k'→k=k':=by
 intro n
 induction n with
 | zero=>
  intro t t' u v k k' h1 h2 e1 e2
  cases t<;>cases t'<;>first
   | (cases h1;cases h2;rw[e1]at e2;cases e2;rfl)
   | (rw[aek]at e1;cases e1;done)
   | (rw[aek]at e2;cases e2;done)
   | (rw[adQ]at e1;cases e1;done)
   | (rw[adQ]at e2;cases e2;done)
   | (rw[aka]at e1;cases e1;done)
   | (rw[aka]at e2;cases e2;done)
   | (rw[agA]at e1;cases e1;done)
   | (rw[agA]at e2;cases e2;done)
   | (cases h1;cases h2;done)
 | succ n ih=>
  intro t t' u v k k' h1 h2 e1 e2
  cases t<;>cases t'<;>first
   | (cases h1;cases h2;rw[e1]at e2;cases e2;rfl)
   | (cases h1;cases h2;done)
   | (rw[aek]at e1;cases e1;done)
   | (rw[aek]at e2;cases e2;done)
   | (rw[adQ]at e1;cases e1;done)
   | (rw[adQ]at e2;cases e2;done)
   | (rw[aka]at e1;cases e1;done)
   | (rw[aka]at e2;cases e2;done)
   | (rw[agA]at e1;cases e1;done)
   | (rw[agA]at e2;cases e2;done)
   | (cases h1;obtain⟨_,_,z,_⟩:=h2;cases z;done)
   | (cases h2;obtain⟨_,_,z,_⟩:=h1;cases z;done)
   | skip
  ·rename_i ts ts'
   obtain⟨a,vs,e,q,r⟩:=h1
   obtain⟨a',vs',e',q',r'⟩:=h2
   subst e
   cases e'
   rw[q]at q'
   cases q'
   cases u<;>simp only[eqD]at e1 e2<;>first|(cases e1;done)|(cases e1;cases e2;rfl)|exact adl (ih ·  ·  ·  ·  ·  ·) ts ts' _ vs k k' r r' e1 e2
  ·obtain⟨a,vs,e,q,r⟩:=h1
   obtain⟨a',vs',e',_,q',r'⟩:=h2
   subst e
   cases e'
   rcases q' with q'|⟨_,q'⟩<;>(rw[q]at q';cases q')
  ·obtain⟨a,vs,e,_,q,r⟩:=h1
   obtain⟨a',vs',e',q',r'⟩:=h2
   subst e
   cases e'
   rcases q with q|⟨_,q⟩<;>(rw[q]at q';cases q')
  ·rename_i ts ts'
   obtain⟨a,vs,e,_,q,r⟩:=h1
   obtain⟨a',vs',e',_,q',r'⟩:=h2
   subst e
   cases e'
   have ev:vs=vs':=by
    rcases q with q|⟨o,q⟩<;>rcases q' with q'|⟨o',q'⟩<;>(rw[q]at q';cases q';try rfl)
   subst ev
   cases u<;>simp only[eqD]at e1 e2<;>first|(cases e1;done)|(cases e1;cases e2;rfl)|exact adl (ih ·  ·  ·  ·  ·  ·) ts ts' _ vs k k' r r' e1 e2
theorem ag4{x:T}:∀(ts:List T) (k:Bool),al4 x ts=some k→(∀t∈ts,∃j,eqD 8 t x=some j)∧(k=true↔∃t∈ts,eqD 8 t x=some true)
 | [],k,h=>by cases h;exact⟨fun t z=>by simp at z,by simp⟩
 | t::ts,k,h=>by
  unfold al4 at h
  split at h
  ·rename_i k1 k2 z1 z2
   cases h
   obtain⟨h1,h2⟩:=ag4 ts k2 z2
   refine⟨fun u hu=>?_,?_⟩
   ·rcases List.mem_cons.mp hu with rfl|hu
    ·exact⟨k1,z1⟩
    ·exact h1 u hu
   ·constructor
    ·intro q
     rcases(Bool.or_eq_true _ _).mp q with q|q
     ·subst q;exact⟨t,List.mem_cons_self ..,z1⟩
     ·obtain⟨u,hu,e⟩:=h2.mp q
      exact⟨u,List.mem_cons_of_mem _ hu,e⟩
    ·rintro⟨u,hu,e⟩
     rcases List.mem_cons.mp hu with rfl|hu
     ·have:some k1=some true:=z1.symm.trans e
      cases this
      rfl
     ·rw[h2.mpr ⟨u,hu,e⟩,Bool.or_true]
  ·cases h
theorem agC{vs:List V}{its:List Value}(r:Vals vs its){u:Value}(h:u∈its):∃v∈vs,aaF v u:=by
 obtain⟨j,hj,e⟩:=List.mem_iff_getElem.mp h
 obtain⟨v,h1,h2⟩:=adN r (List.getElem?_eq_some_iff.mpr ⟨hj,e⟩)
 exact⟨v,List.mem_of_getElem? h1,h2⟩
theorem ag6{w:Wo}{H:Hp}{ts:List T}{vs:List V}(r:aah G w H ts vs){v:V}(h:v∈vs):∃t∈ts,Rep G w H t v:=by
 obtain⟨j,hj,e⟩:=List.mem_iff_getElem.mp h
 obtain⟨t,h1,h2⟩:=r.get' (List.getElem?_eq_some_iff.mpr ⟨hj,e⟩)
 exact⟨t,List.mem_of_getElem? h1,h2⟩
theorem akA{w:Wo}{H:Hp}{ts:List T}{vs:List V}(r:aah G w H ts vs){t:T}(h:t∈ts):∃v∈vs,Rep G w H t v:=by
 obtain⟨j,hj,e⟩:=List.mem_iff_getElem.mp h
 obtain⟨t,h1,h2⟩:=r.get (List.getElem?_eq_some_iff.mpr ⟨hj,e⟩)
 exact⟨t,List.mem_of_getElem? h1,h2⟩
theorem akF{vs:List V}{its:List Value}(r:Vals vs its){v:V}(h:v∈vs):∃u∈its,aaF v u:=by
 obtain⟨j,hj,e⟩:=List.mem_iff_getElem.mp h
 obtain⟨u,h1,h2⟩:=r.get (List.getElem?_eq_some_iff.mpr ⟨hj,e⟩)
 exact⟨u,List.mem_of_getElem? h1,h2⟩
open Classical in
theorem adF{pins:List (Addr×Obj)}{σ:St}{H:Hp}{s:Shared}{w:Wo}{A:Around}(I:Inv X pins σ H s)(hu:A.units+8<cLine){tx:T}{vx:V}{x:Value}{ts:List T}{vs:List V}{its:List Value}{k:Bool}
  (Rx:Rep G w H tx vx) (rx:aaF vx x) (r:aah G w H ts vs) (q:Vals vs its) (h:al4 tx ts=some k):∃e:Value→Bool,(∀y,y∈its.toArray→EqAt A s y x (e y))∧its.toArray.any e=k:=by
 obtain⟨h1,h2⟩:=ag4 ts k h
 refine⟨fun u=>decide (∃v t,aaF v u∧Rep G w H t v∧eqD 8 t tx=some true),fun y hy=>?_,?_⟩
 ·have hy':y∈its:=by simpa using hy
  obtain⟨v,hv,rv⟩:=agC q hy'
  obtain⟨t,ht,rt⟩:=ag6 r hv
  obtain⟨j,hj⟩:=h1 t ht
  have z:=ahB I 8 A hu t tx v vx y x j rt Rx rv rx hj
  have ej:decide (∃v t,aaF v y∧Rep G w H t v∧eqD 8 t tx=some true)=j:=by
   cases j with
   | true=>exact decide_eq_true ⟨v,t,rv,rt,hj⟩
   | false=>
    refine decide_eq_false ?_
    rintro⟨v',t',rv',rt',e'⟩
    cases rv.inj rv'
    exact Bool.noConfusion (aeD 8 t t' tx v false true rt rt' hj e')
  dsimp only
  rw[ej]
  exact z
 ·rw[Bool.eq_iff_iff,h2,List.any_toArray,List.any_eq_true]
  constructor
  ·rintro⟨u,hu',e⟩
   obtain⟨v,t,rv,rt,e⟩:=of_decide_eq_true e
   obtain⟨v',hv',rv'⟩:=agC q hu'
   cases rv.inj rv'
   obtain⟨t',ht',rt'⟩:=ag6 r hv'
   obtain⟨j,hj⟩:=h1 t' ht'
   have:=aeD 8 t t' tx v true j rt rt' e hj
   subst this
   exact⟨t',ht',hj⟩
  ·rintro⟨t,ht,e⟩
   obtain⟨v,hv,rt⟩:=akA r ht
   obtain⟨u,hu',rv⟩:=akF q hv
   exact⟨u,hu',decide_eq_true ⟨v,t,rv,rt,e⟩⟩
theorem al0(hu:X.A.units+9<cLine)(c:Cm):OpR X (compareOp (aks c)) (r2 G (aj6 c)):=by
 cases c with
 | lt=>exact aee (fun x y r h=>arM h) ass
 | le=>exact aee (fun x y r h=>arM h) atA
 | gt=>exact aee (fun x y r h=>arM h) ath
 | ge=>exact aee (fun x y r h=>arM h) au0
 | eq=>
  intro pins s σ H x y v u Q I rx ry h
  obtain⟨w,st,x',y',r,S,Rx,Ry,e,q⟩:=h
  unfold aj6 act at e
  cases he:eqR x' y' with
  | none=>simp[he]at e
  | some k=>
   simp only[he,Option.map_some,Option.some.injEq]at e
   subst e
   exact(aw6 I (by omega) Rx Ry rx ry he).1 _ _ _ _ (abI I S q)
 | ne=>
  intro pins s σ H x y v u Q I rx ry h
  obtain⟨w,st,x',y',r,S,Rx,Ry,e,q⟩:=h
  unfold aj6 act at e
  cases he:eqR x' y' with
  | none=>simp[he]at e
  | some k=>
   simp only[he,Option.map_some,Option.some.injEq]at e
   subst e
   exact(aw6 I (by omega) Rx Ry rx ry he).2 _ _ _ _ (abI I S q)
 | isN=>
  intro pins s σ H x y v u Q I rx ry h
  obtain⟨w,st,x',y',r,S,Rx,Ry,e,q⟩:=h
  unfold aj6 act at e
  dsimp only at e
  split at e
  ·have hy:y=.non:=Ry
   refine apO pins s σ H x y v u Q I rx ry ⟨hy,?_⟩
   rw[adt Rx]
   cases e
   exact q w H _ (Le.refl _ _) S rfl
  ·cases e
 | notN=>
  intro pins s σ H x y v u Q I rx ry h
  obtain⟨w,st,x',y',r,S,Rx,Ry,e,q⟩:=h
  unfold aj6 act at e
  dsimp only at e
  split at e
  ·have hy:y=.non:=Ry
   refine alS pins s σ H x y v u Q I rx ry ⟨hy,?_⟩
   rw[adt Rx]
   cases e
   exact q w H _ (Le.refl _ _) S rfl
  ·cases e
 | mem=>
  intro pins s σ H x y v u Q I rx ry h
  obtain⟨w,st,x',y',r,S,Rx,Ry,e,q⟩:=h
  unfold aj6 act at e
  dsimp only at e
  cases hx:x'.val? with
  | none=>simp[hx]at e
  | some tx=>
   cases hy:y'.sq2 with
   | none=>simp[hx,hy]at e
   | some ts=>
    cases hm:al4 tx ts with
    | none=>simp[hx,hy,hm]at e
    | some k=>
     simp[hx,hy,hm]at e
     subst e
     have Rx':Rep G w H tx x:=by
      cases x' with
      | val t=>cases hx;exact Rx
      | bor t=>cases hx
     obtain⟨p,vs,rfl,hp,rp⟩:=aaX.sq2 Ry hy
     cases ry
     rcases hp with hp|hp
     ·obtain⟨its,r1,hi⟩:=aaN I hp
      obtain⟨e,h1,h2⟩:=adF (A:=X.A.in1) I (by show X.A.units+1+8<cLine;omega) Rx' rx rp r1 hm
      exact in_listAt e hi h1 (by rw[h2];exact abI I S q)
     ·obtain⟨its,r1,hi⟩:=abh I hp
      obtain⟨e,h1,h2⟩:=adF (A:=X.A.in1) I (by show X.A.units+1+8<cLine;omega) Rx' rx rp r1 hm
      exact in_tupleAt e hi h1 (by rw[h2];exact abI I S q)
 | nmem=>
  intro pins s σ H x y v u Q I rx ry h
  obtain⟨w,st,x',y',r,S,Rx,Ry,e,q⟩:=h
  unfold aj6 act at e
  dsimp only at e
  cases hx:x'.val? with
  | none=>simp[hx]at e
  | some tx=>
   cases hy:y'.sq2 with
   | none=>simp[hx,hy]at e
   | some ts=>
    cases hm:al4 tx ts with
    | none=>simp[hx,hy,hm]at e
    | some k=>
     simp[hx,hy,hm]at e
     subst e
     have Rx':Rep G w H tx x:=by
      cases x' with
      | val t=>cases hx;exact Rx
      | bor t=>cases hx
     obtain⟨p,vs,rfl,hp,rp⟩:=aaX.sq2 Ry hy
     cases ry
     rcases hp with hp|hp
     ·obtain⟨its,r1,hi⟩:=aaN I hp
      obtain⟨e,h1,h2⟩:=adF (A:=X.A.in1) I (by show X.A.units+1+8<cLine;omega) Rx' rx rp r1 hm
      exact notIn_listAt e hi h1 (by rw[h2];exact abI I S q)
     ·obtain⟨its,r1,hi⟩:=abh I hp
      obtain⟨e,h1,h2⟩:=adF (A:=X.A.in1) I (by show X.A.units+1+8<cLine;omega) Rx' rx rp r1 hm
      exact notIn_tupleAt e hi h1 (by rw[h2];exact abI I S q)
theorem apR(hu:X.A.units+9<cLine)(c:Cm)(ha:PE X a (tV G X C a'))(hb:PE X b (tV G X C b'))(hm:behindInMarks (aks c) b=false):PE X (.Compare a [aks c] [b] pos) (tV G X C (.cmp c a' b')):=
 s2c (al0 hu c) ha hb hm fun _ _=>rfl
end
section
variable{G:Gx}{X:Cx}{C:Cf}{a b c:Expr}{a' b' c' e':E}{pos:Pos}{aat:List Expr}
theorem aqf{w:Wo}{H:Hp}{x:R}{v:V}{k:Bool}(r:acK G w H x v)(h:tru x=some k):ase X.K v H k:=by
 match x,h with
 | .val .non,h=>cases r;cases h;exact rfl
 | .val (.bl b),h=>cases r;cases h;exact rfl
 | .val (.int i),h=>cases r;cases h;exact rfl
 | .val (.lst ts),h=>
  cases h
  obtain⟨a,vs,e,_,q,r⟩:=r
  subst e
  refine .inl ⟨vs,.inl q,?_⟩
  cases ts with
  | nil=>cases r;rfl
  | cons t ts=>obtain⟨_,_,e,_⟩:=r;subst e;rfl
 | .val (.tup ts),h=>
  cases h
  obtain⟨a,vs,e,q,r⟩:=r
  subst e
  refine .inr (.inl ⟨vs,.inl (.inl q),?_⟩)
  cases ts with
  | nil=>cases r;rfl
  | cons t ts=>obtain⟨_,_,e,_⟩:=r;subst e;rfl
 | .bor ts,h=>
  cases h
  obtain⟨a,vs,e,q,r⟩:=r
  subst e
  refine .inl ⟨vs,.inl (.inl q),?_⟩
  cases ts with
  | nil=>cases r;rfl
  | cons t ts=>obtain⟨_,_,e,_⟩:=r;subst e;rfl
def avw(x:R):Option R:=(tru x).map fun k=>.val (.bl k)
theorem akD{e:Expr}(hE:PE X e (tV G X C e'))(he:∀whole,isTrue e X.env whole=(do let v ←whole;standAt e.pos;holding [v] (truthy v)))
  (hev:∀σ s,ev C e' .t σ s=(ev C e' .v σ s).bind fun x s=>.of (avw x) s):PT X e (tT G X C e'):=by
 refine PT.imp (ak3 hE he) ?_
 rintro σV H Q ⟨w₀,H₀,w,σ,s,g,h⟩
 rw[hev]at h
 refine⟨w₀,H₀,w,σ,s,g,(aa4.bind h).imp ?_⟩
 rintro v H1 ⟨w1,r,s1,L1,S1,R1,h1⟩
 obtain⟨r',e,q⟩:=aa4.of h1
 unfold avw at e
 cases ht:tru r with
 | none=>rw[ht]at e;cases e
 | some k=>
  rw[ht]at e
  cases e
  obtain⟨k',e,q'⟩:=q w1 H1 (.bl k) (Le.refl _ _) S1 rfl
  cases e
  exact⟨k,aqf R1.d ht,q'⟩
theorem asN(c:Cm)(σ:Fr)(s:Sto):ev C (.cmp c a' b') .t σ s=ev C (.cmp c a' b') .v σ s:=by
 show Res.bind (Res.bind (ev C a' .v σ s) _) _=Res.bind (ev C a' .v σ s) _
 cases ev C a' .v σ s with
 | stuck=>rfl
 | exc c s=>rfl
 | ok x s1=>
  show Res.bind (Res.bind (ev C b' .v σ s1) _) _=Res.bind (ev C b' .v σ s1) _
  cases ev C b' .v σ s1 with
  | stuck=>rfl
  | exc c s=>rfl
  | ok y s2=>
   show Res.bind (Res.of ((act c x y).map _) s2) _=Res.of ((act c x y).map _) s2
   cases act c x y<;>rfl
theorem aqw(hu:X.A.units+9<cLine)(c:Cm)(ha:PE X a (tV G X C a'))(hb:PE X b (tV G X C b'))(hm:behindInMarks (aks c) b=false):PT X (.Compare a [aks c] [b] pos) (tT G X C (.cmp c a' b')):=by
 refine PT.imp (amA (al0 (G:=G) hu c) ha hb hm) ?_
 rintro σV H Q ⟨w₀,H₀,w,σ,s,g,h⟩
 rw[asN]at h
 exact amU (f:=aj6 c) ⟨w₀,H₀,w,σ,s,g,h⟩
def r1(G:Gx)(f:R→Option R):V→Hp→VK→Prop:=fun x H Q=>∃w s rx r,StoOk G w H s∧acK G w H rx x∧f rx=some r∧∀w' H' v,Le w w' H H'→StoOk G w' H' s→aaX G w' H' r v→Q v H'
theorem aqm{f:R→Option R}{σV:St}{H:Hp}{Q:VK}(h:∃w₀ H₀ w σ s,Good G w₀ H₀ w H σ s σV∧aa4 G X σV w H ((ev C a' .v σ s).bind fun x s1=>.of (f x) s1) Q):
  tV G X C a' σV H fun x H1=>r1 G f x H1 Q:=by
 obtain⟨w₀,H₀,w,σ,s,g,h⟩:=h
 refine⟨w₀,H₀,w,σ,s,g,(aa4.bind h).imp ?_⟩
 rintro x H1 ⟨w1,r1,s1,L1,S1,R1,h1⟩
 obtain⟨r,e,q⟩:=aa4.of h1
 exact⟨w1,s1,r1,r,S1,R1.d,e,q⟩
theorem ani{f:R→Option R}{σV:St}{H:Hp}{Q:VK}(h:∃w₀ H₀ w σ s,Good G w₀ H₀ w H σ s σV∧aa4 G X σV w H ((ev C a' .v σ s).bind fun x s1=>.of (f (x.dr s1)) s1) Q):
  tV G X C a' σV H fun x H1=>r1 G f x H1 Q:=by
 obtain⟨w₀,H₀,w,σ,s,g,h⟩:=h
 refine⟨w₀,H₀,w,σ,s,g,(aa4.bind h).imp ?_⟩
 rintro x H1 ⟨w1,r1,s1,L1,S1,R1,h1⟩
 obtain⟨r,e,q⟩:=aa4.of h1
 exact⟨w1,s1,_,r,S1,R1.dr S1,e,q⟩
theorem apN(ha:PE X a (tV G X C a')):PE X (.UnaryOp .USub a pos) (tV G X C (.neg a')):=by
 refine PE.imp (ate ap8 ha) ?_
 rintro σV H Q h
 have h:=aqm (f:=fun x=>x.int?.map fun i=>R.val (.int (-i))) h
 refine(show tV G X C a' σV H _ from ?_)
 obtain⟨w₀,H₀,w,σ,s,g,h⟩:=h
 refine⟨w₀,H₀,w,σ,s,g,h.imp ?_⟩
 rintro x H1 ⟨w1,s1,rx,r,S1,R1,e,q⟩
 match rx,e with
 | .val (.int i),e=>cases e;cases R1;exact⟨i,rfl,q w1 H1 _ (Le.refl _ _) S1 rfl⟩
theorem aoY(ha:PE X a (tV G X C a')):PE X (.UnaryOp .Not a pos) (tV G X C (.not a')):=by
 intro pins s σ H Q I h
 have h:=aqm (f:=fun x=>(tru x).map fun k=>R.val (.bl (!k))) h
 refine PyProof.Rows.UnaryOp_ (thn (ha pins s σ H _ I h) fun v s1 ⟨x,H1,I1,r1,q1⟩=>?_)
 obtain⟨w1,st,rx,r,S1,R1,e,q⟩:=q1
 dsimp only at e
 cases ht:tru rx with
 | none=>rw[ht]at e;cases e
 | some k=>
  rw[ht]at e
  cases e
  exact PyProof.Rows.not_of (thn (alB pins s1 σ H1 x v (fun c H2=>Q (.bl (!c)) H2) I1 r1 ⟨k,aqf R1 ht,q w1 H1 _ (Le.refl _ _) S1 rfl⟩) fun c s2 ⟨H2,I2,z⟩=>⟨.bl (!c),H2,I2,rfl,z⟩)
theorem ahg{w:Wo}{H:Hp}{σV:St}{x:R}{v:V}{m n:Res R}{Q:VK}(r:aaX G w H x v)(h:aa4 G X σV w H (onB x m n) Q):∃k,v=.bl k∧x=.val (.bl k)∧aa4 G X σV w H (if k=true then m else n) Q:=by
 match x,h with
 | .val (.bl true),h=>exact⟨true,r,rfl,h⟩
 | .val (.bl false),h=>exact⟨false,r,rfl,h⟩
 | .val .non,h=>exact h.elim
 | .val (.int _),h=>exact h.elim
 | .val (.str _),h=>exact h.elim
 | .val (.tup _),h=>exact h.elim
 | .val (.lst _),h=>exact h.elim
 | .val (.loc _),h=>exact h.elim
 | .val (.exc _),h=>exact h.elim
 | .bor _,h=>exact h.elim
theorem aqV(ha:PT X a (tT G X C a')):PT X (.UnaryOp .Not a pos) (tT G X C (.not a')):=by
 refine PT.imp (ars ha) ?_
 rintro σV H Q ⟨w₀,H₀,w,σ,s,g,h⟩
 refine⟨w₀,H₀,w,σ,s,g,(aa4.bind h).imp ?_⟩
 rintro v H1 ⟨w1,r,s1,L1,S1,R1,h1⟩
 obtain⟨k,rfl,rfl,h1⟩:=ahg R1 h1
 refine⟨k,rfl,?_⟩
 cases k with
 | true=>obtain⟨_,e,q⟩:=h1 w1 H1 (.bl false) (Le.refl _ _) S1 rfl;cases e;exact q
 | false=>obtain⟨_,e,q⟩:=h1 w1 H1 (.bl true) (Le.refl _ _) S1 rfl;cases e;exact q
theorem aoO{σV:St}{H:Hp}{Q:Bool→Hp→Prop}(h:tT G X C (.and a' b') σV H Q):avJ (tT G X C a') (tT G X C b') σV H Q:=by
 obtain⟨w₀,H₀,w,σ,s,g,h⟩:=h
 refine⟨w₀,H₀,w,σ,s,g,(aa4.bind h).imp ?_⟩
 rintro v H1 ⟨w1,r,s1,L1,S1,R1,h1⟩
 obtain⟨k,rfl,rfl,h1⟩:=ahg R1 h1
 refine⟨k,rfl,?_⟩
 cases k with
 | true=>exact anw ⟨w₀,H₀,w1,σ,s1,g.step L1 S1,h1⟩
 | false=>obtain⟨_,e,q⟩:=h1 w1 H1 (.bl false) (Le.refl _ _) S1 rfl;cases e;exact ame q
theorem asn{σV:St}{H:Hp}{Q:Bool→Hp→Prop}(h:tT G X C (.or a' b') σV H Q):tOr (tT G X C a') (tT G X C b') σV H Q:=by
 obtain⟨w₀,H₀,w,σ,s,g,h⟩:=h
 refine⟨w₀,H₀,w,σ,s,g,(aa4.bind h).imp ?_⟩
 rintro v H1 ⟨w1,r,s1,L1,S1,R1,h1⟩
 obtain⟨k,rfl,rfl,h1⟩:=ahg R1 h1
 refine⟨k,rfl,?_⟩
 cases k with
 | true=>obtain⟨_,e,q⟩:=h1 w1 H1 (.bl true) (Le.refl _ _) S1 rfl;cases e;exact anw q
 | false=>exact ame ⟨w₀,H₀,w1,σ,s1,g.step L1 S1,h1⟩
theorem PW.imp{e:Expr}{t t':TT}(h:PW X e t)(q:∀σ H Q,t' σ H Q→t σ H Q):PW X e t':=fun wh pins s σ H Q I z=>h wh pins s σ H Q I (q _ _ _ z)
def PTb(X:Cx)(op:BoolOp)(es:List Expr)(pos:Pos)(t:TT):Prop:=PW X (.BoolOp op es pos) t
theorem afW(h:PT X a (tT G X C a')):PTb X .And [a] pos (tT G X C a'):=ama h
theorem ahh(h:PT X a (tT G X C a')):PTb X .Or [a] pos (tT G X C a'):=aoK h
theorem ans(ha:PT X a (tT G X C a'))(hb:PTb X .And (b::aat) pos (tT G X C b')):PTb X .And (a::b::aat) pos (tT G X C (.and a' b')):=PW.imp (aqd ha hb) fun _ _ _ h=>aoO h
theorem apg(ha:PT X a (tT G X C a'))(hb:PTb X .Or (b::aat) pos (tT G X C b')):PTb X .Or (a::b::aat) pos (tT G X C (.or a' b')):=PW.imp (asS ha hb) fun _ _ _ h=>asn h
theorem aoz(ha:PE X a (tV G X C a'))(hb:PE X (.BoolOp .And (b::aat) pos) (tV G X C b')):PE X (.BoolOp .And (a::b::aat) pos) (tV G X C (.and a' b')):=by
 refine PE.imp (aqr ha hb) ?_
 rintro σV H Q ⟨w₀,H₀,w,σ,s,g,h⟩
 refine⟨w₀,H₀,w,σ,s,g,(aa4.bind h).imp ?_⟩
 rintro v H1 ⟨w1,r,s1,L1,S1,R1,h1⟩
 obtain⟨k,rfl,rfl,h1⟩:=ahg R1 h1
 refine⟨k,rfl,?_⟩
 cases k with
 | true=>exact anw ⟨w₀,H₀,w1,σ,s1,g.step L1 S1,h1⟩
 | false=>exact ame (h1 w1 H1 (.bl false) (Le.refl _ _) S1 rfl)
theorem au5(ha:PE X a (tV G X C a'))(hb:PE X (.BoolOp .Or (b::aat) pos) (tV G X C b')):PE X (.BoolOp .Or (a::b::aat) pos) (tV G X C (.or a' b')):=by
 refine PE.imp (asK ha hb) ?_
 rintro σV H Q ⟨w₀,H₀,w,σ,s,g,h⟩
 refine⟨w₀,H₀,w,σ,s,g,(aa4.bind h).imp ?_⟩
 rintro v H1 ⟨w1,r,s1,L1,S1,R1,h1⟩
 obtain⟨k,rfl,rfl,h1⟩:=ahg R1 h1
 refine⟨k,rfl,?_⟩
 cases k with
 | true=>exact anw (h1 w1 H1 (.bl true) (Le.refl _ _) S1 rfl)
 | false=>exact ame ⟨w₀,H₀,w1,σ,s1,g.step L1 S1,h1⟩
theorem aqX(hc:PT X c (tT G X C c'))(ha:PE X a (tV G X C a'))(hb:PE X b (tV G X C b')):PE X (.IfExp c a b pos) (tV G X C (.ife c' a' b')):=by
 refine PE.imp (akl hc ha hb) ?_
 rintro σV H Q ⟨w₀,H₀,w,σ,s,g,h⟩
 refine⟨w₀,H₀,w,σ,s,g,(aa4.bind h).imp ?_⟩
 rintro v H1 ⟨w1,r,s1,L1,S1,R1,h1⟩
 obtain⟨k,rfl,rfl,h1⟩:=ahg R1 h1
 refine⟨k,rfl,?_⟩
 cases k with
 | true=>exact anw ⟨w₀,H₀,w1,σ,s1,g.step L1 S1,h1⟩
 | false=>exact ame ⟨w₀,H₀,w1,σ,s1,g.step L1 S1,h1⟩
def am6(G:Gx)(X:Cx)(σV:St)(w:Wo)(H:Hp)(res:Res (List T))(Q:List V→Hp→Prop):Prop:=match res with
 | .stuck=>False
 | .ok ts s'=>∀w' H' vs,Le w w' H H'→StoOk G w' H' s'→aah G w' H' ts vs→Q vs H'
 | .exc c s'=>∀w' H' pins u sh,Le w w' H H'→StoOk G w' H' s'→aaV G X pins σV H' c u sh→X.xe u sh
def ahy(G:Gx)(X:Cx)(σV:St)(w:Wo)(H:Hp)(res:Res (List R))(Q:List V→Hp→Prop):Prop:=match res with
 | .stuck=>False
 | .ok ts s'=>∀w' H' vs,Le w w' H H'→StoOk G w' H' s'→aaZ G w' H' ts vs→Q vs H'
 | .exc c s'=>∀w' H' pins u sh,Le w w' H H'→StoOk G w' H' s'→aaV G X pins σV H' c u sh→X.xe u sh
def tA(G:Gx)(X:Cx)(C:Cf)(es:List E):TA:=fun σV H Q=>∃w₀ H₀ w σ s,Good G w₀ H₀ w H σ s σV∧am6 G X σV w H (evs C es σ s) Q
def tR(G:Gx)(X:Cx)(C:Cf)(es:List E):TA:=fun σV H Q=>∃w₀ H₀ w σ s,Good G w₀ H₀ w H σ s σV∧ahy G X σV w H (evr C es σ s) Q
theorem aq5:PA X [] (tA G X C []):=PA.imp abb fun σV H Q ⟨w₀,H₀,w,σ,s,g,h⟩=>h w H [] (Le.refl _ _) g.sto rfl
theorem apL:PA X [] (tR G X C []):=PA.imp abb fun σV H Q ⟨w₀,H₀,w,σ,s,g,h⟩=>h w H [] (Le.refl _ _) g.sto rfl
variable{es:List Expr}{es':List E}
theorem amr(ha:PE X a (tV G X C a'))(hr:PA X es (tA G X C es'))(hs:starEach (a::es) X.env=(false,eval a X.env)::starEach es X.env):PA X (a::es) (tA G X C (a'::es')):=by
 refine PA.imp (aa5 ha hr hs) ?_
 rintro σV H Q ⟨w₀,H₀,w,σ,s,g,h⟩
 have h:am6 G X σV w H ((ev C a' .v σ s).bind fun x s1=>onV x fun t=>(evs C es' σ s1).bind fun ts s2=>.ok (t::ts) s2) Q:=h
 refine⟨w₀,H₀,w,σ,s,g,?_⟩
 cases he:ev C a' .v σ s with
 | stuck=>rw[he]at h;exact h
 | exc c s1=>rw[he]at h;exact h
 | ok x s1=>
  rw[he]at h
  intro w1 H1 v L1 S1 R1
  match x,h with
  | .bor _,h=>exact h.elim
  | .val t,h=>
   have h:am6 G X σV w H ((evs C es' σ s1).bind fun ts s2=>.ok (t::ts) s2) Q:=h
   refine⟨w₀,H₀,w1,σ,s1,g.step L1 S1,?_⟩
   cases hf:evs C es' σ s1 with
   | stuck=>rw[hf]at h;exact h
   | exc c s2=>rw[hf]at h;exact fun w2 H2 pins u sh L2=>h w2 H2 pins u sh (L1.trans L2)
   | ok ts s2=>
    rw[hf]at h
    intro w2 H2 vs L2 S2 R2
    exact h w2 H2 (v::vs) (L1.trans L2) S2 ⟨v,vs,rfl,Rep.mono L2 S1 t v R1,R2⟩
theorem an9(ha:PE X a (tV G X C a'))(hr:PA X es (tR G X C es'))(hs:starEach (a::es) X.env=(false,eval a X.env)::starEach es X.env):PA X (a::es) (tR G X C (a'::es')):=by
 refine PA.imp (aa5 ha hr hs) ?_
 rintro σV H Q ⟨w₀,H₀,w,σ,s,g,h⟩
 have h:ahy G X σV w H ((ev C a' .v σ s).bind fun x s1=>(evr C es' σ s1).bind fun ts s2=>.ok (x::ts) s2) Q:=h
 refine⟨w₀,H₀,w,σ,s,g,?_⟩
 cases he:ev C a' .v σ s with
 | stuck=>rw[he]at h;exact h
 | exc c s1=>rw[he]at h;exact h
 | ok x s1=>
  rw[he]at h
  intro w1 H1 v L1 S1 R1
  have h:ahy G X σV w H ((evr C es' σ s1).bind fun ts s2=>.ok (x::ts) s2) Q:=h
  refine⟨w₀,H₀,w1,σ,s1,g.step L1 S1,?_⟩
  cases hf:evr C es' σ s1 with
  | stuck=>rw[hf]at h;exact h
  | exc c s2=>rw[hf]at h;exact fun w2 H2 pins u sh L2=>h w2 H2 pins u sh (L1.trans L2)
  | ok ts s2=>
   rw[hf]at h
   intro w2 H2 vs L2 S2 R2
   exact h w2 H2 (v::vs) (L1.trans L2) S2 ⟨v,vs,rfl,aaX.mono L2 S1 R1,R2⟩
theorem adV(C:Cf):∀(es:List E) (σ:Fr) (s:Sto) (ts:List T) (s':Sto),evs C es σ s=.ok ts s'→ts.length=es.length
 | [],σ,s,ts,s',h=>by cases h;rfl
 | e::es,σ,s,ts,s',h=>by
  unfold evs at h
  cases he:ev C e .v σ s with
  | stuck=>rw[he]at h;cases h
  | exc c s1=>rw[he]at h;cases h
  | ok x s1=>
   rw[he]at h
   match x,h with
   | .bor _,h=>cases h
   | .val t,h=>
    have h:((evs C es σ s1).bind fun ts s2=>Res.ok (t::ts) s2)=.ok ts s':=h
    cases hf:evs C es σ s1 with
    | stuck=>rw[hf]at h;cases h
    | exc c s2=>rw[hf]at h;cases h
    | ok us s2=>
     rw[hf]at h
     cases h
     simp[adV C es σ s1 us _ hf]
theorem aqL{k:Nat}(h:PA X es (tA G X C es'))(hz:es'.length≤sizeLine):PE X (.Tuple es k pos) (tV G X C (.tup es')):=by
 refine PE.imp (apX h) ?_
 rintro σV H Q ⟨w₀,H₀,w,σ,s,g,h⟩
 have h:aa4 G X σV w H ((evs C es' σ s).bind fun ts s1=>.ok (.val (.tup ts)) s1) Q:=h
 refine⟨w₀,H₀,w,σ,s,g,?_⟩
 cases hf:evs C es' σ s with
 | stuck=>rw[hf]at h;exact h
 | exc c s2=>rw[hf]at h;exact h
 | ok ts s2=>
  rw[hf]at h
  intro w2 H2 vs L2 S2 R2
  refine⟨by rw[←R2.length,adV C _ _ _ _ _ hf];exact hz,?_⟩
  exact adS S2 R2 fun w' H' v L S R=>h w' H' v (L2.trans L) S R
theorem apM(h:PA X es (tA G X C es'))(hz:es'.length≤sizeLine):PE X (.List es pos) (tV G X C (.lst es')):=by
 refine PE.imp (akU h) ?_
 rintro σV H Q ⟨w₀,H₀,w,σ,s,g,h⟩
 have h:aa4 G X σV w H ((evs C es' σ s).bind fun ts s1=>.ok (.val (.lst ts)) s1) Q:=h
 refine⟨w₀,H₀,w,σ,s,g,?_⟩
 cases hf:evs C es' σ s with
 | stuck=>rw[hf]at h;exact h
 | exc c s2=>rw[hf]at h;exact h
 | ok ts s2=>
  rw[hf]at h
  intro w2 H2 vs L2 S2 R2
  refine⟨by rw[←R2.length,adV C _ _ _ _ _ hf];exact hz,?_⟩
  exact acj S2 R2 fun w' H' v L S R=>h w' H' v (L2.trans L) S R
end
section
variable{G:Gx}{X:Cx}{C:Cf}{a b c:Expr}{a' b' c' e':E}{pos p:Pos}{aat:List Expr}
theorem aah.atI{w:Wo}{H:Hp}{ts:List T}{vs:List V}{i:Int}{t:T}(r:aah G w H ts vs)(h:L2.atI ts i=some t):∃v,L2.atI vs i=some v∧Rep G w H t v:=by
 unfold L2.atI at h ⊢
 rw[←r.length]
 cases e:ixN ts.length i with
 | none=>rw[e]at h;cases h
 | some j=>
  rw[e]at h
  exact r.get h
theorem apr(ha:PE X a (tV G X C a'))(hb:PE X b (tV G X C b'))(hs:afu b):PE X (.Subscript a b pos) (tV G X C (.sub a' b')):=by
 refine PE.imp (au4 ape ha hb hs) ?_
 rintro σV H Q ⟨w₀,H₀,w,σ,s,g,h⟩
 refine⟨w₀,H₀,w,σ,s,g,(aa4.bind h).imp ?_⟩
 rintro x H1 ⟨w1,r1,s1,L1,S1,R1,h1⟩
 refine⟨w₀,H₀,w1,σ,s1,g.step L1 S1,(aa4.bind h1).imp ?_⟩
 rintro y H2 ⟨w2,r2,s2,M2,S2,R2,h2⟩
 have R1':=R1.mono M2 S1
 match r2,h2 with
 | .val (.int i),h2=>
  obtain⟨r,e,q⟩:=aa4.of h2
  cases R2
  unfold aaQ at e
  cases hx:(r1.dr s2).sq2 with
  | none=>rw[hx]at e;cases e
  | some ts=>
   rw[hx]at e
   dsimp only at e
   cases ht:L2.atI ts i with
   | none=>rw[ht]at e;cases e
   | some t=>
    rw[ht]at e
    cases e
    obtain⟨pa,vs,rfl,hp,rp⟩:=acK.sq2 (R1'.dr S2) hx
    obtain⟨v,hv,rv⟩:=rp.atI ht
    rcases hp with hp|hp
    ·exact .inl ⟨pa,vs,i,v,rfl,rfl,.inl hp,hv,q w2 H2 v (Le.refl _ _) S2 rv⟩
    ·exact .inr (.inl ⟨pa,vs,i,v,rfl,rfl,SqT.of hp,hv,q w2 H2 v (Le.refl _ _) S2 rv⟩)
 | .val .non,h2=>exact h2.elim
 | .val (.bl _),h2=>exact h2.elim
 | .val (.str _),h2=>exact h2.elim
 | .val (.tup _),h2=>exact h2.elim
 | .val (.lst _),h2=>exact h2.elim
 | .val (.loc _),h2=>exact h2.elim
 | .val (.exc _),h2=>exact h2.elim
 | .bor _,h2=>exact h2.elim
def rSl(G:Gx):V→Option Int→Option Int→Hp→VK→Prop:=fun x lo hi H Q=>∃w s rx r,StoOk G w H s∧acK G w H rx x∧aem rx lo hi=some r∧∀w' H' v,Le w w' H H'→StoOk G w' H' s→aaX G w' H' r v→Q v H'
theorem SlR.imp{r r':V→Option Int→Option Int→Hp→VK→Prop}(h:SlR X r)(q:∀x lo hi H Q,r' x lo hi H Q→r x lo hi H Q):SlR X r':=fun pins s σ H x v vl vu lo hi sl Q I rx hs pl pu z=>h pins s σ H x v vl vu lo hi sl Q I rx hs pl pu (q _ _ _ _ _ z)
theorem aot:SlR X (rSl G):=by
 refine SlR.imp (SlR.or aq3 ang) ?_
 rintro x lo hi H Q ⟨w,s,rx,r,S,R1,e,q⟩
 unfold aem at e
 split at e
 ·rename_i ts
  split at e
  ·cases e
  ·rename_i hc
   cases e
   obtain⟨pa,vs,rfl,hp,rp⟩:=R1
   refine .inl ⟨pa,vs,rfl,SqT.of hp,by rw[←rp.length];exact hc,adS S (rp.cut lo hi) q⟩
 ·rename_i ts
  cases e
  obtain⟨pa,vs,rfl,_,hp,rp⟩:=R1
  exact .inr ⟨pa,vs,rfl,.inl hp,acj S (rp.cut lo hi) q⟩
 ·rename_i ts
  cases e
  obtain⟨pa,vs,rfl,hp,rp⟩:=R1
  exact .inr ⟨pa,vs,rfl,SqL.of hp,acj S (rp.cut lo hi) q⟩
 ·cases e
theorem aq7{w:Wo}{H:Hp}{σV:St}{x:R}{v:V}{f:Int→Res R}{Q:VK}(r:aaX G w H x v)(h:aa4 G X σV w H (onI x f) Q):∃i,v=.int i∧x=.val (.int i)∧aa4 G X σV w H (f i) Q:=by
 match x,h with
 | .val (.int i),h=>exact⟨i,r,rfl,h⟩
 | .val .non,h=>exact h.elim
 | .val (.bl _),h=>exact h.elim
 | .val (.str _),h=>exact h.elim
 | .val (.tup _),h=>exact h.elim
 | .val (.lst _),h=>exact h.elim
 | .val (.loc _),h=>exact h.elim
 | .val (.exc _),h=>exact h.elim
 | .bor _,h=>exact h.elim
theorem anh{p2:Pos}(ha:PE X a (tV G X C a'))(hb:PE X b (tV G X C b')):PE X (.Subscript a (.Slice (some b) none none p2) pos) (tV G X C (.cutL a' b')):=by
 refine PE.imp (agk (aot (G:=G)) ha (ah0 hb) ait) ?_
 rintro σV H Q ⟨w₀,H₀,w,σ,s,g,h⟩
 refine⟨w₀,H₀,w,σ,s,g,(aa4.bind h).imp ?_⟩
 rintro x H1 ⟨w1,r1,s1,L1,S1,R1,h1⟩
 refine⟨w₀,H₀,w1,σ,s1,g.step L1 S1,(aa4.bind h1).imp ?_⟩
 rintro y H2 ⟨w2,r2,s2,L2,S2,R2,h2⟩
 obtain⟨i,rfl,rfl,h2⟩:=aq7 R2 h2
 obtain⟨r,e,q⟩:=aa4.of h2
 exact⟨i,rfl,w2,s2,_,r,S2,(R1.mono L2 S1).dr S2,e,q⟩
theorem aml{p2:Pos}(ha:PE X a (tV G X C a'))(hb:PE X b (tV G X C b')):PE X (.Subscript a (.Slice none (some b) none p2) pos) (tV G X C (.cutU a' b')):=by
 refine PE.imp (agk (aot (G:=G)) ha ait (ah0 hb)) ?_
 rintro σV H Q ⟨w₀,H₀,w,σ,s,g,h⟩
 refine⟨w₀,H₀,w,σ,s,g,(aa4.bind h).imp ?_⟩
 rintro x H1 ⟨w1,r1,s1,L1,S1,R1,h1⟩
 refine⟨w₀,H₀,w1,σ,s1,g.step L1 S1,(aa4.bind h1).imp ?_⟩
 rintro y H2 ⟨w2,r2,s2,L2,S2,R2,h2⟩
 obtain⟨i,rfl,rfl,h2⟩:=aq7 R2 h2
 obtain⟨r,e,q⟩:=aa4.of h2
 exact⟨i,rfl,w2,s2,_,r,S2,(R1.mono L2 S1).dr S2,e,q⟩
def rB1(G:Gx)(f:R→Option R):List V→Hp→VK→Prop:=fun xs H Q=>∃v,xs=[v]∧r1 G f v H Q
theorem aaA.imp{f:Value}{r r':List V→Hp→VK→Prop}(h:aaA X f r)(q:∀xs H Q,r' xs H Q→r xs H Q):aaA X f r':=fun pins s σ H xs us Q I rx z=>h pins s σ H xs us Q I rx (q _ _ _ z)
theorem sB1{f:R→Option R}{id:String}{x:Str}(hc:aaA X (.builtin id) (rB1 G f))(hg:Gl X x)(hm:X.mg x=none)(hv:bootBuiltins x=some (.builtin id))(hn:x≠"__name__")(hdb:(x==("__debug__":Str))=false)
  (ha:PE X a (tV G X C a')) (hs:starEach [a] X.env=[(false,eval a X.env)]) (hev:∀σ s,ev C e' .v σ s=(ev C a' .v σ s).bind fun x s1=>.of (f (x.dr s1)) s1):PE X (.Call (.Name x p) [a] [] pos) (tV G X C e'):=by
 refine PE.imp (adO hc hg hm hv (aa5 ha abb hs) hn hdb hs rfl) ?_
 rintro σV H Q ⟨w₀,H₀,w,σ,s,g,h⟩
 rw[hev]at h
 obtain⟨w₀,H₀,w,σ,s,g,h⟩:=ani ⟨w₀,H₀,w,σ,s,g,h⟩
 exact⟨w₀,H₀,w,σ,s,g,h.imp fun v H1 q=>⟨v,rfl,q⟩⟩
theorem aqY{f:R→Option R}{T:String}{x:Str}(hc:aaA X (.type T) (rB1 G f))(hg:Gl X x)(hm:X.mg x=none)(hv:bootBuiltins x=some (.type T))(hn:x≠"__name__")(hdb:(x==("__debug__":Str))=false)
  (ha:PE X a (tV G X C a')) (hs:starEach [a] X.env=[(false,eval a X.env)]) (hev:∀σ s,ev C e' .v σ s=(ev C a' .v σ s).bind fun x s1=>.of (f (x.dr s1)) s1):PE X (.Call (.Name x p) [a] [] pos) (tV G X C e'):=by
 refine PE.imp (afb hc hg hm hv (aa5 ha abb hs) hn hdb hs rfl) ?_
 rintro σV H Q ⟨w₀,H₀,w,σ,s,g,h⟩
 rw[hev]at h
 obtain⟨w₀,H₀,w,σ,s,g,h⟩:=ani ⟨w₀,H₀,w,σ,s,g,h⟩
 exact⟨w₀,H₀,w,σ,s,g,h.imp fun v H1 q=>⟨v,rfl,q⟩⟩
theorem map_some{α β:Type}{o:Option α}{f:α→β}{r:β}(h:o.map f=some r):∃a,o=some a∧r=f a:=by
 cases o with
 | none=>cases h
 | some a=>cases h;exact⟨a,rfl,rfl⟩
theorem auB:aaA X (.builtin "len") (rB1 G (b1R .len)):=by
 refine aaA.imp aeG ?_
 rintro xs H Q ⟨v,rfl,w,s,rx,r,S,R1,e,q⟩
 obtain⟨ts,ht,rfl⟩:=map_some e
 obtain⟨pa,vs,rfl,hp,rp⟩:=acK.sq2 R1 ht
 refine⟨pa,vs,rfl,hp.imp (fun h=>.inl h) (fun h=>SqT.of h),?_⟩
 rw[←rp.length]
 exact q w H _ (Le.refl _ _) S rfl
theorem at3:aaA X (.builtin "abs") (rB1 G (b1R .abs)):=by
 refine aaA.imp ajF ?_
 rintro xs H Q ⟨v,rfl,w,s,rx,r,S,R1,e,q⟩
 obtain⟨i,hi,rfl⟩:=map_some e
 cases R1.int hi
 exact⟨i,rfl,q w H _ (Le.refl _ _) S rfl⟩
theorem ash:aaA X (.type "int") (rB1 G (b1R .int)):=by
 refine aaA.imp ai1 ?_
 rintro xs H Q ⟨v,rfl,w,s,rx,r,S,R1,e,q⟩
 unfold b1R at e
 dsimp only at e
 split at e
 ·cases e;cases R1;exact .inl ⟨_,rfl,q w H _ (Le.refl _ _) S rfl⟩
 ·cases e;cases R1;exact .inr ⟨_,rfl,q w H _ (Le.refl _ _) S rfl⟩
 ·cases e
theorem ati:aaA X (.type "str") (rB1 G (b1R .str)):=by
 rintro pins s σ H xs us Q I rx ⟨v,rfl,w,st,x,r,S,R1,e,q⟩
 obtain⟨u,rfl,ru⟩:=rx.one
 unfold b1R at e
 dsimp only at e
 split at e
 ·split at e
  ·rename_i hb
   cases e
   cases R1
   obtain⟨t,rfl⟩:=ru
   exact PySem.P.str_of_int (Nat.lt_of_lt_of_le (aco hb) (by decide)) ⟨.str _,H,I.tok _,⟨_,rfl⟩,q w H _ (Le.refl _ _) S rfl⟩
  ·cases e
 ·cases e
  cases R1
  obtain⟨t,rfl⟩:=ru
  exact PySem.P.str_of_str ⟨.str _,H,I,⟨_,rfl⟩,q w H _ (Le.refl _ _) S rfl⟩
 ·cases e
theorem aoZ:aaA X (.type "list") (rB1 G (b1R .list)):=by
 refine aaA.imp ac2 ?_
 rintro xs H Q ⟨v,rfl,w,s,rx,r,S,R1,e,q⟩
 obtain⟨ts,ht,rfl⟩:=map_some e
 obtain⟨pa,vs,rfl,hp,rp⟩:=acK.sq2 R1 ht
 exact⟨pa,vs,rfl,hp.imp (fun h=>.inl h) (fun h=>SqT.of h),acj S rp q⟩
theorem alP:aaA X (.type "tuple") (rB1 G (b1R .tuple)):=by
 refine aaA.imp adU ?_
 rintro xs H Q ⟨v,rfl,w,s,rx,r,S,R1,e,q⟩
 obtain⟨ts,ht,rfl⟩:=map_some e
 obtain⟨pa,vs,rfl,hp,rp⟩:=acK.sq2 R1 ht
 refine⟨pa,vs,rfl,?_⟩
 rcases hp with hp|hp
 ·exact .inl ⟨.inl hp,adS S rp q⟩
 ·exact .inr ⟨SqT.of hp,q w H _ (Le.refl _ _) S ⟨pa,vs,rfl,hp,rp⟩⟩
def asJ:Ty→Option String
 | .int=>some "int" | .bool=>some "bool" | .tuple=>some "tuple" | .list=>some "list" | .str=>some "str" | .cls _=>none
theorem ap2{w:Wo}{H:Hp}{st:Sto}{x:R}{v:V}{c:Ty}{k:Bool}{n:String}(S:StoOk G w H st)(r:acK G w H x v)(hn:asJ c=some n)(h:asy x c=some k):∃t,TyOf X.K H v t∧PySem.W.kitOne X.K t (.type n)=some k:=by
 have lst:∀{a:Addr}{vs:List V},Rd H a (.lst vs)→TyOf X.K H (.ref a) (.type "list"):=fun {a vs} q=>by
  rcases q with q|⟨o,q⟩
  ·exact .lst q
  ·exact .frz q
 cases x with
 | bor ts=>
  cases c<;>first
   | (cases h;done)
   | (cases hn;done)
   | (cases h;cases hn;obtain⟨a,vs,rfl,q,_⟩:=r;exact⟨_,.lst q,by with_unfolding_all rfl⟩)
 | val t=>
  cases t<;>cases c<;>first
   | (cases h;done)
   | (cases hn;done)
   | (cases h;cases hn;cases r;exact⟨_,.int _,by with_unfolding_all rfl⟩)
   | (cases h;cases hn;cases r;exact⟨_,.bl _,by with_unfolding_all rfl⟩)
   | (cases h;cases hn;cases r;exact⟨_,.str _,by with_unfolding_all rfl⟩)
   | (cases h;cases hn;cases r;exact⟨_,.non,by with_unfolding_all rfl⟩)
   | (cases h;cases hn;obtain⟨a,vs,rfl,q,_⟩:=r;exact⟨_,.tup q,by with_unfolding_all rfl⟩)
   | (cases h;cases hn;obtain⟨a,vs,rfl,_,q,_⟩:=r;exact⟨_,lst q,by with_unfolding_all rfl⟩)
theorem anB{sub:Nat→Nat→Bool}{x:R}{c:Ty}{n:String}(hn:asJ c=some n):agK sub x c=asy x c:=by
 cases c<;>first|(cases hn;done)|(unfold agK;split<;>first|rfl|(rename_i z;cases z))
theorem aeQ{c:Ty}{n:String}{y:Str}{py:Pos}(hn:asJ c=some n)(hg:Gl X "isinstance")(hm:X.mg "isinstance"=none)(hgy:Gl X y)(hmy:X.mg y=none)(hv:bootBuiltins y=some (.type n))(hy:y≠"__name__")(hdy:(y==("__debug__":Str))=false)
  (ha:PE X a (tV G X C a')) (hs:starEach [a,.Name y py] X.env=[(false,eval a X.env),(false,eval (.Name y py) X.env)]):PE X (.Call (.Name "isinstance" p) [a,.Name y py] [] pos) (tV G X C (.isi a' c)):=by
 have hc:aaA X (.builtin "isinstance") (fun xs H Q=>∃v,xs=[v,.ty n]∧r1 G (fun x=>(agK C.sub x c).map fun k=>.val (.bl k)) v H Q):=by
  rintro pins s σ H xs us Q I rv ⟨v,rfl,w,st,rx,r,S,R1,e,q⟩
  obtain⟨u,u',rfl,r1,r2⟩:=rv.two
  cases r2
  obtain⟨k,hk,rfl⟩:=map_some e
  rw[anB hn]at hk
  obtain⟨t,ht,hk'⟩:=ap2 (X:=X) S R1 hn hk
  exact aew I r1 ht hk' fun tk=>⟨.bl k,H,I.tok tk,rfl,q w H _ (Le.refl _ _) S rfl⟩
 refine PE.imp (adO hc hg hm (show bootBuiltins "isinstance"=some (.builtin "isinstance")by decide +kernel) (aa5 ha (aa5 (ams (v:=.ty n) hgy hmy hv rfl hy hdy) abb rfl) (by rw[hs];rfl)) (by decide) (by decide) (by rw[hs];rfl) rfl) ?_
 rintro σV H Q ⟨w₀,H₀,w,σ,s,g,h⟩
 obtain⟨w₀,H₀,w,σ,s,g,h⟩:=ani (f:=fun x=>(agK C.sub x c).map fun k=>.val (.bl k)) ⟨w₀,H₀,w,σ,s,g,h⟩
 exact⟨w₀,H₀,w,σ,s,g,h.imp fun v H1 q=>⟨v,rfl,q⟩⟩
end
end IP
end
noncomputable section
namespace IP
open PySem PySem.Spec L2 PySem.SeqAt PyProof.Rows.LSm
section
variable{G:Gx}{X:Cx}
theorem abP{w:Wo}{H:Hp}:∀{ts:List T}{is:List Bool}{vs:List V}{its:List Value},aaP ts=some is→aah G w H ts vs→Vals vs its→BoolsAre its is
 | [],is,vs,its,h,r,q=>by
  cases h
  cases r
  rw[Vals.zero q]
  exact .nil
 | .bl i::ts,is,vs,its,h,⟨v,r,e,h1,h2⟩,q=>by
  unfold aaP at h
  obtain⟨js,hj,rfl⟩:=map_some h
  subst e
  cases h1
  cases q with
  | cons q1 q2=>
   cases q1
   exact .cons i (abP hj h2 q2)
 | .non::ts,is,vs,its,h,r,q=>by simp[aaP]at h
 | .int _::ts,is,vs,its,h,r,q=>by simp[aaP]at h
 | .str _::ts,is,vs,its,h,r,q=>by simp[aaP]at h
 | .tup _::ts,is,vs,its,h,r,q=>by simp[aaP]at h
 | .lst _::ts,is,vs,its,h,r,q=>by simp[aaP]at h
 | .loc _::ts,is,vs,its,h,r,q=>by simp[aaP]at h
 | .exc _::ts,is,vs,its,h,r,q=>by simp[aaP]at h
theorem aqE{α β γ:Type}{o:Option α}{p:α→Option β}{f:α→β→Option γ}{r:γ}(h:(do let a ←o;let b ←p a;f a b)=some r):∃a b,o=some a∧p a=some b∧f a b=some r:=by
 cases ho:o with
 | none=>rw[ho]at h;cases h
 | some a=>
  rw[ho]at h
  cases hp:p a with
  | none=>simp[hp]at h
  | some b=>simp[hp]at h;exact⟨a,b,rfl,hp,h⟩
theorem asw(hc:X.calm=true):aaA X (.builtin "any") (rB1 G (b1R .any)):=by
 rintro pins s σ H xs us Q I rv ⟨v,rfl,w,st,rx,r,S,R1,e,q⟩
 obtain⟨ts,bs,ht,hb,he⟩:=aqE (f:=fun(_:List T) (bs:List Bool)=>some (R.val (.bl (bs.any id)))) e
 cases he
 obtain⟨pa,vs,rfl,hp,rp⟩:=acK.seq (s:=st) R1 ht
 obtain⟨u,rfl,ru⟩:=rv.one
 cases ru
 obtain⟨its,q1,hl⟩:=aaN I hp
 have hB:=abP hb rp q1
 have hlt:pa<s.heap.objs.size:=by obtain⟨_,e,_⟩:=hl;exact Heap.lt_size e
 refine call_any_walk (wpAny_pyIter_list hl ?_)
 refine⟨s.heap.objs.size,[s.heap.objs.size,pa],[s.heap.objs.size],its.toArray.size,_,_,fun i=>(bs[i]?).getD false,rfl,Walks.list (A:=X.A.in1) (I.ok.hd hc) _ pa (Nat.ne_of_lt hlt) its.toArray,
  ⟨⟨_,Heap.get?_push_size _ rfl,rfl,rfl⟩,hl.push _⟩,fun i v s' Q' E' hP hQ=>?_,fun h' tk hk=>?_⟩
 ·obtain⟨b,e,rfl⟩:=hB.get i v (by simpa using hP)
  simp only[e,Option.getD_some]at hQ
  exact wpAny_truthy_bool hQ
 ·have e:((List.range its.toArray.size).any fun i=>(bs[i]?).getD false)=bs.any id:=by
   rw[List.size_toArray,hB.length];exact range_any bs
  rw[e]
  exact⟨.bl _,H,I.kept (kept_iter hk),rfl,q w H _ (Le.refl _ _) S rfl⟩
theorem aux(hc:X.calm=true):aaA X (.builtin "all") (rB1 G (b1R .all)):=by
 rintro pins s σ H xs us Q I rv ⟨v,rfl,w,st,rx,r,S,R1,e,q⟩
 obtain⟨ts,bs,ht,hb,he⟩:=aqE (f:=fun(_:List T) (bs:List Bool)=>some (R.val (.bl (bs.all id)))) e
 cases he
 obtain⟨pa,vs,rfl,hp,rp⟩:=acK.seq (s:=st) R1 ht
 obtain⟨u,rfl,ru⟩:=rv.one
 cases ru
 obtain⟨its,q1,hl⟩:=aaN I hp
 have hB:=abP hb rp q1
 have hlt:pa<s.heap.objs.size:=by obtain⟨_,e,_⟩:=hl;exact Heap.lt_size e
 refine call_all_walk (wpAny_pyIter_list hl ?_)
 refine⟨s.heap.objs.size,[s.heap.objs.size,pa],[s.heap.objs.size],its.toArray.size,_,_,fun i=>(bs[i]?).getD true,rfl,Walks.list (A:=X.A.in1) (I.ok.hd hc) _ pa (Nat.ne_of_lt hlt) its.toArray,
  ⟨⟨_,Heap.get?_push_size _ rfl,rfl,rfl⟩,hl.push _⟩,fun i v s' Q' E' hP hQ=>?_,fun h' tk hk=>?_⟩
 ·obtain⟨b,e,rfl⟩:=hB.get i v (by simpa using hP)
  simp only[e,Option.getD_some]at hQ
  exact wpAny_truthy_bool hQ
 ·have e:((List.range its.toArray.size).all fun i=>(bs[i]?).getD true)=bs.all id:=by
   rw[List.size_toArray,hB.length];exact range_all bs
  rw[e]
  exact⟨.bl _,H,I.kept (kept_iter hk),rfl,q w H _ (Le.refl _ _) S rfl⟩
end
end IP
end
noncomputable section
namespace IP
open PySem PySem.Spec L2
def CXE(G:Gx)(P:Program)(w:World)(base:Heap):CXT:=fun outer H s E e s'=>
 ∃(a:Addr) (cls t:Value) (H':Hp) (h B:Heap),e=.ref a∧s'.os=s.os∧PyProof.Rows.AllBare s'.gens∧Un (frs outer) [] H H' s.heap h∧HOk P w H' h∧Flt outer h B a s'.heap∧base.StaysIn B∧Heap.FlyingW B outer a cls t s'.heap∧E cls none H'
section
variable{G:Gx}{X:Cx}{C:Cf}{k:Nat}{f fa:Addr}{fd:FuncData}{ps:List Str}{sp:Sp}{dvs:List V}{ds:List Value}{E:XK}
theorem Inv.after'{pins:List (Addr×Obj)}{σ:St}{H H':Hp}{s s':Shared}(I:Inv X pins σ H s)(os:s'.os=s.os)(bare:PyProof.Rows.AllBare s'.gens)(un:Un (frs X.stack) [] H H' s.heap s'.heap)(hok:HOk X.prog X.w H' s'.heap):Inv X pins σ H' s':=by
 obtain⟨hh,g,d,t,os'⟩:=s'
 obtain rfl:os'=s.os:=os
 exact I.call (h':=hh) (g':=g) (d':=d) (t':=t) (ch:=[]) un hok bare (fun b z=>absurd z (by simp))
theorem acE{CX:CXT}{pins:List (Addr×Obj)}{σ:St}{H:Hp}{s:Shared}{Q:VK}{us:List Value}{vs:List V}(F:FnOk X.prog X.w X.K X.mg X.base CX k f fd ps sp)(hr:Room k X.A)(hb:Binds X.K fd ps ds)(hd:Vals dvs ds)
  (I:Inv X pins σ H s) (r:Vals vs us) (h:sp (vs++dvs) H Q E) (hx:∀e s',CX X.stack H s E e s'→X.xe e s'):wpAny (model X.prog X.w) X.A (call (.ref f) us) (EP X pins σ Q) X.xe s:=by
 have r2:Vals (vs++dvs) (us++ds):=r.append hd
 have hl:(us++ds).length=ps.length:=by rw[←r2.length];exact F.len _ _ _ _ h
 refine wpAny_call (codeAny_mono (F.run X.A X.stack s H ⟨us,[]⟩ (us++ds) (vs++dvs) Q E hr I.env0 (hb s us I.kIn hl) r2 h) fun r s' hq=>?_)
 cases r with
 | error e=>exact hx e s' hq
 | ok fl=>
  cases fl with
  | ret u=>exact I.after hq
  | next=>exact False.elim hq
  | brk=>exact False.elim hq
  | cont=>exact False.elim hq
def EX(G:Gx)(X:Cx)(σV:St):XK:=fun cls _ H'=>∀pins u sh h B a t,u=.ref a→Inv X pins σV H' { sh with heap:=h }→Flt X.stack h B a sh.heap→X.base.StaysIn B→Heap.FlyingW B X.stack a cls t sh.heap→X.xe u sh
theorem ab1{pins:List (Addr×Obj)}{σ:St}{H:Hp}{s:Shared}(I:Inv X pins σ H s)(e:Value)(s':Shared)(h:CXE G X.prog X.w X.base X.stack H s (EX G X σ) e s'):X.xe e s':=by
 obtain⟨a,cls,t,H',hh,B,rfl,os,bare,un,hok,fl,sb,fly,q⟩:=h
 exact q pins (.ref a) s' hh B a t rfl (Inv.after' (s':={ s' with heap:=hh }) I os bare un hok) fl sb fly
theorem aaK{w:Wo}{H:Hp}:∀{rs qs:List R}{vs us:List V},aaZ G w H rs vs→aaZ G w H qs us→aaZ G w H (rs++qs) (vs++us)
 | [],qs,_,us,h,q=>by rw[h];exact q
 | t::ts,qs,_,us,⟨v,r,e,h,k⟩,q=>by subst e;exact⟨v,r++us,rfl,h,aaK k q⟩
def cstV:T→Option V
 | .non=>some .non | .bl b=>some (.bl b) | .int i=>some (.int i) | .str x=>some (.str x) | _=>none
theorem abx{w:Wo}{H:Hp}:∀{ts:List T}{vs:List V},ts.mapM cstV=some vs→aaZ G w H (ts.map R.val) vs
 | [],vs,h=>by cases h;exact rfl
 | t::ts,vs,h=>by
  rw[List.mapM_cons]at h
  cases e:cstV t with
  | none=>simp[e]at h
  | some v=>
   cases e2:ts.mapM cstV with
   | none=>simp[e,e2]at h
   | some us=>
    simp[e,e2]at h
    subst h
    refine⟨v,us,rfl,?_,abx e2⟩
    cases t<;>cases e<;>exact rfl
variable{es:List Expr}{es':List IP.E}{e₀:Expr}{fi:Nat}{x:Str}{p pos:Pos}{dts:List T}
theorem acp{w:Wo}{H:Hp}{σV:St}{m:Res (List R)}{k:List R→Sto→Res R}{Q:VK}(h:aa4 G X σV w H (m.bind k) Q):ahy G X σV w H m fun vs H1=>∃w1 rs s1,Le w w1 H H1∧StoOk G w1 H1 s1∧aaZ G w1 H1 rs vs∧aa4 G X σV w H (k rs s1) Q:=by
 cases m with
 | stuck=>exact h
 | ok rs s=>exact fun w' H' vs a b c=>⟨w',rs,s,a,b,c,h⟩
 | exc c s=>exact h
end
def clo(cells:List (Str×Addr)):List (Str×NameKind)→List (Str×Addr)→List (Str×Addr)
 | [],acc=>acc
 | (n,k)::r,acc=>clo cells r (if k==.free then(match cells.lookup n with|some c=>(n,c)::acc|none=>acc)else acc)
theorem agV(scope:Scope)(env:Env)(h:∀x∈scope.names,x.2=.free→∃c,env.cells.lookup x.1=some c):closureFor scope env=pure (clo env.cells scope.names []):=by
 unfold closureFor
 generalize ([]:List (Str×Addr))=acc
 obtain⟨k,names,a,b,c⟩:=scope
 simp only at h ⊢
 induction names generalizing acc with
 | nil=>rfl
 | cons x r ih=>
  obtain⟨n,k⟩:=x
  have ih:=fun acc=>ih acc (fun y hy=>h y (List.mem_cons_of_mem _ hy))
  simp only[List.forIn_cons,clo]
  by_cases hk:(k==NameKind.free)=true
  ·have hk':k=.free:=by simpa using hk
   obtain⟨c,hc⟩:=h (n,k) (List.mem_cons_self ..) hk'
   have hc:List.lookup n env.cells=some c:=hc
   simp only[hk,if_true,cellOf,hc,pure_bind]
   exact ih _
  ·simp only[Bool.not_eq_true]at hk
   simp only[hk,Bool.false_eq_true,if_false,pure_bind]
   exact ih _
theorem afD(cells:List (Str×Addr)):∀(names:List (Str×NameKind)) (acc:List (Str×Addr)),(∀x c,acc.lookup x=some c→cells.lookup x=some c)→∀x c,(clo cells names acc).lookup x=some c→cells.lookup x=some c
 | [],acc,h,x,c,e=>h x c e
 | (n,k)::r,acc,h,x,c,e=>by
  refine afD cells r _ (fun y d q=>?_) x c e
  split at q
  ·split at q
   ·rename_i d' hd
    rw[List.lookup_cons]at q
    split at q
    ·rename_i hyn
     have:y=n:=by simpa using hyn
     subst this
     cases q
     exact hd
    ·exact h y d q
   ·exact h y d q
  ·exact h y d q
theorem afY(cells:List (Str×Addr)):∀(names:List (Str×NameKind)) (acc:List (Str×Addr)) (x:Str),(∃c,acc.lookup x=some c)→∃c,(clo cells names acc).lookup x=some c
 | [],acc,x,h=>h
 | (n,k)::r,acc,x,h=>by
  refine afY cells r _ x ?_
  split
  ·split
   ·rename_i d' hd
    rw[List.lookup_cons]
    split
    ·exact⟨_,rfl⟩
    ·exact h
   ·exact h
  ·exact h
theorem afC(cells:List (Str×Addr)):∀(names:List (Str×NameKind)) (acc:List (Str×Addr)) (x:Str),(x,NameKind.free)∈names→(∃c,cells.lookup x=some c)→∃c,(clo cells names acc).lookup x=some c
 | [],acc,x,h,_=>by simp at h
 | (n,k)::r,acc,x,h,hc=>by
  rcases List.mem_cons.mp h with e|e
  ·cases e
   obtain⟨c,hc⟩:=hc
   refine afY cells r _ _ ?_
   simp[hc]
  ·exact afC cells r _ x e hc
theorem acn{α:Type}:∀{l:List (Str×α)}{x:Str}{a:α},l.lookup x=some a→(x,a)∈l
 | [],x,a,h=>by simp at h
 | (y,b)::r,x,a,h=>by
  rw[List.lookup_cons]at h
  split at h
  ·rename_i e
   have:x=y:=by simpa using e
   subst this
   cases h
   exact List.mem_cons_self ..
  ·exact List.mem_cons_of_mem _ (acn h)
theorem ac1(scope:Scope)(env:Env)(x:Str)(k:NameKind)(h:(relabel scope env).names.lookup x=some k):∃k',(x,k')∈scope.names∧((k=.cell∨k=.free)→k'=.cell∨k'=.free)∧(k=.local→k'=.local):=by
 have h:=acn h
 unfold relabel at h
 obtain⟨⟨n,k'⟩,hm,e⟩:=List.mem_map.mp h
 dsimp only at e
 split at e
 ·rename_i hc
  cases e
  have:k'=.free:=by
   have:=(Bool.and_eq_true _ _).mp hc
   have:=(Bool.and_eq_true _ _).mp this.1
   simpa using this.1
  exact⟨k',hm,fun _=>.inr this,fun z=>by cases z⟩
 ·cases e
  exact⟨_,hm,fun z=>z,fun z=>z⟩
section
variable{X:Cx}
def cxC(X:Cx)(N':List Str)(scope:Scope)(C:Addr)(fp:List Addr)(s2:Shared)(H2:Hp)(xe:Value→Shared→Prop):Cx:=
 { X with N:=N',s₀:=s2,H₀:=H2,env:=compEnvC scope (clo X.env.cells scope.names []) C X.env,outer:=X.stack,ex:=fp,fn:=fun _=>false,pn:=[],xe:=xe }
structure CompN(X:Cx)(scope:Scope)(N':List Str)(js:List Nat):Prop where
 kind:scope.kind=.function
 nocell:∀x∈scope.names,x.2≠.cell
 free:∀x∈scope.names,x.2=.free→X.env.kindOf x.1=some .cell∨X.env.kindOf x.1=some .free
 len:N'.length=X.N.length
 nd:N'.Nodup
 same:∀(i:Nat) (x:Str),N'[i]?=some x→i∉js→Vis (relabel scope X.env) x→X.N[i]?=some x∧(x,NameKind.free)∈scope.names∧((relabel scope X.env).names.lookup x=some .cell∨(relabel scope X.env).names.lookup x=some .free)
 locs:∀x∈scope.names,x.2=.local→scope.names.lookup x.1=some .local
def clr(σ:St)(js:List Nat):St:=js.foldl (fun σ j=>σ.set j none) σ
theorem ah5(js:List Nat):∀σ:St,(clr σ js).length=σ.length:=by
 induction js with
 | nil=>intro σ;rfl
 | cons j js ih=>intro σ;show(clr (σ.set j none) js).length=_;rw[ih];simp
theorem aiy(js:List Nat):∀(σ:St) (i:Nat) (v:V),(clr σ js)[i]?=some (some v)→σ[i]?=some (some v)∧i∉js:=by
 induction js with
 | nil=>intro σ i v h;exact⟨h,by simp⟩
 | cons j js ih=>
  intro σ i v h
  obtain⟨h1,h2⟩:=ih (σ.set j none) i v h
  by_cases e:j=i
  ·subst e
   rw[List.getElem?_set_self']at h1
   cases hq:σ[j]? with
   | none=>rw[hq]at h1;cases h1
   | some q=>rw[hq]at h1;cases h1
  ·rw[List.getElem?_set_ne e]at h1
   exact⟨h1,by simp[h2];exact fun z=>e z.symm⟩
theorem amZ{pins:List (Addr×Obj)}{σ:St}{H:Hp}{s:Shared}{scope:Scope}{N':List Str}{js:List Nat}{fp:List Addr}{h4:Heap}{tk:Nat}{xe:Value→Shared→Prop}(hN:CompN X scope N' js)(I:Inv X pins σ H s)(hfp:∀b∈fp,aeb X pins H b)(hfo:∀b∈fp,∃o,s.heap.get? b=some o)
  (hns:h4.Ns s.heap.objs.size (fun _=>none)) (hk:∀b o,s.heap.get? b=some o→h4.get? b=some o):
  Inv (cxC X N' scope s.heap.objs.size fp s H xe) [] (clr σ js) H { s with heap:=h4,toks:=tk }:=by
 have hlt:∀{b:Addr}{o:Obj},s.heap.get? b=some o→b≠s.heap.objs.size:=fun e=>Nat.ne_of_lt (Heap.lt_size e)
 have hsubc:=afD X.env.cells scope.names [] (fun x c z=>by simp at z)
 have clt:∀x c,(clo X.env.cells scope.names []).lookup x=some c→c≠s.heap.objs.size:=fun x c e=>by
  obtain⟨v,hv⟩:=I.cell x c (hsubc x c e)
  obtain⟨o,ho,_⟩:=hv
  exact hlt ho
 have hkin:∀x:Str,(relabel scope X.env).names.lookup x=some .cell∨(relabel scope X.env).names.lookup x=some .free→(x,NameKind.free)∈scope.names:=fun x hx=>by
  have:∃k',(x,k')∈scope.names∧(k'=.cell∨k'=.free):=by
   rcases hx with hx|hx
   ·obtain⟨k',h1,h2,_⟩:=ac1 _ _ _ _ hx;exact⟨k',h1,h2 (.inl rfl)⟩
   ·obtain⟨k',h1,h2,_⟩:=ac1 _ _ _ _ hx;exact⟨k',h1,h2 (.inr rfl)⟩
  obtain⟨k',h1,h2⟩:=this
  rcases h2 with rfl|rfl
  ·exact absurd rfl (hN.nocell _ h1)
  ·exact h1
 have afQ:∀x:Str,(x,NameKind.free)∈scope.names→∃c,X.env.cells.lookup x=some c:=fun x hx=>I.ok.has x (hN.free (x,.free) hx rfl)
 have hstk:∀b∈frs X.stack,b∈X.env.locals::X.fs:=I.stkSub
 refine⟨⟨I.ok.mod,hN.kind,I.ok.glob,I.ok.blt,Nat.le_refl _,fun x y c h1 h2=>I.ok.inj x y c (hsubc _ _ h1) (hsubc _ _ h2),fun x hx=>?_,fun x c h _=>(Bool.noConfusion (show false=true from h)),I.ok.hd,I.ok.frames,.inl rfl,fun b hb=>?_,I.bs,Nat.le_trans I.ok.bsz I.sz,fun b o e hb=>?_,fun b hb hf=>?_,I.stack,I.stkFree⟩,
  rfl,I.bare,Un.kept hk,⟨_,hns,fun i x v h1 h2 h3=>?_⟩,fun x c h=>?_,I.hok.fresh (Nat.le_refl _),fun x c h=>I.freeC x c (hsubc _ _ h),fun p hp=>absurd (show p∈([]:List (Addr×Obj))from hp) (by simp),I.hok.kept hk,?_⟩
 ·exact afC X.env.cells scope.names [] x (hkin x hx) (afQ x (hkin x hx))
 ·obtain⟨f0,f1,f2,f3,f4,f5⟩:=hfp b hb
  refine⟨fun z=>?_,fun x c e z=>f4 x c (hsubc _ _ e) z⟩
  obtain⟨o,ho⟩:=hfo b hb
  exact hlt ho z
 ·have:=I.bs b o e
  obtain⟨f0,f1,f2,f3,f4,f5⟩:=hfp b hb
  rcases f3 with f3|f3
  ·exact I.ok.noex b o e f3
  ·exact absurd (Nat.lt_of_lt_of_le (Heap.lt_size (I.ok.bs b o e).1) f3) (Nat.lt_irrefl _)
 ·obtain⟨f0,f1,f2,f3,f4,f5⟩:=hfp b hb
  rcases List.mem_cons.mp (hstk b hf)with z|z
  ·exact f1 z
  ·exact f2 z
 ·obtain⟨h2',hj⟩:=aiy js σ i v h2
  obtain⟨q1,q2,q3⟩:=hN.same i x h1 hj h3
  obtain⟨m,hm,hl⟩:=I.loc
  have hkx:=hN.free (x,.free) q2 rfl
  obtain⟨u,ru,lk⟩:=hl i x v q1 h2' (.inr hkx)
  refine⟨u,ru,.inr ⟨q3,?_⟩⟩
  ·rcases lk with⟨k1,_⟩|⟨_,c,hc,ic⟩
   ·rcases hkx with z|z<;>(rw[z]at k1;cases k1)
   ·obtain⟨c',hc'⟩:=afC X.env.cells scope.names [] x q2 ⟨c,hc⟩
    have:=hsubc _ _ hc'
    rw[hc]at this
    cases this
    exact⟨c,hc',ic.keeps hk⟩
 ·obtain⟨v,hv⟩:=I.cell x c (hsubc x c h)
  exact⟨v,hv.keeps hk⟩
 ·rw[ah5,I.len]
  exact hN.len.symm
end
section
variable{G:Gx}{w:Wo}{H H₀:Hp}
mutual
theorem Rep.upd{a:Addr}{xs ys:List V}(ha:H a=some (.lst xs))(hz:¬w.Z a):∀(t:T) (v:V),Rep G w H t v→Rep G w (L2.upd H a (.lst ys)) t v
 | .non,v,h=>h
 | .bl b,v,h=>h
 | .int i,v,h=>h
 | .str x,v,h=>h
 | .tup ts,v,⟨p,vs,e,h,r⟩=>⟨p,vs,e,by rw[aag (ajY h ha (by intro z;cases z))];exact h,aah.upd ha hz ts vs r⟩
 | .lst ts,v,⟨p,vs,e,z,h,r⟩=>by
  have ne:p≠a:=fun q=>hz (q▸z)
  refine⟨p,vs,e,z,?_,aah.upd ha hz ts vs r⟩
  rcases h with h|⟨o,h⟩
  ·exact .inl (by rw[aag ne];exact h)
  ·exact .inr ⟨o,by rw[aag ne];exact h⟩
 | .loc l,v,h=>h
 | .exc c,v,⟨p,e,h⟩=>⟨p,e,by rw[aag (ajY h ha (by intro z;cases z))];exact h⟩
theorem aah.upd{a:Addr}{xs ys:List V}(ha:H a=some (.lst xs))(hz:¬w.Z a):∀(ts:List T) (vs:List V),aah G w H ts vs→aah G w (L2.upd H a (.lst ys)) ts vs
 | [],vs,h=>h
 | t::ts,vs,⟨v,r,e,h,q⟩=>⟨v,r,e,Rep.upd ha hz t v h,aah.upd ha hz ts r q⟩
end
mutual
theorem Rep.zmono{w':Wo}(hn:w'.n=w.n)(hio:w'.io=w.io)(hz:∀a,w.Z a→w'.Z a):∀(t:T) (v:V),Rep G w H t v→Rep G w' H t v
 | .non,v,h=>h
 | .bl b,v,h=>h
 | .int i,v,h=>h
 | .str x,v,h=>h
 | .tup ts,v,⟨p,vs,e,h,r⟩=>⟨p,vs,e,h,aah.zmono hn hio hz ts vs r⟩
 | .lst ts,v,⟨p,vs,e,z,h,r⟩=>⟨p,vs,e,hz _ z,h,aah.zmono hn hio hz ts vs r⟩
 | .loc l,v,⟨h,e⟩=>⟨by rw[hn];exact h,by rw[hio];exact e⟩
 | .exc c,v,h=>h
theorem aah.zmono{w':Wo}(hn:w'.n=w.n)(hio:w'.io=w.io)(hz:∀a,w.Z a→w'.Z a):∀(ts:List T) (vs:List V),aah G w H ts vs→aah G w' H ts vs
 | [],vs,h=>h
 | t::ts,vs,⟨v,r,e,h,q⟩=>⟨v,r,e,Rep.zmono hn hio hz t v h,aah.zmono hn hio hz ts r q⟩
end
theorem StoOk.upd{s:Sto}{a:Addr}{xs ys:List V}(S:StoOk G w H s)(ha:H a=some (.lst xs))(hz:¬w.Z a)(hl:IP.notLoc w a):StoOk G w (L2.upd H a (.lst ys)) s where
 len:=S.len
 inj:=S.inj
 nz:=S.nz
 cell:=fun l c e=>by
  have h:l<w.n:=by rw[←S.len];exact(List.getElem?_eq_some_iff.mp e).1
  have q:=S.cell l c e
  have ne:w.io l≠a:=fun z=>hl l h z.symm
  cases c with
  | lst ts=>obtain⟨vs,q1,q2⟩:=q;exact⟨vs,by rw[aag ne];exact q1,aah.upd ha hz ts vs q2⟩
  | ins c fs=>obtain⟨dx,kvs,q1,q2,q3⟩:=q;exact⟨dx,kvs,by rw[aag ne];exact q1,q2,fun i x t h1 h2=>let ⟨v,z1,z2⟩:=q3 i x t h1 h2;⟨v,z1,Rep.upd ha hz t v z2⟩⟩
  | tbl k p q'=>obtain⟨q0,ps,q1,q2,q3⟩:=q;exact⟨q0,ps,by rw[aag ne];exact q1,q2,fun cv hcv=>let ⟨c,e1,e2⟩:=q3 cv hcv;⟨c,e1,by rw[aag (ajY e2 ha (by intro z;cases z))];exact e2⟩⟩
 zt:=fun p z=>by
  obtain⟨vs,r⟩:=S.zt p z
  have ne:p≠a:=fun q=>hz (q▸z)
  rcases r with r|⟨o,r⟩
  ·exact⟨vs,.inl (by rw[aag ne];exact r)⟩
  ·exact⟨vs,.inr ⟨o,by rw[aag ne];exact r⟩⟩
theorem StoOk.addZ{s:Sto}{a:Addr}{xs:List V}(S:StoOk G w H s)(ha:H a=some (.lst xs))(hl:IP.notLoc w a):StoOk G (w.addZ a) H s where
 len:=S.len
 inj:=S.inj
 nz:=fun l h z=>z.elim (S.nz l h) fun q=>hl l h q.symm
 cell:=fun l c e=>by
  have q:=S.cell l c e
  cases c with
  | lst ts=>obtain⟨vs,q1,q2⟩:=q;exact⟨vs,q1,aah.zmono (w:=w) (w':=w.addZ a) rfl rfl (fun _ z=>.inl z) ts vs q2⟩
  | ins c fs=>obtain⟨dx,kvs,q1,q2,q3⟩:=q;exact⟨dx,kvs,q1,q2,fun i x t h1 h2=>let ⟨v,z1,z2⟩:=q3 i x t h1 h2;⟨v,z1,Rep.zmono (w:=w) (w':=w.addZ a) rfl rfl (fun _ z=>.inl z) t v z2⟩⟩
  | tbl k p q'=>exact q
 zt:=fun p z=>z.elim (S.zt p) fun q=>⟨xs,.inl (by rw[q];exact ha)⟩
theorem Le.updNew{w':Wo}{H':Hp}{a:Addr}{o:HO}(L:Le w w' H H')(ha:H a=none)(hs:H' a≠none):Le w w' H (L2.upd H' a o)where
 n:=L.n
 io:=L.io
 Z:=L.Z
 keep:=fun p q e nl=>by rw[aag (abU e ha)];exact L.keep p q e nl
 newL:=L.newL
 newZ:=L.newZ
 some_:=fun p z=>by
  by_cases e:p=a
  ·subst e;exact absurd ha z
  ·rw[aag e];exact L.some_ p z
theorem Le.addZ{w':Wo}{H':Hp}{a:Addr}(L:Le w w' H H')(ha:H a=none):Le w (w'.addZ a) H H' where
 n:=L.n
 io:=L.io
 Z:=fun p z=>.inl (L.Z p z)
 keep:=L.keep
 newL:=L.newL
 newZ:=fun p z=>z.elim (L.newZ p) fun q=>.inr (q▸ha)
 some_:=L.some_
theorem akT{X:Cx}{σV:St}{res:Res R}{Q:VK}(hv:∀r s,res=.ok r s→∃ts,r=.val (.lst ts))(h:aa4 G X σV w H res Q):aaL G X σV w H res Q:=by
 cases res with
 | stuck=>exact h
 | exc c s=>exact h
 | ok r s=>
  obtain⟨ts,rfl⟩:=hv r s rfl
  intro w' H' a vs L S ha r hn nz nl
  exact h (w'.addZ a) H' (.ref a) (L.addZ hn) (S.addZ ha nl) ⟨a,vs,rfl,.inr rfl,.inl ha,aah.zmono (w:=w') (w':=w'.addZ a) rfl rfl (fun _ z=>.inl z) ts vs r⟩
theorem FrOk.put{σ:Fr}{σV:St}{i:Nat}{t:T}{v:V}(F:FrOk G w H H₀ σ σV)(r:Rep G w H t v):FrOk G w H H₀ (put σ i t) (σV.set i (some v))where
 len:=by unfold IP.put;simp[F.len]
 val:=fun j u e=>by
  unfold IP.put at e
  by_cases hj:i=j
  ·subst hj
   have hlt:i<σ.length:=by
    have:=(List.getElem?_eq_some_iff.mp e).1
    simpa using this
   rw[List.getElem?_set_self hlt]at e
   cases e
   exact⟨v,by rw[List.getElem?_set_self (by rw[←F.len];exact hlt)],r⟩
  ·rw[List.getElem?_set_ne hj]at e
   obtain⟨x,h1,h2⟩:=F.val j u e
   exact⟨x,by rw[List.getElem?_set_ne hj];exact h1,h2⟩
 own:=fun j b ts e eb=>by
  unfold IP.put at e
  by_cases hj:i=j
  ·subst hj
   have hlt:i<σ.length:=by
    have:=(List.getElem?_eq_some_iff.mp e).1
    simpa using this
   rw[List.getElem?_set_self hlt]at e
   cases e
   cases eb
  ·rw[List.getElem?_set_ne hj]at e
   obtain⟨a,vs,h1,h2⟩:=F.own j b ts e eb
   exact⟨a,vs,by rw[List.getElem?_set_ne hj];exact h1,h2⟩
 apart:=fun j k b c ts us a hjk e1 eb e2 ec e3 e4=>by
  unfold IP.put at e1 e2
  have nj:i≠j:=fun q=>by
   subst q
   have hlt:i<σ.length:=by
    have:=(List.getElem?_eq_some_iff.mp e1).1
    simpa using this
   rw[List.getElem?_set_self hlt]at e1
   cases e1
   cases eb
  have nk:i≠k:=fun q=>by
   subst q
   have hlt:i<σ.length:=by
    have:=(List.getElem?_eq_some_iff.mp e2).1
    simpa using this
   rw[List.getElem?_set_self hlt]at e2
   cases e2
   cases ec
  rw[List.getElem?_set_ne nj]at e1 e3
  rw[List.getElem?_set_ne nk]at e2 e4
  exact F.apart j k b c ts us a hjk e1 eb e2 ec e3 e4
 bor:=fun j ts e=>by
  unfold IP.put at e
  by_cases hj:i=j
  ·subst hj
   have hlt:i<σ.length:=by
    have:=(List.getElem?_eq_some_iff.mp e).1
    simpa using this
   rw[List.getElem?_set_self hlt]at e
   cases e
  ·rw[List.getElem?_set_ne hj]at e
   obtain⟨a,vs,h1,h2⟩:=F.bor j ts e
   exact⟨a,vs,by rw[List.getElem?_set_ne hj];exact h1,h2⟩
def abk(σV:St):List Nat→List V→St
 | [],_=>σV
 | _,[]=>σV
 | i::is,v::vs=>abk (σV.set i (some v)) is vs
theorem aeH:∀(is:List Nat) (vs:List V) (σV:St),(abk σV is vs).length=σV.length
 | [],_,σV=>rfl
 | i::is,[],σV=>rfl
 | i::is,v::vs,σV=>by show(abk (σV.set i (some v)) is vs).length=_;rw[aeH is vs];simp
theorem FrOk.puts:∀{is:List Nat}{ts:List T}{vs:List V}{σ σ':Fr}{σV:St},FrOk G w H H₀ σ σV→aah G w H ts vs→IP.puts σ is ts=some σ'→FrOk G w H H₀ σ' (abk σV is vs)
 | [],[],vs,σ,σ',σV,F,r,h=>by cases h;exact F
 | [],_::_,vs,σ,σ',σV,F,r,h=>by cases h
 | _::_,[],vs,σ,σ',σV,F,r,h=>by cases h
 | i::is,t::ts,_,σ,σ',σV,F,⟨v,r,e,h1,h2⟩,h=>by
  subst e
  have z:=FrOk.puts (is:=is) (ts:=ts) (vs:=r) (σ':=σ') (F.put (i:=i) h1) h2 h
  exact z
theorem ajd{σV:St}{i j:Nat}{x y:Option V}(h:i≠j):(σV.set i x).set j y=(σV.set j y).set i x:=List.set_comm x y h
theorem afH{σV:St}{j:Nat}{x:Option V}:∀{js:List Nat},j∉js→clr (σV.set j x) js=(clr σV js).set j x
 | [],_=>rfl
 | k::js,h=>by
  show clr ((σV.set j x).set k none) js=(clr (σV.set k none) js).set j x
  rw[ajd (fun q=>h (by simp[q]))]
  exact afH (σV:=σV.set k none) fun q=>h (List.mem_cons_of_mem _ q)
theorem ae5:∀{js:List Nat}{vs:List V}{σV:St},js.Nodup→js.length=vs.length→abk (clr σV js) js vs=abk σV js vs
 | [],[],σV,_,_=>rfl
 | j::js,v::vs,σV,hn,hl=>by
  obtain⟨h1,h2⟩:=List.nodup_cons.mp hn
  show abk ((clr (σV.set j none) js).set j (some v)) js vs=abk (σV.set j (some v)) js vs
  rw[afH h1,List.set_set,←afH h1]
  exact ae5 h2 (by simpa using hl)
 | j::js,[],σV,hn,hl=>by simp at hl
 | [],_::_,σV,hn,hl=>by simp at hl
end
section
variable{prog:Program}{w:World}{A:Around}{E:Value→Shared→Prop}{s:Shared}
theorem agD{it l:Addr}{items:Array Value}(hne:l≠it):∀(n i:Nat) (s:Shared) (Q:List Value→Shared→Prop),s.heap.IsListIter it l i→s.heap.IsList l items→i+n≤items.size→
  (∀h',h'.IsListIter it l (i+n)→Heap.SameBut it s.heap h'→Q ((items.toList.drop i).take n) { s with heap:=h' })→wpAny (model prog w) A (draw (.ref it) n) Q E s
 | 0,i,s,Q,hit,_,_,hQ=>by
  show wpAny _ _ (pure []) Q E s
  exact wpAny_pure (by simpa using hQ s.heap hit (Heap.SameBut.refl ..))
 | n+1,i,s,Q,hit,ht,hle,hQ=>by
  have hlt:i<items.size:=by omega
  show wpAny _ _ (pyNext (.ref it) >>= _) Q E s
  refine wpAny_bind (wpAny_pyNext_list_item hit ht (x:=items[i]) (by simp[hlt]) fun h₁ hit₁ hs₁=>?_)
  refine wpAny_bind (wpAny_holding (agD hne n (i+1) _ _ hit₁ (ht.extBut hs₁.extBut hne) (by omega) fun h₂ hit₂ hs₂=>wpAny_pure ?_))
  have hd:items.toList.drop i=items[i]::items.toList.drop (i+1):=by simp[List.drop_eq_getElem_cons,hlt]
  have:=hQ h₂ (by rw[show i+(n+1)=i+1+n by omega];exact hit₂) (hs₁.trans hs₂)
  rw[hd,List.take_succ_cons]at this
  exact this
theorem acM{l:Addr}{items:Array Value}{Q:List Value→Shared→Prop}(hh:A.handled=none)(ht:s.heap.IsList l items)
  (hQ:∀h',Heap.ExtBut s.heap.objs.size s.heap h'→Q items.toList { s with heap:=h' }):wpAny (model prog w) A (unpackItems (.ref l) items.size none) Q E s:=by
 have hlt:l≠s.heap.objs.size:=by obtain⟨o,ho,_⟩:=ht;exact Nat.ne_of_lt (Heap.lt_size ho)
 unfold unpackItems
 refine wpAny_bind ?_
 ·unfold notIterableAtAll
  refine wpAny_bind (wpAny_specialOf ht.typeIs slot_list_iter.lookup ?_)
  refine wpAny_pure ?_
  simp only[Bool.false_eq_true,if_false]
  refine wpAny_bind (wpAny_holding (wpAny_pyIter_list ht ?_))
  have ht0:(s.heap.push { cls:=.type "list_iterator",data:=.fields #[.ref l,.int 0 0] }).IsList l items:=ht.extBut (b:=s.heap.objs.size) (fun b o _ e=>Heap.get?_push_of_some _ e) hlt
  refine wpAny_bind (wpAny_holding (agD hlt items.size 0 _ _ ⟨_,Heap.get?_push_size _ rfl,rfl,rfl⟩ ht0 (by omega) fun h₁ hit₁ hs₁=>?_))
  have hall:List.take items.size (List.drop 0 items.toList)=items.toList:=by
   rw[List.drop_zero];exact List.take_of_length_le (by simp)
  rw[hall]
  rw[if_neg (by simp)]
  have ht₁:h₁.IsList l items:=ht0.extBut hs₁.extBut hlt
  refine wpAny_bind (wpAny_holding (wpAny_pyNext_list_end hh hit₁ ht₁ (by simp) fun h₂ he₂=>?_))
  simp only[Option.isSome_none,Bool.false_eq_true,if_false]
  refine wpAny_pure (hQ h₂ fun b o hb e=>he₂ b o hb (hs₁.extBut b o hb (Heap.get?_push_of_some _ e)))
theorem ac8{env:Env}{elts:List Expr}{x1}{pos:Pos}{l:Addr}{items:Array Value}{Q:Unit→Shared→Prop}(hh:A.handled=none)(ht:s.heap.IsList l items)
  (hn:(assignEach elts env).length=items.size) (hstar:(assignEach elts env).findIdx? (·.1)=none)
  (h:∀h',Heap.ExtBut s.heap.objs.size s.heap h'→wpAny (model prog w) A (assignInOrder ((assignEach elts env).map (·.2)) items.toList) Q E { s with heap:=h' }):
  wpAny (model prog w) A (assign (.Tuple elts x1 pos) env (.ref l)) Q E s:=by
 rw[PyProof.Rows.assign_Tuple]
 refine wpAny_bind (wpAny_standAt ?_)
 unfold unpack
 rw[hn,hstar]
 exact wpAny_bind (wpAny_holding (acM hh ht h))
end
section
variable{X:Cx}
theorem arq{es:List Expr}{k:Nat}{t:TGs}{n:Nat}{pos:Pos}(hc:X.calm=true)(h:PGs X es t)(hn:(assignEach es X.env).length=n)(hst:(assignEach es X.env).findIdx? (·.1)=none):
  PG X (.Tuple es k pos) (fun v σ H Q=>∃a xs,v=.ref a∧Rd H a (.lst xs)∧xs.length=n∧t xs σ H Q):=by
 intro pins s σ H v u Q I r hw
 obtain⟨a,xs,e1,hq,hl,hw⟩:=hw
 subst e1
 cases r
 obtain⟨its,rv,p⟩:=aaN I hq
 refine ac8 (I.ok.hd hc) p (by simp[hn,←hl,rv.length]) hst fun h' hx=>?_
 have I1:Inv X pins σ H { s with heap:=h' }:=I.kept (t':=s.toks) fun b o e=>hx b o (Nat.ne_of_lt (Heap.lt_size e)) e
 exact h pins _ σ H xs _ Q I1 (by simpa using rv) hw
end
inductive Src where
 | l (a:Addr) (vs:List V)|t (a:Addr) (vs:List V)|r (lo:Int) (n:Nat)
def aiK(K:PySem.W.Frag):Src→It
 | .l a _=>Itl K a
 | .t a _=>Itt K a
 | .r lo n=>Itr lo n
def abg(G:Gx)(w:Wo)(H:Hp)(z:Bool):Src→List T→Prop
 | .l a vs,ts=>Rd H a (.lst vs)∧aah G w H ts vs∧notLoc w a∧(z=true→w.Z a)
 | .t a vs,ts=>H a=some (.tup vs)∧aah G w H ts vs
 | .r lo n,ts=>ts=(List.range n).map (fun(k:Nat)=>T.int (lo+k))∧n≤sizeLine
section
variable{G:Gx}{X:Cx}{C:Cf}{w w':Wo}{H H':Hp}
theorem Rd.some{a:Addr}{u:HO}(r:Rd H a u):H a≠none:=by
 rcases r with r|⟨o,r⟩<;>(rw[r];intro z;cases z)
theorem abg.mono{z:Bool}{s:Sto}(L:Le w w' H H')(S:StoOk G w H s):∀{src:Src}{ts:List T},abg G w H z src ts→abg G w' H' z src ts
 | .l a vs,ts,⟨h1,h2,h3,h4⟩=>⟨Rd.keep L h3 h1,aah.mono L S ts vs h2,notLoc.mono L (Rd.some h1) h3,fun q=>L.Z a (h4 q)⟩
 | .t a vs,ts,⟨h1,h2⟩=>⟨L.keep _ _ h1 (S.notLoc h1 (fun _ z=>by cases z) fun _ _ _ z=>by cases z),aah.mono L S ts vs h2⟩
 | .r lo n,ts,h=>h
def acf(G:Gx)(w:Wo)(H:Hp):Src→List T→Prop
 | .l a _,ts=>∃vs,Rd H a (.lst vs)∧aah G w H ts vs
 | .t a vs,ts=>H a=some (.tup vs)∧aah G w H ts vs
 | .r lo n,ts=>ts=(List.range n).map (fun(k:Nat)=>T.int (lo+k))∧n≤sizeLine
theorem abg.now{z:Bool}:∀{src:Src}{ts:List T},abg G w H z src ts→acf G w H src ts
 | .l _ vs,_,h=>⟨vs,h.1,h.2.1⟩
 | .t _ _,_,h=>h
 | .r _ _,_,h=>h
theorem acf.go:∀{src:Src}{ts:List T}{K:PySem.W.Frag}{i:Nat}{t:T},acf G w H src ts→ts[i]?=some t→(aiK K src).go i H∧∀x H',(aiK K src).yld i H x H'→H'=H∧Rep G w H t x
 | .l a _,ts,K,i,t,⟨vs,h1,h2⟩,e=>by
  obtain⟨v,e1,r⟩:=h2.get e
  refine⟨⟨vs,v,.inl h1,e1⟩,fun x H' ⟨q1,q2⟩=>⟨q1,?_⟩⟩
  have:=q2 vs (.inl h1)
  rw[e1]at this
  cases this
  exact r
 | .t a vs,ts,K,i,t,⟨h1,h2⟩,e=>by
  obtain⟨v,e1,r⟩:=h2.get e
  refine⟨⟨vs,v,SqT.of h1,e1⟩,fun x H' ⟨q1,q2⟩=>⟨q1,?_⟩⟩
  have:=q2 vs (SqT.of h1)
  rw[e1]at this
  cases this
  exact r
 | .r lo n,ts,K,i,t,⟨h1,_⟩,e=>by
  subst h1
  rw[List.getElem?_map]at e
  obtain⟨k,hk,rfl⟩:=map_some e
  obtain⟨hi,hk⟩:=List.getElem?_eq_some_iff.mp hk
  simp at hi hk
  subst hk
  refine⟨hi,fun x H' ⟨q1,q2⟩=>⟨q1,?_⟩⟩
  rw[q2]
  exact rfl
theorem acf.stop:∀{src:Src}{ts:List T}{K:PySem.W.Frag},acf G w H src ts→(aiK K src).stop ts.length H
 | .l a _,ts,K,⟨vs,h1,h2⟩=>⟨vs,.inl h1,by rw[h2.length];exact Nat.le_refl _⟩
 | .t a vs,ts,K,⟨h1,h2⟩=>⟨vs,SqT.of h1,by rw[h2.length];exact Nat.le_refl _⟩
 | .r lo n,ts,K,⟨h1,_⟩=>by subst h1;show n≤_;simp
theorem acf.small{pins:List (Addr×Obj)}{σ:St}{s:Shared}(I:Inv X pins σ H s):∀{src:Src}{ts:List T},acf G w H src ts→ts.length≤sizeLine
 | .l a _,ts,⟨vs,h1,h2⟩=>by rw[h2.length];exact(Rd.lst I h1).1
 | .t a vs,ts,⟨h1,h2⟩=>by
  rw[h2.length]
  exact(I.hok a _ h1).1
 | .r lo n,ts,⟨h1,h2⟩=>by subst h1;simpa using h2
theorem abg.go{z:Bool}{src:Src}{ts:List T}{K:PySem.W.Frag}{i:Nat}{t:T}(h:abg G w H z src ts)(e:ts[i]?=some t):(aiK K src).go i H∧∀x H',(aiK K src).yld i H x H'→H'=H∧Rep G w H t x:=h.now.go e
theorem abg.stop{z:Bool}{src:Src}{ts:List T}{K:PySem.W.Frag}(h:abg G w H z src ts):(aiK K src).stop ts.length H:=h.now.stop
theorem abg.small{z:Bool}{pins:List (Addr×Obj)}{σ:St}{s:Shared}(I:Inv X pins σ H s){src:Src}{ts:List T}(h:abg G w H z src ts):ts.length≤sizeLine:=h.now.small I
def ahb(G:Gx)(X:Cx)(σV:St)(w:Wo)(H:Hp)(z:Bool)(res:Res R)(Q:It→Hp→Prop):Prop:=match res with
 | .ok (.val (.lst ts)) s'=>∀w' H' src,Le w w' H H'→StoOk G w' H' s'→abg G w' H' z src ts→Q (aiK X.K src) H'
 | .exc c s'=>∀w' H' pins u sh,Le w w' H H'→StoOk G w' H' s'→aaV G X pins σV H' c u sh→X.xe u sh
 | _=>False
def tI(G:Gx)(X:Cx)(C:Cf)(e:E)(m:Md)(z:Bool):TI:=fun σV H R=>∃w₀ H₀ w σ s,Good G w₀ H₀ w H σ s σV∧ahb G X σV w H z (ev C e m σ s) R
theorem PI.imp{tg e:Expr}{t t':TI}(h:PI X tg e t)(q:∀σ H R,t' σ H R→t σ H R):PI X tg e t':=fun pins s σ H R I z=>h pins s σ H R I (q _ _ _ z)
theorem al1{tg l:Expr}{tl:TE}(hl:PE X l tl):PI X tg l (fun σ H R=>tl σ H fun x H1=>∃a,x=.ref a∧((∃xs,Rd H1 a (.lst xs)∧R (Itl X.K a) H1)∨∃xs,H1 a=some (.tup xs)∧R (Itt X.K a) H1)):=by
 intro pins s σ H R I h
 refine thn (hl pins s σ H _ I h) fun v s1 ⟨x,H1,I1,r1,q1⟩=>?_
 obtain⟨a,e,q⟩:=q1
 subst e
 cases r1
 have hf:∀b∈[s1.heap.objs.size],aeb X pins H1 b:=fun b hb=>by
  have e:b=s1.heap.objs.size:=by simpa using hb
  subst e
  exact I1.fpOk (Nat.le_refl _) (I1.hok.fresh (Nat.le_refl _))
 rcases q with⟨xs,hq,q⟩|⟨xs,hq,q⟩
 ·obtain⟨its,rv,p⟩:=aaN I1 hq
  refine wpAny_pyIter_list p ?_
  exact⟨s1.heap.objs.size,[s1.heap.objs.size],_,_,H1,rfl,I1.kept (t':=s1.toks) fun b o e=>Heap.get?_push_of_some _ e,ahR a _,⟨_,Heap.get?_push_size _ rfl,rfl,rfl⟩,hf,q⟩
 ·obtain⟨its,rv,p⟩:=abh I1 hq
  refine wpAny_pyIter_tuple p ?_
  exact⟨s1.heap.objs.size,[s1.heap.objs.size],_,_,H1,rfl,I1.kept (t':=s1.toks) fun b o e=>Heap.get?_push_of_some _ e,ahf a _,⟨_,Heap.get?_push_size _ rfl,rfl,rfl⟩,hf,q⟩
theorem ajZ{tg e:Expr}{e':E}{m:Md}{z:Bool}(hE:PE X e (tV G X C e'))(hm:m=.i∧z=false∨m=.j∧z=true)
  (hev:∀σ s,ev C e' m σ s=fin m (ev C e' .v σ s)):PI X tg e (tI G X C e' m z):=by
 refine PI.imp (al1 hE) ?_
 rintro σV H R ⟨w₀,H₀,w,σ,s,g,h⟩
 rw[hev]at h
 refine⟨w₀,H₀,w,σ,s,g,?_⟩
 cases he:ev C e' .v σ s with
 | stuck=>rw[he]at h;rcases hm with⟨rfl,rfl⟩|⟨rfl,rfl⟩<;>exact h
 | exc c s1=>rw[he]at h;rcases hm with⟨rfl,rfl⟩|⟨rfl,rfl⟩<;>exact h
 | ok x s1=>
  rw[he]at h
  intro w1 H1 v L1 S1 R1
  match x,R1 with
  | .val (.lst ts),⟨a,vs,e,hz,hr,rp⟩=>
   subst e
   refine⟨a,rfl,.inl ⟨vs,hr,?_⟩⟩
   rcases hm with⟨rfl,rfl⟩|⟨rfl,rfl⟩<;>exact h w1 H1 (.l a vs) L1 S1 ⟨hr,rp,S1.zLoc hz,fun _=>hz⟩
  | .val (.tup ts),⟨a,vs,e,hr,rp⟩=>
   subst e
   refine⟨a,rfl,.inr ⟨vs,hr,?_⟩⟩
   rcases hm with⟨rfl,rfl⟩|⟨rfl,rfl⟩<;>exact h w1 H1 (.t a vs) L1 S1 ⟨hr,rp⟩
  | .bor ts,⟨a,vs,e,hr,rp,nl⟩=>
   subst e
   rcases hm with⟨rfl,rfl⟩|⟨rfl,rfl⟩
   ·exact⟨a,rfl,.inl ⟨vs,.inl hr,h w1 H1 (.l a vs) L1 S1 ⟨.inl hr,rp,nl,fun z=>by cases z⟩⟩⟩
   ·exact h.elim
  | .val .non,_=>rcases hm with⟨rfl,rfl⟩|⟨rfl,rfl⟩<;>exact h.elim
  | .val (.bl _),_=>rcases hm with⟨rfl,rfl⟩|⟨rfl,rfl⟩<;>exact h.elim
  | .val (.int _),_=>rcases hm with⟨rfl,rfl⟩|⟨rfl,rfl⟩<;>exact h.elim
  | .val (.str _),_=>rcases hm with⟨rfl,rfl⟩|⟨rfl,rfl⟩<;>exact h.elim
  | .val (.loc _),_=>rcases hm with⟨rfl,rfl⟩|⟨rfl,rfl⟩<;>exact h.elim
  | .val (.exc _),_=>rcases hm with⟨rfl,rfl⟩|⟨rfl,rfl⟩<;>exact h.elim
theorem ad2{i:Int}(h:bnd i=true):-(2^62)≤i∧i<2^62:=by
 unfold bnd at h
 rw[Bool.and_eq_true,decide_eq_true_iff,decide_eq_true_iff]at h
 exact h
theorem aez:lim≤sizeLine:=by decide
theorem amO{tg a:Expr}{a':E}{p pos:Pos}{m:Md}{z:Bool}(hm:m=.i∨m=.j)(hg:Gl X "range")(hmg:X.mg "range"=none)(ha:PE X a (tV G X C a'))(hs:starEach [a] X.env=[(false,eval a X.env)]):PI X tg (.Call (.Name "range" p) [a] [] pos) (tI G X C (.rng1 a') m z):=by
 refine PI.imp (aiX hg hmg (aa5 ha abb hs) hs) ?_
 rintro σV H R ⟨w₀,H₀,w,σ,s,g,h⟩
 have h:ahb G X σV w H z ((ev C a' .v σ s).bind fun x s1=>onI x fun j=>if bnd j&&decide (j≤lim)then .ok (.val (.lst (aao 0 j))) s1 else .stuck) R:=by rcases hm with rfl|rfl<;>exact h
 refine⟨w₀,H₀,w,σ,s,g,?_⟩
 cases he:ev C a' .v σ s with
 | stuck=>rw[he]at h;exact h
 | exc c s1=>rw[he]at h;exact h
 | ok x s1=>
  rw[he]at h
  intro w1 H1 v L1 S1 R1
  match x,R1,h with
  | .val (.int j),R1,h=>
   cases R1
   have h:ahb G X σV w H z (if bnd j&&decide (j≤lim)then .ok (.val (.lst (aao 0 j))) s1 else .stuck) R:=h
   split at h
   ·rename_i hb
    rw[Bool.and_eq_true,decide_eq_true_iff]at hb
    refine⟨j,rfl,(ad2 hb.1).1,(ad2 hb.1).2,?_⟩
    refine h w1 H1 (.r 0 j.toNat) L1 S1 ⟨?_,?_⟩
    ·unfold aao;simp
    ·have:=aez;omega
   ·exact h.elim
  | .val .non,_,h=>exact h.elim
  | .val (.bl _),_,h=>exact h.elim
  | .val (.str _),_,h=>exact h.elim
  | .val (.tup _),_,h=>exact h.elim
  | .val (.lst _),_,h=>exact h.elim
  | .val (.loc _),_,h=>exact h.elim
  | .val (.exc _),_,h=>exact h.elim
  | .bor _,_,h=>exact h.elim
theorem alR{tg a b:Expr}{a' b':E}{p pos:Pos}{m:Md}{z:Bool}(hm:m=.i∨m=.j)(hg:Gl X "range")(hmg:X.mg "range"=none)(ha:PE X a (tV G X C a'))(hb:PE X b (tV G X C b'))(hs:starEach [a,b] X.env=[(false,eval a X.env),(false,eval b X.env)])(hs2:starEach [b] X.env=[(false,eval b X.env)]):PI X tg (.Call (.Name "range" p) [a,b] [] pos) (tI G X C (.rng2 a' b') m z):=by
 refine PI.imp (aiP hg hmg (aa5 ha (aa5 hb abb hs2) (by rw[hs,hs2])) hs hs2) ?_
 rintro σV H R ⟨w₀,H₀,w,σ,s,g,h⟩
 have h:ahb G X σV w H z ((ev C a' .v σ s).bind fun x s1=>onI x fun i=>(ev C b' .v σ s1).bind fun y s2=>onI y fun j=>if bnd i&&bnd j&&decide (j-i≤lim)then .ok (.val (.lst (aao i j))) s2 else .stuck) R:=by rcases hm with rfl|rfl<;>exact h
 refine⟨w₀,H₀,w,σ,s,g,?_⟩
 cases he:ev C a' .v σ s with
 | stuck=>rw[he]at h;exact h
 | exc c s1=>rw[he]at h;exact h
 | ok x s1=>
  rw[he]at h
  intro w1 H1 v L1 S1 R1
  match x,R1,h with
  | .val (.int i),R1,h=>
   cases R1
   refine⟨w₀,H₀,w1,σ,s1,g.step L1 S1,?_⟩
   have h:ahb G X σV w H z ((ev C b' .v σ s1).bind fun y s2=>onI y fun j=>if bnd i&&bnd j&&decide (j-i≤lim)then .ok (.val (.lst (aao i j))) s2 else .stuck) R:=h
   cases hf:ev C b' .v σ s1 with
   | stuck=>rw[hf]at h;exact h
   | exc c s2=>rw[hf]at h;exact fun w2 H2 pins u sh L2=>h w2 H2 pins u sh (L1.trans L2)
   | ok y s2=>
    rw[hf]at h
    intro w2 H2 v2 M2 S2 R2
    match y,R2,h with
    | .val (.int j),R2,h=>
     cases R2
     have h:ahb G X σV w H z (if bnd i&&bnd j&&decide (j-i≤lim)then .ok (.val (.lst (aao i j))) s2 else .stuck) R:=h
     split at h
     ·rename_i hb
      rw[Bool.and_eq_true,Bool.and_eq_true,decide_eq_true_iff]at hb
      refine⟨i,j,rfl,⟨(ad2 hb.1.1).1,(ad2 hb.1.1).2,(ad2 hb.1.2).1,(ad2 hb.1.2).2⟩,?_⟩
      refine h w2 H2 (.r i (j-i).toNat) (L1.trans M2) S2 ⟨rfl,?_⟩
      have:=aez
      omega
     ·exact h.elim
    | .val .non,_,h=>exact h.elim
    | .val (.bl _),_,h=>exact h.elim
    | .val (.str _),_,h=>exact h.elim
    | .val (.tup _),_,h=>exact h.elim
    | .val (.lst _),_,h=>exact h.elim
    | .val (.loc _),_,h=>exact h.elim
    | .val (.exc _),_,h=>exact h.elim
    | .bor _,_,h=>exact h.elim
  | .val .non,_,h=>exact h.elim
  | .val (.bl _),_,h=>exact h.elim
  | .val (.str _),_,h=>exact h.elim
  | .val (.tup _),_,h=>exact h.elim
  | .val (.lst _),_,h=>exact h.elim
  | .val (.loc _),_,h=>exact h.elim
  | .val (.exc _),_,h=>exact h.elim
  | .bor _,_,h=>exact h.elim
def slots:Tg→List Nat
 | .one i=>[i]
 | .many is=>is
def gTg(G:Gx)(g:Tg):TG:=fun v σV H Q=>∃w s t σ σ',StoOk G w H s∧Rep G w H t v∧aaq σ g t=some σ'∧∀vs,(∀H₀ σV',FrOk G w H H₀ σ σV'→FrOk G w H H₀ σ' (abk σV' (slots g) vs))→vs.length=(slots g).length→Q (abk σV (slots g) vs) H
theorem PG.imp{tg:Expr}{t t':TG}(h:PG X tg t)(q:∀v σ H Q,t' v σ H Q→t v σ H Q):PG X tg t':=fun pins s σ H v u Q I r z=>h pins s σ H v u Q I r (q _ _ _ _ z)
theorem aoe{i:Nat}{x:Str}{pos:Pos}(hN:X.N.Nodup)(hi:X.N[i]?=some x)(hx:Loc X.env.scope x)(hf:X.fn x=true∨X.env.scope.names.lookup x=some .local):PG X (.Name x pos) (gTg G (.one i)):=by
 refine PG.imp (aju hN hi hx hf) ?_
 rintro v σV H Q ⟨w,s,t,σ,σ',S,r,e,q⟩
 cases e
 exact q [v] (fun H₀ σV' F=>F.put r) rfl
def agO(js:List Nat):TGs:=fun vs σ H Q=>vs.length=js.length∧Q (abk σ js vs) H
theorem PGs.imp{ts:List Expr}{t t':TGs}(h:PGs X ts t)(q:∀v σ H Q,t' v σ H Q→t v σ H Q):PGs X ts t':=fun pins s σ H v u Q I r z=>h pins s σ H v u Q I r (q _ _ _ _ z)
theorem aoM:PGs X [] (agO []):=PGs.imp anm fun vs σ H Q ⟨h,q⟩=>by
 have:vs=[]:=List.length_eq_zero_iff.mp h
 subst this
 exact⟨rfl,q⟩
theorem amz{i:Nat}{js:List Nat}{x:Str}{pos:Pos}{es:List Expr}(hN:X.N.Nodup)(hi:X.N[i]?=some x)(hx:Loc X.env.scope x)(hf:X.fn x=true∨X.env.scope.names.lookup x=some .local)(h2:PGs X es (agO js)):PGs X (.Name x pos::es) (agO (i::js)):=by
 refine PGs.imp (akJ (aju hN hi hx hf) h2 rfl) ?_
 rintro vs σ H Q ⟨h,q⟩
 match vs,h,q with
 | v::r,h,q=>exact⟨v,r,rfl,by simpa using h,q⟩
theorem adW:∀{is:List Nat}{ts:List T}{σ σ':Fr},puts σ is ts=some σ'→is.length=ts.length
 | [],[],_,_,_=>rfl
 | [],_::_,_,_,h=>by cases h
 | _::_,[],_,_,h=>by cases h
 | i::is,t::ts,σ,σ',h=>by simp[adW (is:=is) (ts:=ts) (σ:=put σ i t) h]
theorem ahJ{js:List Nat}{es:List Expr}{k:Nat}{pos:Pos}(hc:X.calm=true)(h:PGs X es (agO js))(hn:(assignEach es X.env).length=js.length)(hst:(assignEach es X.env).findIdx? (·.1)=none):PG X (.Tuple es k pos) (gTg G (.many js)):=by
 rintro pins s0 σV H v u Q I ru ⟨w,s,t,σ,σ',S,r,e,q⟩
 match t,r,e with
 | .tup ts,⟨a,vs,e1,hp,rp⟩,e=>
  have e:puts σ js ts=some σ':=e
  have hl:=adW e
  refine aov hc h hn hst pins s0 σV H v u Q I ru ⟨a,vs,e1,SqT.of hp,by rw[←rp.length,hl],by rw[←rp.length,hl],?_⟩
  exact q vs (fun H₀ σV' F=>FrOk.puts F rp e) (by rw[←rp.length];exact hl.symm)
 | .lst ts,⟨a,vs,e1,_,hp,rp⟩,e=>
  have e:puts σ js ts=some σ':=e
  have hl:=adW e
  refine arq hc h hn hst pins s0 σV H v u Q I ru ⟨a,vs,e1,hp,by rw[←rp.length,hl],by rw[←rp.length,hl],?_⟩
  exact q vs (fun H₀ σV' F=>FrOk.puts F rp e) (by rw[←rp.length];exact hl.symm)
 | .non,_,e=>cases e
 | .bl _,_,e=>cases e
 | .int _,_,e=>cases e
 | .str _,_,e=>cases e
 | .loc _,_,e=>cases e
 | .exc _,_,e=>cases e
end
theorem aas{h:Heap}{as:List Addr}{b:Addr}{o:Obj}:(PySem.W.hideAll h as).get? b=some o↔h.get? b=some o∧b∉as:=by
 refine⟨fun e=>⟨PySem.W.of_hideAll as e,fun z=>?_⟩,fun⟨e,n⟩=>PySem.W.hideAll_get as e n⟩
 rw[PySem.W.hideAll_none as z]at e
 cases e
section
variable{G:Gx}{X:Cx}{pins:List (Addr×Obj)}{σV:St}{H:Hp}{c:Nat}{u:Value}{sh:Shared}
theorem ajt{base h B:Heap}{as:List Addr}(hc:∀b o,B.get? b=some o→b∉as):∀{l:List Env},h.FunFrames base l→(∀b∈frs l,b∈as)→h.FunFrames B l
 | [],_,_=>trivial
 | env::l,⟨hk,⟨L,o,hf,_,ho,hd⟩,hr⟩,hin=>by
  have hL:L∈as:=hin L (by unfold frs;rw[List.filterMap_cons,hf];exact List.mem_cons_self)
  refine⟨hk,⟨L,o,hf,?_,ho,hd⟩,ajt hc hr fun b hb=>hin b ?_⟩
  ·cases q:B.get? L with
   | none=>rfl
   | some z=>exact absurd hL (hc L z q)
  ·unfold frs
   rw[List.filterMap_cons,hf]
   exact List.mem_cons_of_mem _ hb
theorem Flt.next{stack:List Env}{base h B h1 h2:Heap}{e:Addr}(F:Flt stack h B e h1)(hf:h.FunFrames base stack)(st:B.StaysIn h2)(sm:h1.UpToSlots h2):Flt stack h B e h2 where
 cov:=F.cov
 keep:=fun b o q n=>st b o ((F.cov b o).mpr ⟨q,n⟩)
 slot:=fun b o q n=>by
  obtain⟨sl,e1⟩:=F.slot b o q n
  obtain⟨_,o',ho',hd⟩:=hf.mem n
  rw[q]at ho'
  cases ho'
  obtain⟨sl',e2⟩:=sm b _ e1 hd
  exact⟨sl',e2⟩
 new:=F.new
theorem ahM{M:Model}{A:Around}{E:Value→Shared→Prop}{s:Shared}{B h:Heap}{env:Env}{outer:List Env}{L e:Addr}{cls:Value}{args:List Value}{Q:Unit→Shared→Prop}
  (hfr:A.frames=some (env::outer)) (hf:env.frame=some L) (hkb:B.StaysIn h) (hl:h.FunFrames B (env::outer)) (hx:Heap.MadeExcOf h s.heap e cls args)
  (hQ:∀h' t,Heap.HeldW B (env::outer) e cls t L h'→s.heap.UpToSlots h'→Q () { s with heap:=h' }):wpAny M A (noteFrame (.ref e) env) Q E s:=by
 obtain⟨t,he,htn,ht⟩:=hx.there
 have hen:B.get? e=none:=by
  cases hq:B.get? e with
  | none=>rfl
  | some o'=>have:=hkb e o' hq;rw[hx.new]at this;cases this
 unfold noteFrame
 simp only[hf]
 refine wpAny_bind (wpAny_field (x:=.none) he rfl rfl ?_)
 rw[if_neg (by decide)]
 refine wpAny_entryW (a0:=.ref t) hfr (hl.of_keeps fun b o hb _=>⟨o,hx.keeps b o hb,rfl⟩) hf he (fun b o hb=>hx.keeps b o (hkb b o hb)) hen rfl (by simp) rfl fun h' hN=>?_
 obtain⟨k1,k2,k3,k4⟩:=hN
 exact hQ h' (.ref t) ⟨k1,hen,k2,k3⟩ k4
def afL(X:Cx):Prop:=∃env0 outer0 L,X.stack=env0::outer0∧env0.frame=some L∧X.env.frame=some L
theorem aep{e:Value}{env env':Env}(h:env.frame=env'.frame):noteFrame e env=noteFrame e env':=by
 unfold noteFrame frameOf
 rw[h]
theorem ako{M:Model}{A:Around}{E:Value→Shared→Prop}{s:Shared}{base:Heap}{env:Env}{outer:List Env}{L e:Addr}{cls a0 fl:Value}{Q:Unit→Shared→Prop}
  (hfr:A.frames=some (env::outer)) (hf:env.frame=some L) (hh:ap0 base (env::outer) e cls a0 fl s.heap)
  (hQ:∀h',Heap.HeldW base (env::outer) e cls a0 L h'→s.heap.UpToSlots h'→Q () { s with heap:=h' }):wpAny M A (noteFrame (.ref e) env) Q E s:=by
 obtain⟨hkb,hen,hl,oe,vs,T,oT,ts,he,⟨hcls,h0⟩,hd,h1,hnT,hTe,hT,hdT,h3⟩:=hh
 by_cases hq:fl=rawInt L
 ·subst hq
  exact wpAny_noteFrame_againW hf ⟨oe,vs,T,oT,ts,he,⟨hcls,h0⟩,hd,h1,hnT,hTe,hT,hdT,h3⟩ (hQ s.heap ⟨hkb,hen,hl,oe,vs,T,oT,ts,he,⟨hcls,h0⟩,hd,h1,hnT,hTe,hT,hdT,h3⟩ (.refl _))
 ·have other:∀b,b≠T→(s.heap.update T (Obj.mapFields (·.setIfInBounds 3 Value.none))).get? b=s.heap.get? b:=fun b hb=>Heap.get?_update_other _ _ (Ne.symm hb)
  have nor:∀b o,s.heap.get? b=some o→(∀vs,o.data≠.fields vs)→b≠T:=fun b o hb hnf q=>by
   rw[q,hT]at hb;cases hb;exact hnf ts hdT
  subst hcls
  unfold noteFrame
  simp only[hf]
  refine wpAny_bind (wpAny_field he hd h1 ?_)
  rw[if_pos (show(Value.ref T != Value.none)=true from by simp)]
  refine wpAny_bind (wpAny_field hT hdT h3 ?_)
  rw[if_neg (show ¬((fl==rawInt L)=true)from fun z=>hq (by simpa using z))]
  refine wpAny_bind (wpAny_setField hT hdT (Array.getElem?_eq_some_iff.mp h3).1 ?_)
  refine wpAny_entryW hfr (hl.of_keeps fun b o hb hnf=>⟨o,(other b (nor b o hb hnf)).trans hb,rfl⟩) hf ((other e (Ne.symm hTe)).trans he)
   (fun b o hbo=>(other b fun q=>by rw[q,hnT]at hbo;cases hbo).trans (hkb b o hbo)) hen hd (Array.getElem?_eq_some_iff.mp h1).1 h0
   fun h' ⟨x1,x2,x3,x4⟩=>hQ h' ⟨x1,hen,x2,x3⟩ fun b o hb hnf=>x4 b o ((other b (nor b o hb hnf)).trans hb) hnf
theorem ac4{E:Value→Shared→Prop}{Q:Unit→Shared→Prop}(hst:afL X)(T:aaV G X pins σV H c u sh)
  (hQ:∀e h B h' t L,u=.ref e→Inv X pins σV H { sh with heap:=h }→Flt X.stack h B e h'→X.base.StaysIn B→Heap.HeldW B X.stack e (.ref (G.cA c)) t L h'→Q () { sh with heap:=h' }):
  wpAny (model X.prog X.w) X.A (noteFrame u X.env) Q E sh:=by
 obtain⟨env0,outer0,L,e1,e2,e3⟩:=hst
 rw[aep (e3.trans e2.symm)]
 obtain⟨e,h,B,rfl,I,F,sb,T⟩:=T
 have hff:h.FunFrames X.base X.stack:=I.stack
 have hfr:X.A.frames=some (env0::outer0):=by rw[I.ok.frames,e1]
 have fB:h.FunFrames B X.stack:=ajt (fun b o q=>((F.cov b o).mp q).2) hff fun _ z=>z
 have land:∀(h1:Heap) (t:Value),Heap.HeldW B (env0::outer0) e (.ref (G.cA c)) t L h1→sh.heap.UpToSlots h1→Q () { sh with heap:=h1 }:=fun h1 t hh sm=>by
  rw[←e1]at hh
  exact hQ e h B h1 t L rfl I (F.next hff hh.1 sm) sb hh
 rw[e1]at T fB
 rcases T with⟨args,hm⟩|⟨t,hf⟩|⟨t,fl,hh⟩
 ·exact ahM hfr e2 (fun b o q=>((F.cov b o).mp q).1) fB hm fun h1 t hh sm=>land h1 t hh sm
 ·exact wpAny_looks_onW hfr e2 hf fun h1 hh sm=>land h1 t hh sm
 ·exact ako hfr e2 hh fun h1 hh sm=>land h1 t hh sm
theorem ag2{base h B h2:Heap}{as:List Addr}(hc:∀b o,B.get? b=some o→b∉as)(hm:∀b∈as,∀o,h.get? b=some o→(∀vs,o.data≠.fields vs)→h2.get? b=some o):
  ∀{l:List Env},h.FunFrames base l→(∀b∈frs l,b∈as)→h2.FunFrames B l
 | [],_,_=>trivial
 | env::l,⟨hk,⟨L,o,hf,_,ho,hd⟩,hr⟩,hin=>by
  have hL:L∈as:=hin L (by unfold frs;rw[List.filterMap_cons,hf];exact List.mem_cons_self)
  refine⟨hk,⟨L,o,hf,?_,hm L hL o ho hd,hd⟩,ag2 hc hm hr fun b hb=>hin b ?_⟩
  ·cases q:B.get? L with
   | none=>rfl
   | some z=>exact absurd hL (hc L z q)
  ·unfold frs
   rw[List.filterMap_cons,hf]
   exact List.mem_cons_of_mem _ hb
theorem af9{E:Value→Shared→Prop}{X:Cx}{pins:List (Addr×Obj)}{σV:St}{e A L:Addr}{h B h1 h':Heap}{t:Value}{what:String}{cenv:Env}(I:Inv X pins σV H { sh with heap:=h })(fA:aeb X pins H A)(hA:∀o,X.base.get? A≠some o)(F:Flt X.stack h B e h1)(sb:X.base.StaysIn B)
  (hh:Heap.HeldW B X.stack e (.ref (G.cA c)) t L h1) (nsA:∃o,h1.get? A=some o∧∀vs,o.data≠.fields vs) (hs:Heap.SameBut A h1 h') (hx:∀sh',aaV G X pins σV H c (.ref e) sh'→E (.ref e) sh'):
  wpAny (model X.prog X.w) X.A (passOn what (.ref e) cenv:Sem Value) (fun _ _=>False) E { sh with heap:=h' }:=by
 obtain⟨hkb,hen,hl,oe,vs,T,oT,ts,he,⟨hcls,h0⟩,hd,h1',hnT,hTe,hT,hdT,h3⟩:=hh
 obtain⟨oA,hoA,hAd⟩:=nsA
 have eA:e≠A:=fun z=>by rw[z,hoA]at he;cases he;exact hAd _ hd
 have TA:T≠A:=fun z=>by rw[z,hoA]at hT;cases hT;exact hAd _ hdT
 have Afr:A∉frs X.stack:=fun z=>by
  rcases List.mem_cons.mp (I.stkSub A z)with z|z
  ·exact fA.2.1 z
  ·exact fA.2.2.1 z
 have he':h'.get? e=some oe:=(hs.2 e eA).trans he
 have hT':h'.get? T=some oT:=(hs.2 T TA).trans hT
 have hsz3:3<ts.size:=(Array.getElem?_eq_some_iff.mp h3).1
 unfold passOn
 refine wpAny_bind (wpAny_field he' hd h1' ?_)
 rw[if_neg (show ¬((Value.ref T==Value.none)=true)from by simp)]
 refine wpAny_bind ?_
 unfold setFlight
 refine wpAny_bind (wpAny_field he' hd h1' ?_)
 rw[if_pos (show(Value.ref T != Value.none)=true from by simp)]
 generalize (cenv.frame.elim Value.none fun f=>rawInt f)=fl
 refine wpAny_setField hT' hdT hsz3 (wpAny_throw (hx _ ?_))
 have other:∀b,b≠T→(h'.update T (Obj.mapFields (·.setIfInBounds 3 fl))).get? b=h'.get? b:=fun b hb=>Heap.get?_update_other _ _ (Ne.symm hb)
 have bT:∀b o,B.get? b=some o→b≠T:=fun b o q z=>by rw[z,hnT]at q;cases q
 have fT:∀b∈frs X.stack,b≠T:=fun b hb z=>by
  obtain⟨_,o,ho,hnf⟩:=hl.mem hb
  rw[z,hT]at ho;cases ho;exact hnf _ hdT
 refine⟨e,PySem.W.hideAll h [A],PySem.W.hideAll B [A],rfl,?_,⟨fun b o=>?_,fun b o q n=>?_,fun b o q n=>?_,?_⟩,fun b o q=>aas.mpr ⟨sb b o q,fun z=>?_⟩,.inr (.inr ⟨t,fl,fun b o q=>?_,?_,?_,?_⟩)⟩
 ·exact I.turned (t':=sh.toks) (fun b o ne q=>aas.mpr ⟨q,by simpa using ne⟩) fA.1 fA.2.1 fA.2.2.2.1 fA.2.2.2.2.1 fA.2.2.2.2.2
 ·rw[aas,aas,F.cov b o]
  exact⟨fun⟨⟨a,y⟩,z⟩=>⟨⟨a,z⟩,y⟩,fun⟨⟨a,z⟩,y⟩=>⟨⟨a,y⟩,z⟩⟩
 ·obtain⟨a,y⟩:=aas.mp q
  have y:b≠A:=by simpa using y
  exact(other b (bT b o ((F.cov b o).mpr ⟨a,n⟩))).trans ((hs.2 b y).trans (F.keep b o a n))
 ·obtain⟨a,y⟩:=aas.mp q
  have y:b≠A:=by simpa using y
  obtain⟨sl,z⟩:=F.slot b o a n
  exact⟨sl,(other b (fT b n)).trans ((hs.2 b y).trans z)⟩
 ·cases q:(PySem.W.hideAll h [A]).get? e with
  | none=>rfl
  | some o=>have:=(aas.mp q).1;rw[F.new]at this;cases this
 ·have z:b=A:=by simpa using z
  subst z
  exact hA o q
 ·obtain⟨a,y⟩:=aas.mp q
  have y:b≠A:=by simpa using y
  exact(other b (bT b o a)).trans ((hs.2 b y).trans (hkb b o a))
 ·cases q:(PySem.W.hideAll B [A]).get? e with
  | none=>rfl
  | some o=>have:=(aas.mp q).1;rw[hen]at this;cases this
 ·refine ag2 (as:=frs X.stack) (fun b o q=>((F.cov b o).mp (aas.mp q).1).2) (fun b hb o q _=>(other b (fT b hb)).trans ((hs.2 b fun z=>Afr (z▸hb)).trans q)) hl fun _ z=>z
 ·refine⟨oe,vs,T,_,_,(other e (Ne.symm hTe)).trans he',⟨hcls,h0⟩,hd,h1',?_,hTe,Heap.get?_update_self _ hT' (Obj.isFreed_of_fields (Obj.data_mapFields hdT _)),Obj.data_mapFields hdT _,by simp[hsz3]⟩
  cases q:(PySem.W.hideAll B [A]).get? T with
  | none=>rfl
  | some o=>have:=(aas.mp q).1;rw[hnT]at this;cases this
end
section
variable{G:Gx}{X:Cx}{C:Cf}
def awC(G:Gx)(w:Wo)(H:Hp):Option T→Option V→Prop
 | some t,some v=>Rep G w H t v
 | none,none=>True
 | _,_=>False
def atz(G:Gx)(X:Cx)(σV:St)(w:Wo)(H:Hp)(r:Res (Option T))(Q:Option V→Hp→Prop):Prop:=match r with
 | .stuck=>False
 | .ok o s'=>∀w1 H1 vo,Le w w1 H H1→StoOk G w1 H1 s'→awC G w1 H1 o vo→Q vo H1
 | .exc c s'=>∀w' H' pins u sh,Le w w' H H'→StoOk G w' H' s'→aaV G X pins σV H' c u sh→X.xe u sh
def ad1(G:Gx)(X:Cx)(ifs:List Expr)(elt:Expr)(f:Fr→Sto→Res (Option T)):Prop:=
 ∀(pins:List (Addr×Obj)) (s:Shared) (σV:St) (H:Hp) (w₀:Wo) (H₀:Hp) (w:Wo) (σ:Fr) (st:Sto) (Q:Option V→Hp→Prop),Inv X pins σV H s→Good G w₀ H₀ w H σ st σV→atz G X σV w H (f σ st) Q→
  wpAny (model X.prog X.w) X.A (forIn ifs true fun c r=>if r=true then do let ok ←isTrue c X.env (eval c X.env);pure (ForInStep.yield ok)else pure (ForInStep.yield r))
   (fun ok s3=>if ok=true then wpAny (model X.prog X.w) X.A (eval elt X.env) (fun u s4=>∃v H4,Inv X pins σV H4 s4∧aaF v u∧Q (some v) H4) X.xe s3 else ∃H3,Inv X pins σV H3 s3∧Q none H3) X.xe s
def adr(G:Gx)(X:Cx)(σV:St)(w:Wo)(H:Hp)(Q:VK)(acc:List T)(r:Res (List T)):Prop:=match r with
 | .ok aat st'=>∀w' H' a vs,Le w w' H H'→StoOk G w' H' st'→H' a=some (.lst vs)→aah G w' H' (acc++aat) vs→H a=none→¬w'.Z a→notLoc w' a→Q (.ref a) H'
 | .exc c st'=>∀w' H' pins u sh,Le w w' H H'→StoOk G w' H' st'→aaV G X pins σV H' c u sh→X.xe u sh
 | .stuck=>False
theorem abH{σV:St}{w:Wo}{H:Hp}{Q:VK}{acc:List T}{f:T→Sto→Res (Option T)}{t:T}{ts:List T}{s:Sto}(h:adr G X σV w H Q acc (aa0 f (t::ts) s)):
  (∃o s1,f t s=.ok o s1∧adr G X σV w H Q (acc++afT o []) (aa0 f ts s1))∨∃c s1,f t s=.exc c s1∧∀w' H' pins u sh,Le w w' H H'→StoOk G w' H' s1→aaV G X pins σV H' c u sh→X.xe u sh:=by
 unfold aa0 at h
 cases hf:f t s with
 | stuck=>rw[hf]at h;exact h.elim
 | exc c s1=>rw[hf]at h;exact .inr ⟨c,s1,rfl,h⟩
 | ok o s1=>
  rw[hf]at h
  refine .inl ⟨o,s1,rfl,?_⟩
  have h:adr G X σV w H Q acc ((aa0 f ts s1).bind fun q s2=>Res.ok (afT o q) s2):=h
  cases hm:aa0 f ts s1 with
  | stuck=>rw[hm]at h;exact h
  | exc c s2=>rw[hm]at h;exact h
  | ok r s2=>
   rw[hm]at h
   intro w' H' a vs h1 h2 h3 h4
   refine h w' H' a vs h1 h2 h3 ?_
   cases o<;>simpa [afT]using h4
theorem abX{α β:Type}{o:Option α}{f:α→Res β}{c:Nat}{s:Sto}(h:onO o f=.exc c s):∃a,o=some a∧f a=.exc c s:=by
 cases o with
 | none=>cases h
 | some a=>exact⟨a,rfl,h⟩
theorem agq{α β:Type}{o:Option α}{f:α→Res β}{b:β}{s:Sto}(h:onO o f=.ok b s):∃a,o=some a∧f a=.ok b s:=by
 cases o with
 | none=>cases h
 | some a=>exact⟨a,rfl,h⟩
variable{elt iter tg:Expr}{ifs:List Expr}{scope:Scope}{pos:Pos}{it' ce:E}{g:Tg}{N':List Str}{f:Fr→Sto→Res (Option T)}
theorem akc{pins:List (Addr×Obj)}{σ:St}{H:Hp}{s:Shared}{D:Addr}{xs:List V}{v:V}{u:Value}{Y:Cx}{E:Value→Shared→Prop}{Q:Shared→Prop}(I:Inv Y pins σ H s)(r:aaF v u)(hD:H D=some (.lst xs))(hl:xs.length<sizeLine)
  (q:∀s',Inv Y pins σ (upd H D (.lst (xs++[v]))) s'→Q s'):wpAny (model Y.prog Y.w) Y.A (call (.builtin "list.append") [.ref D,u]) (fun _ s'=>Q s') E s:=by
 have z:=adk (X:=Y.wish E) pins s σ H (.ref D) [v] (.ref D) [u] (fun _ H'=>H'=upd H D (.lst (xs++[v]))) (I.wish E) rfl (.cons r .nil) ⟨D,xs,v,rfl,rfl,hD,hl,rfl⟩
 refine thn z fun u' s' ⟨_,H',I',_,e⟩=>?_
 subst e
 exact q s' I'.unwish
theorem aeS:∀{js:List Nat}{vs:List V}{σV:St}{i:Nat},i∉js→(abk σV js vs)[i]?=σV[i]?
 | [],vs,σV,i,_=>by cases vs<;>rfl
 | j::js,[],σV,i,_=>rfl
 | j::js,v::vs,σV,i,h=>by
  show(abk (σV.set j (some v)) js vs)[i]?=_
  rw[aeS fun q=>h (List.mem_cons_of_mem _ q),List.getElem?_set_ne fun q=>h (by simp[q])]
def aiW(G:Gx)(w:Wo)(H:Hp)(s:Sto)(J:It)(ts:List T):Prop:=
 (∀i t,ts[i]?=some t→J.go i H∧∀x H',J.yld i H x H'→∃w',Le w w' H H'∧StoOk G w' H' s∧Rep G w' H' t x)∧J.stop ts.length H∧∀(X:Cx) pins σ s',Inv X pins σ H s'→ts.length≤sizeLine
theorem acf.walked{w:Wo}{H:Hp}{s:Sto}{src:Src}{ts:List T}{K:PySem.W.Frag}(S:StoOk G w H s)(h:acf G w H src ts):aiW G w H s (aiK K src) ts:=
 ⟨fun i t e=>⟨(h.go e).1,fun x H' y=>by obtain⟨e1,r⟩:=(h.go (K:=K) e).2 x H' y;subst e1;exact⟨w,Le.refl _ _,S,r⟩⟩,h.stop,fun _ _ _ _ I=>h.small I⟩
def akk(G:Gx)(X:Cx)(g:Tg)(f:Fr→Sto→Res (Option T))(σ:Fr)(σV:St)(w:Wo)(H:Hp)(Q:VK)(J:It)(H2:Hp):Prop:=
 ∃(w2:Wo) (ts:List T) (st2:Sto) (K:Sto→Prop) (kp:Res (Option T)→Res (Option T)),Le w w2 H H2∧StoOk G w2 H2 st2∧(∀w' H' s',Le w2 w' H2 H'→StoOk G w' H' s'→K s'→aiW G w' H' s' J ts)∧K st2∧(∀r,(∀o s',kp r=.ok o s'→r=.ok o s'∧K s')∧∀c s',kp r=.exc c s'→r=.exc c s')∧
  adr G X σV w H Q [] (aa0 (fun t s=>onO (aaq σ g t) fun σ'=>kp (f σ' s)) ts st2)
theorem agS(hfr:afL X)(hc:X.calm=true)(hN:CompN X scope N' (slots g))(hnd:(slots g).Nodup){tx:TI}(hI:PI X tg iter tx)
  (hG:∀A fp s2 H2 xe,PG (cxC X N' scope A fp s2 H2 xe) tg (gTg G g)) (hE:∀A fp s2 H2 xe,ad1 G (cxC X N' scope A fp s2 H2 xe) ifs elt f) (hs:∀x,foldedSetIterable iter X.env x=pure x)
  {pins:List (Addr×Obj)}{s:Shared}{σV:St}{H:Hp}{w₀ w:Wo}{H₀:Hp}{σ:Fr}{st:Sto}{Q:VK} (I:Inv X pins σV H s) (gd:Good G w₀ H₀ w H σ st σV)
  (hsrc:tx σV H (akk G X g f σ σV w H Q))
  {use:Option (Value→Sem Unit)}{Q':Value→Shared→Prop}
  (hfin:∀(s':Shared) (Hc:Hp) (A D:Addr),Inv X pins σV Hc s'→aeb X pins Hc A→(∃m,s'.heap.Ns A m)→Q (.ref D) Hc→compPost (model X.prog X.w) X.A X.xe use Q' (.ref D) A (.ok .next) s'):
  wpAny (model X.prog X.w) X.A (comprehension (.ListComp elt [⟨tg,iter,ifs,0⟩] scope pos) scope X.env (firstIterPos [⟨tg,iter,ifs,0⟩] pos) (newList []) false (eval iter X.env) use) Q' X.xe s:=by
 have hfree:∀x∈scope.names,x.2=.free→∃c,X.env.cells.lookup x.1=some c:=fun x hx hf=>I.ok.has x.1 (hN.free x hx hf)
 refine wpAny_comprehension_free (use:=use) rfl hs (agV scope X.env hfree) hN.kind hN.locs (thn (hI pins s σV H _ I hsrc) fun xv s1 h1=>thn h1 fun itv s2 h2=>?_)
 obtain⟨it,fp,tn,J,H2,rfl,I2,T,st2,f2,w2,ts,stc,KK,kp,L2,S2,now,hK,hkp,hm⟩:=h2
 have ho2:∀b∈fp,∃o,s2.heap.get? b=some o:=fun b hb=>let ⟨o,e,_⟩:=T.obj _ _ st2 b hb;⟨o,e⟩
 refine wpAny_newObj_type (wpAny_newFunctionEnv hN.nocell (by intro y hy;simp at hy) (fun h₁ hns₁ hsb₁=>?_) hN.kind)
 have hns₁:h₁.Ns (s2.heap.push { cls:=.type "list",data:=.seq ([]:List Value).toArray }).objs.size (fun _=>none):=hns₁
 have hfD:H2 s2.heap.objs.size=none:=I2.hok.fresh (Nat.le_refl _)
 generalize hD:s2.heap.objs.size=D at hfD
 have I3:Inv X pins σV (upd H2 D (.lst [])) { s2 with heap:=s2.heap.push { cls:=.type "list",data:=.seq ([]:List Value).toArray } }:=by
  rw[←hD]
  exact I2.lnew (its:=[]) (t':=s2.toks) .nil (Nat.zero_le _)
 generalize hs3:({ s2 with heap:=s2.heap.push { cls:=.type "list",data:=.seq ([]:List Value).toArray } }:Shared)=s3 at I3
 have k3:∀b o,s2.heap.get? b=some o→s3.heap.get? b=some o:=fun b o e=>by rw[←hs3];exact Heap.get?_push_of_some _ e
 have fpD:∀b∈fp,b≠D:=fun b hb=>by
  obtain⟨o,e⟩:=ho2 b hb
  rw[←hD]
  exact Nat.ne_of_lt (Heap.lt_size e)
 have f3:∀b∈fp,aeb X pins (upd H2 D (.lst [])) b:=fun b hb=>⟨by rw[aag (fpD b hb)];exact(f2 b hb).1,(f2 b hb).2⟩
 have ho3:∀b∈fp,∃o,s3.heap.get? b=some o:=fun b hb=>let ⟨o,e⟩:=ho2 b hb;⟨o,k3 b o e⟩
 have e3:(s2.heap.push { cls:=.type "list",data:=.seq ([]:List Value).toArray })=s3.heap:=by rw[←hs3]
 rw[e3]at hns₁ hsb₁
 have k4:∀b o,s3.heap.get? b=some o→h₁.get? b=some o:=fun b o e=>hsb₁.extBut b o (Nat.ne_of_lt (Heap.lt_size e)) (Heap.get?_push_of_some _ e)
 obtain⟨XE,hXE⟩:∃XE:Addr→Value→Shared→Prop,XE=fun A=>notedBy (model X.prog X.w) X.A (compEnvC scope (clo X.env.cells scope.names []) A X.env) fun e s'=>compPost (model X.prog X.w) X.A X.xe use Q' (.ref D) A (.error e) s':=⟨_,rfl⟩
 have I4:Inv (cxC X N' scope s3.heap.objs.size fp s3 (upd H2 D (.lst [])) (XE s3.heap.objs.size)) [] (clr σV (slots g)) (upd H2 D (.lst [])) { s3 with heap:=h₁,toks:=s3.toks+([]:List (Str×Value)).length }:=amZ hN I3 f3 ho3 hns₁ k4
 have tn4:tn 0 h₁:=T.keep _ _ _ st2 fun b hb o e=>k4 b o (k3 b o e)
 generalize hA:s3.heap.objs.size=A at I4 hns₁ hsb₁
 have hAD:D≠A:=by
  rw[←hA,←hs3]
  show D≠(s2.heap.push _).objs.size
  rw[Heap.size_push,hD]
  exact Nat.ne_of_lt (Nat.lt_succ_self _)
 generalize hY:cxC X N' scope A fp s3 (upd H2 D (.lst [])) (XE A)=Y at I4
 have eP:Y.prog=X.prog:=by rw[←hY];rfl
 have eW:Y.w=X.w:=by rw[←hY];rfl
 have eK:Y.K=X.K:=by rw[←hY];rfl
 have eA:Y.A=X.A:=by rw[←hY];rfl
 have eC:Y.calm=true:=by rw[←hY];exact hc
 have eL:Y.env.locals=A:=by rw[←hY];rfl
 have eS:Y.stack=X.stack:=by rw[←hY];rfl
 have eB:Y.base=X.base:=by rw[←hY];rfl
 have eF:Y.env.frame=X.env.frame:=by rw[←hY];rfl
 have eN:Y.env=compEnvC scope (clo X.env.cells scope.names []) A X.env:=by rw[←hY];rfl
 have stat:∀{H':Hp},(∀b∈fp,H' b=none)→∀b∈fp,aeb Y [] H' b:=fun {H'} hn b hb=>by
  obtain⟨f0,f1,fx,fy,fz,fw⟩:=f2 b hb
  subst hY
  refine⟨hn b hb,?_,?_,.inl hb,fun x c e=>fz x c (afD X.env.cells scope.names [] (fun x c z=>by simp at z) x c e),fun p hp=>absurd (show p∈([]:List (Addr×Obj))from hp) (by simp)⟩
  ·show b≠A
   obtain⟨o,e⟩:=ho3 b hb
   rw[←hA]
   exact Nat.ne_of_lt (Heap.lt_size e)
  ·intro hm
   rcases List.mem_cons.mp (I2.stkSub b hm)with z|z
   ·exact f1 z
   ·exact fx z
 have eX:Y.xe=notedBy (model X.prog X.w) X.A Y.env fun e s'=>compPost (model X.prog X.w) X.A X.xe use Q' (.ref D) A (.error e) s':=by rw[eN,←hY];show XE A=_;rw[hXE]
 have hGY:PG Y tg (gTg G g):=by rw[←hY];exact hG A fp s3 _ _
 have hEY:ad1 G Y ifs elt f:=by rw[←hY];exact hE A fp s3 _ _
 have back:∀{pins':List (Addr×Obj)}{σ':St}{Hc:Hp}{s':Shared},Inv Y pins' σ' Hc s'→Inv X pins σV Hc s'∧aeb X pins Hc A:=fun {pins' σ' Hc s'} Ic=>by
  have un:Un (frs X.stack) fp (upd H2 D (.lst [])) Hc s3.heap s'.heap:=by
   have:=Ic.base
   subst hY
   exact this
  have hcA:Hc A=none:=by have:=Ic.free;rw[eL]at this;exact this
  have hok:HOk X.prog X.w Hc s'.heap:=by rw[←eP,←eW];exact Ic.hok
  have os:s'.os=s3.os:=by have:=Ic.os;subst hY;exact this
  exact⟨I3.call' (s':=s') (ch:=fp) os un hok Ic.bare fun b hb=>⟨(f2 b hb).2.2.2.1,(f2 b hb).2.1,(f2 b hb).2.2.2.2.1,(f2 b hb).2.2.2.2.2⟩,
   by rw[←hA];exact I3.fpOk (Nat.le_refl _) (by rw[hA];exact hcA)⟩
 have hHD:H D=none:=by
  cases e:H D with
  | none=>rfl
  | some o=>exact absurd hfD (L2.some_ D (by rw[e];intro z;cases z))
 have aaC:∀{pins':List (Addr×Obj)}{σ':St}{Hc:Hp}{c:Nat}{u:Value}{sh:Shared},aaV G Y pins' σ' Hc c u sh→(∀sh',aaV G X pins σV Hc c u sh'→X.xe u sh')→Y.xe u sh:=fun {pins' σ' Hc c u sh} Th hx=>by
  rw[eX]
  obtain⟨env0,outer0,L0,q1,q2,q3⟩:=hfr
  have z:=ac4 (X:=Y) (E:=fun e s'=>compPost (model X.prog X.w) X.A X.xe use Q' (.ref D) A (.error e) s') (Q:=fun _ s''=>compPost (model X.prog X.w) X.A X.xe use Q' (.ref D) A (.error u) s'') ⟨env0,outer0,L0,eS.trans q1,q2,eF.trans q3⟩ Th fun e h B h1 t L eu I F sb hh=>?_
  ·rw[eP,eW,eA]at z
   exact z
  ·subst eu
   rw[eS]at F hh
   rw[eB]at sb
   obtain⟨IX,fA⟩:=back I
   obtain⟨m,⟨o,es,ep,ho,hd,r⟩,_⟩:=I.loc
   rw[eL]at ho
   have Afr:A∉frs X.stack:=fun z=>by
    rcases List.mem_cons.mp (IX.stkSub A z)with z|z
    ·exact fA.2.1 z
    ·exact fA.2.2.1 z
   have hA1:=F.keep A o ho Afr
   have hAb:∀o,X.base.get? A≠some o:=fun o q=>by
    have:=Heap.lt_size (I3.bk A o q)
    rw[hA]at this
    exact absurd this (Nat.lt_irrefl _)
   have hns:h1.Ns A m:=⟨o,es,ep,hA1,hd,r⟩
   have fin:∀h',Heap.SameBut A h1 h'→∀cenv:Env,cenv.locals=A→wpAny (model X.prog X.w) X.A (passOn "comprehension.variables-let-go" (.ref e) cenv:Sem Value) (fun _ _=>False) X.xe { sh with heap:=h' }:=fun h' hs cenv _=>
    af9 IX fA hAb F sb hh ⟨o,hA1,fun vs q=>by rw[hd]at q;cases q⟩ hs hx
   cases use<;>exact⟨m,hns,fin⟩
 have loop:∀s4:Shared,s4={ s3 with heap:=h₁,toks:=s3.toks+([]:List (Str×Value)).length }→
   codeAny (model X.prog X.w) X.A (.compLoop (.ListComp elt [⟨tg,iter,ifs,0⟩] scope pos) 0 (.ref it) (.ref D) Y.env) (compPost (model X.prog X.w) X.A X.xe use Q' (.ref D) A) s4:=by
  rintro s4 rfl
  refine codeAny_loop rfl (fun n s'=>∃(i:Nat) (Hc:Hp) (wc:Wo) (stc':Sto) (accT:List IP.T) (accV:List V),n=ts.length-i∧i≤ts.length∧Inv Y [] (clr σV (slots g)) Hc s'∧tn i s'.heap∧(∀b∈fp,Hc b=none)∧
    Le w2 wc H2 Hc∧StoOk G wc Hc stc'∧Hc D=some (.lst accV)∧aah G wc Hc accT accV∧¬wc.Z D∧notLoc wc D∧accT.length≤i∧
    KK stc'∧adr G X σV w H Q accT (aa0 (fun t s=>onO (aaq σ g t) fun σ'=>kp (f σ' s)) (ts.drop i) stc')) ?_ ts.length
   ⟨0,upd H2 D (.lst []),w2,stc,[],[],rfl,Nat.zero_le _,I4,tn4,fun b hb=>by rw[aag (fpD b hb)];exact(f2 b hb).1,Le.new hfD _,S2.new hfD _,aax,rfl,(S2.fresh hfD).1,(S2.fresh hfD).2,Nat.le_refl _,hK,hm⟩
  rintro n s' ⟨i,Hc,wc,stc',accT,accV,hn,hi,Ic,tc,fc,Lc,Sc,hDc,rc,nz,nl,hal,hKc,hmr⟩
  have SOc:aiW G wc Hc stc' J ts:=now wc Hc stc' Lc Sc hKc
  show wpAny _ X.A ((compTurn (.ListComp elt [⟨tg,iter,ifs,0⟩] scope pos) 0 (.ref it) (.ref D) Y.env).onRaise (fun x=>do noteFrame x Y.env;theTreesLotGoes x)) _ _ s'
  refine wpAny_noted ?_
  rw[compTurn_list]
  refine wpAny_bind (wpAny_standAt (wpAny_bind ?_))
  by_cases hlt:i<ts.length
  ·have et:ts[i]?=some ts[i]:=List.getElem?_eq_getElem hlt
   have ed:ts.drop i=ts[i]::ts.drop (i+1):=List.drop_eq_getElem_cons hlt
   rw[ed]at hmr
   obtain⟨σ',hb⟩:∃σ',aaq σ g ts[i]=some σ':=by
    rcases abH hmr with⟨o,s1,q,_⟩|⟨c,s1,q,_⟩
    ·obtain⟨a,q,_⟩:=agq q;exact⟨a,q⟩
    ·obtain⟨a,q,_⟩:=abX q;exact⟨a,q⟩
   obtain⟨go,yld⟩:=SOc.1 _ _ et
   have hsm:=SOc.2.2 _ _ _ _ Ic
   have z:=T.item Y eP eW eK eC i [] s' (clr σV (slots g)) Hc (notedBy (model X.prog X.w) X.A Y.env fun e s'=>compPost (model X.prog X.w) X.A X.xe use Q' (.ref D) A (.error e) s') Ic (stat fc) tc go
   rw[eA]at z
   refine thn z fun r s5 ⟨u,hr,h5⟩=>?_
   subst hr
   refine wpAny_bind (thn h5 fun _ s6 ⟨x,H6,I6,r6,y6,t6,f6⟩=>?_)
   obtain⟨w6,L6,S6,rx⟩:=yld x H6 y6
   have rc:=aah.mono L6 Sc _ _ rc
   have Lc:=Lc.trans L6
   have nz:¬w6.Z D:=fun z=>by
    rcases L6.newZ D z with z|z
    ·exact nz z
    ·rw[hDc]at z;cases z
   have hD6:=L6.keep D _ hDc nl
   have nl:=notLoc.mono L6 (by rw[hDc];intro z;cases z) nl
   have hDc:=hD6
   have Sc:=S6
   have I6':=I6.pinned (stat f6) (T.obj _ _ t6)
   have hgd:Good G w₀ H₀ w6 H6 σ stc' σV:=(gd.step L2 S2).step Lc Sc
   have zg:=hGY _ s6 (clr σV (slots g)) H6 x u (fun σ7 H7=>H7=H6∧∃vs,σ7=abk σV (slots g) vs∧FrOk G w6 H6 H₀ σ' (abk σV (slots g) vs)) I6' r6
    ⟨w6,stc',ts[i],σ,σ',Sc,rx,hb,fun vs hfr hl=>⟨rfl,vs,ae5 hnd hl.symm,hfr H₀ σV hgd.fr⟩⟩
   rw[eP,eW,eA]at zg
   rw[eX]at zg
   refine wpAny_bind (thn zg fun _ s7 ⟨σ7,H7,I7,eH7,vs,e7,F7⟩=>?_)
   obtain rfl:H6=H7:=eH7.symm
   subst e7
   have okc:∀o st1,f σ' stc'=.ok o st1→KK st1∧adr G X σV w H Q (accT++afT o []) (aa0 (fun t s=>onO (aaq σ g t) fun σ'=>kp (f σ' s)) (ts.drop (i+1)) st1):=fun o st1 e=>by
    rcases abH hmr with⟨o2,s2,q,h⟩|⟨c,s2,q,_⟩
    ·obtain⟨a,q1,q2⟩:=agq q
     rw[hb]at q1;cases q1
     obtain⟨q3,q4⟩:=(hkp _).1 _ _ q2
     rw[e]at q3;cases q3
     exact⟨q4,h⟩
    ·obtain⟨a,q1,q2⟩:=abX q
     rw[hb]at q1;cases q1
     have q3:=(hkp _).2 _ _ q2
     rw[e]at q3;cases q3
   have zt:=hEY _ s7 _ H6 w₀ H₀ w6 σ' stc' (fun vo H8=>∃w8 o st1,f σ' stc'=.ok o st1∧Le w6 w8 H6 H8∧StoOk G w8 H8 st1∧awC G w8 H8 o vo) I7 ⟨Sc,F7,hgd.ent⟩ (by
    cases hf:f σ' stc' with
    | ok o st1=>exact fun w8 H8 vo L8 S8 R8=>⟨w8,o,st1,rfl,L8,S8,R8⟩
    | stuck=>
     rcases abH hmr with⟨o2,s2,q,h⟩|⟨c,s2,q,_⟩
     ·obtain⟨a,q1,q2⟩:=agq q
      rw[hb]at q1;cases q1
      have:=((hkp _).1 _ _ q2).1
      rw[hf]at this;cases this
     ·obtain⟨a,q1,q2⟩:=abX q
      rw[hb]at q1;cases q1
      have:=(hkp _).2 _ _ q2
      rw[hf]at this;cases this
    | exc c s1=>
     rcases abH hmr with⟨o2,s2,q,h⟩|⟨c,s2,q,h⟩
     ·obtain⟨a,q1,q2⟩:=agq q
      rw[hb]at q1;cases q1
      have:=((hkp _).1 _ _ q2).1
      rw[hf]at this;cases this
     ·obtain⟨a,q1,q2⟩:=abX q
      rw[hb]at q1;cases q1
      have:=(hkp _).2 _ _ q2
      rw[hf]at this;cases this
      exact fun w8 H8 pins8 u8 sh8 L8 S8 T8=>aaC T8 fun sh'=>h w8 H8 pins u8 sh' (L2.trans (Lc.trans L8)) S8)
   rw[eP,eW,eA,eX]at zt
   have next:∀(st1:Sto) (s8:Shared) (H8:Hp) (w8:Wo) (accT':List IP.T) (accV':List V),KK st1→Inv Y ([]++ady fp s6.heap) (abk σV (slots g) vs) H8 s8→Le w2 w8 H2 H8→StoOk G w8 H8 st1→H8 D=some (.lst accV')→aah G w8 H8 accT' accV'→¬w8.Z D→notLoc w8 D→accT'.length≤i+1→adr G X σV w H Q accT' (aa0 (fun t s=>onO (aaq σ g t) fun σ'=>kp (f σ' s)) (ts.drop (i+1)) st1)→
     ∃m,m<n∧∃(i:Nat) (H6:Hp) (w6:Wo) (stc':Sto) (accT:List IP.T) (accV:List V),m=ts.length-i∧i≤ts.length∧Inv Y [] (clr σV (slots g)) H6 s8∧tn i s8.heap∧(∀b∈fp,H6 b=none)∧
      Le w2 w6 H2 H6∧StoOk G w6 H6 stc'∧H6 D=some (.lst accV)∧aah G w6 H6 accT accV∧¬w6.Z D∧notLoc w6 D∧accT.length≤i∧
      KK stc'∧adr G X σV w H Q accT (aa0 (fun t s=>onO (aaq σ g t) fun σ'=>kp (f σ' s)) (ts.drop i) stc'):=by
    intro st1 s8 H8 w8 accT' accV' hK1 I8 L8 S8 hD8 r8 nz8 nl8 hl8 hq8
    have hpin:∀b∈fp,∀o,s6.heap.get? b=some o→s8.heap.get? b=some o∧H8 b=none:=fun b hb o e=>by
     have:=I8.pin (b,o) (List.mem_append_right _ (List.mem_append_right _ (acs hb e)))
     exact⟨this.1,this.2.1⟩
    refine⟨ts.length-(i+1),by omega,i+1,H8,w8,st1,accT',accV',rfl,hlt,?_,T.keep _ _ _ t6 fun b hb o e=>(hpin b hb o e).1,fun b hb=>?_,L8,S8,hD8,r8,nz8,nl8,hl8,hK1,hq8⟩
    ·refine Inv.unpinned (pins:=[]) (pl:=ady fp s6.heap) (I8.weak ?_ fun j v e=>?_)
     ·rw[ah5,aeH]
     ·obtain⟨e1,e2⟩:=aiy _ _ _ _ e
      rw[aeS e2]
      exact e1
    ·obtain⟨o,e,_⟩:=T.obj _ _ t6 b hb
     exact(hpin b hb o e).2
   refine wpAny_bind (thn zt fun ok s8 h8=>?_)
   have nzD:∀{w8:Wo}{H8:Hp},Le w6 w8 H6 H8→¬w8.Z D:=fun L8 z=>by
    rcases L8.newZ D z with z|z
    ·exact nz z
    ·rw[hDc]at z;cases z
   have nlD:∀{w8:Wo}{H8:Hp},Le w6 w8 H6 H8→notLoc w8 D:=fun L8=>notLoc.mono L8 (by rw[hDc];intro z;cases z) nl
   cases ok with
   | false=>
    simp only[Bool.false_eq_true,if_false]at h8 ⊢
    obtain⟨H8,I8,w8,o,st1,hfo,L8,S8,R8⟩:=h8
    obtain⟨hK1,hm1⟩:=okc o st1 hfo
    have eo:o=none:=by cases o with|none=>rfl|some t=>exact R8.elim
    subst eo
    rw[agY,List.append_nil]at hm1
    exact wpAny_pure ⟨rfl,next st1 s8 H8 w8 accT accV hK1 I8 (Lc.trans L8) S8 (L8.keep D _ hDc nl) (aah.mono L8 Sc _ _ rc) (nzD L8) (nlD L8) (by omega) hm1⟩
   | true=>
    simp only[if_true]at h8 ⊢
    refine wpAny_bind (wpAny_bind (thn h8 fun u9 s9 ⟨v9,H9,I9,r9,w9,o,st1,hfo,L9,S9,R9⟩=>?_))
    obtain⟨hK1,hm1⟩:=okc o st1 hfo
    have eo:∃t9,o=some t9:=by cases o with|none=>exact R9.elim|some t=>exact⟨t,rfl⟩
    obtain⟨t9,rfl⟩:=eo
    have R9:Rep G w9 H9 t9 v9:=R9
    have hD9:=L9.keep D _ hDc nl
    have hlen:accV.length<sizeLine:=by
     rw[←rc.length]
     have:=hsm
     omega
    have za:=akc (E:=notedBy (model X.prog X.w) X.A Y.env fun e s'=>compPost (model X.prog X.w) X.A X.xe use Q' (.ref D) A (.error e) s') I9 r9 hD9 hlen fun s10 I10=>
     next st1 s10 _ w9 (accT++[t9]) (accV++[v9]) hK1 I10 ((Lc.trans L9).updNew hfD (by rw[hD9];intro z;cases z)) (S9.upd hD9 (nzD L9) (nlD L9)) aax
      (aah.upd hD9 (nzD L9) _ _ ((aah.mono L9 Sc _ _ rc).append ⟨v9,[],rfl,R9,rfl⟩)) (nzD L9) (nlD L9) (by rw[List.length_append,List.length_singleton];omega) hm1
    rw[eP,eW,eA]at za
    exact wpAny_bind (thn za fun _ s10 h10=>wpAny_pure (wpAny_pure ⟨rfl,h10⟩))
  ·have ei:i=ts.length:=by omega
   subst ei
   rw[List.drop_length]at hmr
   have hmr:∀w' H' a vs,Le w w' H H'→StoOk G w' H' stc'→H' a=some (.lst vs)→aah G w' H' (accT++[]) vs→H a=none→¬w'.Z a→notLoc w' a→Q (.ref a) H':=hmr
   rw[List.append_nil]at hmr
   have z:=T.done Y eP eW eK eC ts.length [] s' (clr σV (slots g)) Hc (notedBy (model X.prog X.w) X.A Y.env fun e s'=>compPost (model X.prog X.w) X.A X.xe use Q' (.ref D) A (.error e) s') Ic (stat fc) tc SOc.2.1
   rw[eA]at z
   refine thn z fun r s5 ⟨hr,I5⟩=>?_
   subst hr
   obtain⟨m5,hm5,_⟩:=I5.loc
   rw[eL]at hm5
   exact wpAny_pure (hfin s5 Hc A D (back I5).1 (back I5).2 ⟨m5,hm5⟩ (hmr wc Hc D accV (L2.trans Lc) Sc hDc rc hHD nz nl))
 show codeAny (model X.prog X.w) X.A (.compStart (.ListComp elt [⟨tg,iter,ifs,0⟩] scope pos) 0 (.ref it) (.ref D) (compEnvC scope (clo X.env.cells scope.names []) A X.env)) (compPost (model X.prog X.w) X.A X.xe use Q' (.ref D) A) _
 rw[←eN]
 exact codeAny_compStart_list (loop _ rfl) (T.self _ 0 _ _ _ tn4 (loop _ rfl))
theorem aeB(hfr:afL X)(hc:X.calm=true)(hN:CompN X scope N' (slots g))(hnd:(slots g).Nodup)(hI:PI X tg iter (tI G X C it' .i false))
  (hG:∀A fp s2 H2 xe,PG (cxC X N' scope A fp s2 H2 xe) tg (gTg G g)) (hE:∀A fp s2 H2 xe,ad1 G (cxC X N' scope A fp s2 H2 xe) ifs elt f) (hs:∀x,foldedSetIterable iter X.env x=pure x)
  {pins:List (Addr×Obj)}{s:Shared}{σV:St}{H:Hp}{w₀ w:Wo}{H₀:Hp}{σ:Fr}{st:Sto}{Q:VK} (I:Inv X pins σV H s) (gd:Good G w₀ H₀ w H σ st σV)
  (h:aaL G X σV w H ((ev C it' .i σ st).bind fun x s1=>onL x fun ts=>(aa0 (fun t s=>onO (aaq σ g t) fun σ'=>f σ' s) ts s1).bind fun q s2=>.ok (.val (.lst q)) s2) Q)
  {use:Option (Value→Sem Unit)}{Q':Value→Shared→Prop}
  (hfin:∀(s':Shared) (Hc:Hp) (A D:Addr),Inv X pins σV Hc s'→aeb X pins Hc A→(∃m,s'.heap.Ns A m)→Q (.ref D) Hc→compPost (model X.prog X.w) X.A X.xe use Q' (.ref D) A (.ok .next) s'):
  wpAny (model X.prog X.w) X.A (comprehension (.ListComp elt [⟨tg,iter,ifs,0⟩] scope pos) scope X.env (firstIterPos [⟨tg,iter,ifs,0⟩] pos) (newList []) false (eval iter X.env) use) Q' X.xe s:=by
 refine agS hfr hc hN hnd hI hG hE hs I gd ?_ hfin
 refine⟨w₀,H₀,w,σ,st,gd,?_⟩
 cases he:ev C it' .i σ st with
 | stuck=>rw[he]at h;exact h
 | exc c s1=>rw[he]at h;exact h
 | ok x s1=>
  rw[he]at h
  match x,h with
  | .val (.lst ts),h=>
   intro w2 H2 src L S SO
   have h:aaL G X σV w H ((aa0 (fun t s=>onO (aaq σ g t) fun σ'=>f σ' s) ts s1).bind fun q s2=>.ok (.val (.lst q)) s2) Q:=h
   refine⟨w2,ts,s1,fun _=>True,id,L,S,fun w' H' s' L' S' _=>(SO.mono L' S).now.walked S',trivial,fun r=>⟨fun o s' e=>⟨e,trivial⟩,fun c s' e=>e⟩,?_⟩
   cases hm:aa0 (fun t s=>onO (aaq σ g t) fun σ'=>f σ' s) ts s1 with
   | stuck=>rw[hm]at h;exact h.elim
   | exc c s2=>rw[hm]at h;show adr G X σV w H Q [] (aa0 (fun t s=>onO (aaq σ g t) fun σ'=>f σ' s) ts s1);rw[hm];exact h
   | ok q st'=>rw[hm]at h;show adr G X σV w H Q [] (aa0 (fun t s=>onO (aaq σ g t) fun σ'=>f σ' s) ts s1);rw[hm];exact h
  | .val .non,h=>exact h.elim
  | .val (.bl _),h=>exact h.elim
  | .val (.int _),h=>exact h.elim
  | .val (.str _),h=>exact h.elim
  | .val (.tup _),h=>exact h.elim
  | .val (.loc _),h=>exact h.elim
  | .val (.exc _),h=>exact h.elim
  | .bor _,h=>exact h.elim
theorem awx{pins:List (Addr×Obj)}{s:Shared}{σV:St}{H:Hp}{A:Addr}{h':Heap}(I:Inv X pins σV H s)(fA:aeb X pins H A)(sb:Heap.SameBut A s.heap h'):Inv X pins σV H { s with heap:=h' }:=
 I.turned (t':=s.toks) (fun b o ne e=>(sb.2 b ne).trans e) fA.1 fA.2.1 fA.2.2.2.1 fA.2.2.2.2.1 fA.2.2.2.2.2
theorem akg(hc:X.calm=true)(hN:CompN X scope N' (slots g))(hnd:(slots g).Nodup)(hI:PI X tg iter (tI G X C it' .i false))
  (hG:∀A fp s2 H2 xe,PG (cxC X N' scope A fp s2 H2 xe) tg (gTg G g)) (hE:∀A fp s2 H2 xe,ad1 G (cxC X N' scope A fp s2 H2 xe) ifs elt f) (hs:∀x,foldedSetIterable iter X.env x=pure x)
  (hev:∀σ s,ev C ce .v σ s=(ev C it' .i σ s).bind fun x s1=>onL x fun ts=>(aa0 (fun t s=>onO (aaq σ g t) fun σ'=>f σ' s) ts s1).bind fun q s2=>.ok (.val (.lst q)) s2) (hfr:afL X:=by exact⟨_,_,_,rfl,rfl,rfl⟩):
  PE X (.ListComp elt [⟨tg,iter,ifs,0⟩] scope pos) (tO G X C ce):=by
 rintro pins s σV H Q I ⟨w₀,H₀,w,σ,st,gd,h⟩
 rw[hev]at h
 rw[eval_ListComp]
 refine aeB hfr hc hN hnd hI hG hE hs I gd h (use:=none) fun s' Hc A D I' fA ⟨m,hm⟩ q=>?_
 exact⟨m,hm,fun h' sb=>⟨.ref D,Hc,awx I' fA sb,rfl,q⟩⟩
theorem ajG{y:Str}{py spos:Pos}{i:Nat}(hc:X.calm=true)(hN:CompN X scope N' (slots g))(hnd:(slots g).Nodup)(hI:PI X tg iter (tI G X C it' .i false))
  (hG:∀A fp s2 H2 xe,PG (cxC X N' scope A fp s2 H2 xe) tg (gTg G g)) (hE:∀A fp s2 H2 xe,ad1 G (cxC X N' scope A fp s2 H2 xe) ifs elt f) (hs:∀x,foldedSetIterable iter X.env x=pure x)
  (hev:∀σ s,ev C ce .v σ s=(ev C it' .i σ s).bind fun x s1=>onL x fun ts=>(aa0 (fun t s=>onO (aaq σ g t) fun σ'=>f σ' s) ts s1).bind fun q s2=>.ok (.val (.lst q)) s2)
  (hsw:swapsWith (.ListComp elt [⟨tg,iter,ifs,0⟩] scope pos) (some (.Name y py)) spos.line X.env=pure true) (hXN:X.N.Nodup) (hi:X.N[i]?=some y) (hy:X.env.scope.names.lookup y=some .local) (hfr:afL X:=by exact⟨_,_,_,rfl,rfl,rfl⟩):
  PS X (.Assign [.Name y py] (.ListComp elt [⟨tg,iter,ifs,0⟩] scope pos) spos) (fun D σV H=>tO G X C ce σV H fun v H1=>D.nx (σV.set i (some v)) H1):=by
 rintro pins s σV H DD I ⟨w₀,H₀,w,σ,st,gd,h⟩
 rw[hev]at h
 rw[exec_Assign_Name_used _ _ _ _ hsw]
 refine wpAny_bind (wpAny_standAt (wpAny_bind ?_))
 show wpAny _ X.A (do let _ ←comprehension (.ListComp elt [⟨tg,iter,ifs,0⟩] scope pos) scope X.env _ (newList []) false (eval iter X.env) (some (assign (.Name y py) X.env))) _ _ s
 refine wpAny_bind (thn (aeB (pos:=pos) hfr hc hN hnd hI hG hE hs I gd h (use:=some (assign (.Name y py) X.env)) (Q':=fun _ s'=>SP X pins DD .next s') fun s' Hc A D I' fA ⟨m,hm⟩ q=>?_) fun _ s' hq=>wpAny_pure (wpAny_pure hq))
 refine wpAny_assign_Name (aeL (v:=.ref D) I' hXN hi (.inl hy) rfl (fun s'' I'' ⟨a,sb,ha⟩=>?_) (.inr hy))
 have neA:A≠a:=fun z=>by
  subst z
  rcases ha with ha|ha
  ·exact fA.2.1 ha
  ·exact fA.2.2.2.2.1 y _ ha rfl
 refine⟨m,?_,fun h' sb'=>?_⟩
 ·obtain⟨o,es,ep,e,r⟩:=hm
  exact⟨o,es,ep,(sb.2 A neA).trans e,r⟩
 ·exact⟨_,Hc,awx I'' fA sb',q⟩
theorem aic{Y:Cx}{elt:Expr}{e':E}(hE:PE Y elt (tV G Y C e')):ad1 G Y [] elt (fun σ st=>one (ev C e' .v σ st)):=by
 intro pins s σV H w₀ H₀ w σ st Q I gd hf
 refine wpAny_tests_nil ?_
 rw[if_pos rfl]
 dsimp only at hf
 refine hE pins s σV H (fun v H'=>Q (some v) H') I ⟨w₀,H₀,w,σ,st,gd,?_⟩
 cases he:ev C e' .v σ st with
 | stuck=>rw[he]at hf;exact hf
 | exc c s1=>rw[he]at hf;exact hf
 | ok r s1=>
  rw[he]at hf
  match r,hf with
  | .val t,hf=>exact fun w' H' v L S R=>hf w' H' (some v) L S R
  | .bor ts,hf=>exact hf.elim
end
def Own(σ:Fr)(σV:St)(a:Addr):Prop:=∃(i:Nat) (ts:List T),σ[i]?=some (some (.own ts))∧σV[i]?=some (some (.ref a))
structure LeS(w w':Wo)(H H':Hp)(σ σ':Fr)(σV σV':St):Prop where
 n:w.n≤w'.n
 io:∀l,l<w.n→w'.io l=w.io l
 Z:∀a,w.Z a→w'.Z a
 keep:∀a o,H a=some o→notLoc w a→¬Own σ σV a→H' a=some o
 newL:∀l,w.n≤l→l<w'.n→H (w'.io l)=none
 some_:∀a,H a≠none→H' a≠none
 own:∀a,Own σ' σV' a→Own σ σV a∨H a=none
 lk:∀(i:Nat) (ts:List T),σ'[i]?=some (some (.lck ts))→(∃us,σ[i]?=some (some (.lck us)))∧σV'[i]?=σV[i]?
section
variable{G:Gx}{X:Cx}{C:Cf}{w w' w₀:Wo}{H H' H₀:Hp}{σ σ':Fr}{σV σV':St}
theorem LeS.refl:LeS w w H H σ σ σV σV:=⟨Nat.le_refl _,fun _ _=>rfl,fun _ z=>z,fun _ _ e _ _=>e,fun l a b=>absurd (Nat.lt_of_lt_of_le b a) (Nat.lt_irrefl _),fun _ z=>z,fun _ z=>.inl z,fun i ts e=>⟨⟨ts,e⟩,rfl⟩⟩
theorem LeS.notLoc(L:LeS w w' H H' σ σ' σV σV'){a:Addr}(h:H a≠none)(nl:IP.notLoc w a):IP.notLoc w' a:=fun l hl q=>by
 by_cases k:l<w.n
 ·exact nl l k (q.trans (L.io l k))
 ·have:=L.newL l (Nat.le_of_not_lt k) hl
  rw[←q]at this
  exact h this
theorem LeS.trans{w2:Wo}{H2:Hp}{σ2:Fr}{σV2:St}(a:LeS w w' H H' σ σ' σV σV')(b:LeS w' w2 H' H2 σ' σ2 σV' σV2):LeS w w2 H H2 σ σ2 σV σV2 where
 n:=Nat.le_trans a.n b.n
 io:=fun l h=>(b.io l (Nat.lt_of_lt_of_le h a.n)).trans (a.io l h)
 Z:=fun x z=>b.Z x (a.Z x z)
 keep:=fun x o e nl no=>by
  have hn:H x≠none:=by rw[e];intro z;cases z
  refine b.keep x o (a.keep x o e nl no) (a.notLoc hn nl) fun z=>?_
  rcases a.own x z with z|z
  ·exact no z
  ·exact hn z
 newL:=fun l h1 h2=>by
  by_cases h:l<w'.n
  ·rw[b.io l h]
   exact a.newL l h1 h
  ·have q:=b.newL l (Nat.le_of_not_lt h) h2
   cases e:H (w2.io l)with
   | none=>rfl
   | some o=>exact absurd q (a.some_ _ (by rw[e];intro z;cases z))
 some_:=fun x z=>b.some_ x (a.some_ x z)
 own:=fun x z=>by
  rcases b.own x z with z|z
  ·exact a.own x z
  ·refine .inr ?_
   cases e:H x with
   | none=>rfl
   | some o=>exact absurd z (a.some_ x (by rw[e];intro q;cases q))
 lk:=fun i ts e=>by
  obtain⟨⟨us,h1⟩,h2⟩:=b.lk i ts e
  obtain⟨h3,h4⟩:=a.lk i us h1
  exact⟨h3,h2.trans h4⟩
theorem LeS.of(L:Le w w' H H'):LeS w w' H H' σ σ σV σV:=⟨L.n,L.io,L.Z,fun a o e nl _=>L.keep a o e nl,L.newL,L.some_,fun _ z=>.inl z,fun i ts e=>⟨⟨ts,e⟩,rfl⟩⟩
structure Kp(w w':Wo)(H H':Hp):Prop where
 n:w.n≤w'.n
 io:∀l,l<w.n→w'.io l=w.io l
 Z:∀a,w.Z a→w'.Z a
 z:∀a u,w.Z a→Rd H a u→Rd H' a u
 t:∀a vs,H a=some (.tup vs)→H' a=some (.tup vs)
 x:∀a φ,H a=some (.ext φ)→H' a=some (.ext φ)
mutual
theorem Rep.kp(L:Kp w w' H H'):∀(t:T) (v:V),Rep G w H t v→Rep G w' H' t v
 | .non,v,h=>h
 | .bl b,v,h=>h
 | .int i,v,h=>h
 | .str x,v,h=>h
 | .tup ts,v,⟨a,vs,e,h,r⟩=>⟨a,vs,e,L.t _ _ h,aah.kp L ts vs r⟩
 | .lst ts,v,⟨a,vs,e,z,h,r⟩=>⟨a,vs,e,L.Z _ z,L.z _ _ z h,aah.kp L ts vs r⟩
 | .loc l,v,⟨h,e⟩=>⟨Nat.lt_of_lt_of_le h L.n,by rw[L.io l h];exact e⟩
 | .exc c,v,⟨a,e,h⟩=>⟨a,e,L.x _ _ h⟩
theorem aah.kp(L:Kp w w' H H'):∀(ts:List T) (vs:List V),aah G w H ts vs→aah G w' H' ts vs
 | [],vs,h=>h
 | t::ts,vs,⟨v,r,e,h,q⟩=>⟨v,r,e,Rep.kp L t v h,aah.kp L ts r q⟩
end
theorem FrOk.notOwnZ(F:FrOk G w H H₀ σ σV){a:Addr}(z:w.Z a):¬Own σ σV a:=fun⟨i,ts,e1,e2⟩=>by
 obtain⟨b,vs,h1,_,_,_,h5,_⟩:=F.own i _ ts e1 rfl
 rw[e2]at h1
 cases h1
 exact h5 z
theorem FrOk.notOwnT(F:FrOk G w H H₀ σ σV){a:Addr}{o:HO}(e:H a=some o)(h:∀vs,o≠.lst vs):¬Own σ σV a:=fun⟨i,ts,e1,e2⟩=>by
 obtain⟨b,vs,h1,h2,_⟩:=F.own i _ ts e1 rfl
 rw[e2]at h1
 cases h1
 rw[e]at h2
 exact h vs (Option.some.inj h2)
theorem LeS.kp{s:Sto}(L:LeS w w' H H' σ σ' σV σV')(S:StoOk G w H s)(F:FrOk G w H H₀ σ σV):Kp w w' H H' where
 n:=L.n
 io:=L.io
 Z:=L.Z
 z:=fun a u z r=>by
  have no:=F.notOwnZ z
  rcases r with r|⟨o,r⟩
  ·exact .inl (L.keep _ _ r (S.zLoc z) no)
  ·exact .inr ⟨o,L.keep _ _ r (S.zLoc z) no⟩
 t:=fun a vs e=>L.keep _ _ e (S.notLoc e (fun _ z=>by cases z) fun _ _ _ z=>by cases z) (F.notOwnT e fun _ z=>by cases z)
 x:=fun a φ e=>L.keep _ _ e (S.notLoc e (fun _ z=>by cases z) fun _ _ _ z=>by cases z) (F.notOwnT e fun _ z=>by cases z)
def aan(G:Gx)(X:Cx)(w₀:Wo)(H₀:Hp)(w:Wo)(H:Hp)(σ:Fr)(σV:St)(res:SR)(D:Ends):Prop:=match res with
 | .stuck=>False
 | .next σ' s'=>∀w' H' σV',Good G w₀ H₀ w' H' σ' s' σV'→LeS w w' H H' σ σ' σV σV'→D.nx σV' H'
 | .ret r s'=>∀w' H' v,StoOk G w' H' s'→aaX G w' H' r v→Le w₀ w' H₀ H'→D.rt v H'
 | .retO ts s'=>∀w' H' a vs,StoOk G w' H' s'→H' a=some (.lst vs)→aah G w' H' ts vs→H₀ a=none→¬w'.Z a→notLoc w' a→Le w₀ w' H₀ H'→D.rt (.ref a) H'
 | .exc c σ' s'=>∀w' H' σV' pins u sh,Good G w₀ H₀ w' H' σ' s' σV'→LeS w w' H H' σ σ' σV σV'→aaV G X pins σV' H' c u sh→X.xe u sh
def tS(G:Gx)(X:Cx)(C:Cf)(a:S):TS:=fun D σV H=>∃w₀ H₀ w σ s,Good G w₀ H₀ w H σ s σV∧aan G X w₀ H₀ w H σ σV (ex C a σ s) D
def tSs(G:Gx)(X:Cx)(C:Cf)(a:List S):TS:=fun D σV H=>∃w₀ H₀ w σ s,Good G w₀ H₀ w H σ s σV∧aan G X w₀ H₀ w H σ σV (exs C a σ s) D
theorem PS.imp{st:Stmt}{t t':TS}(h:PS X st t)(q:∀D σ H,t' D σ H→t D σ H):PS X st t':=fun pins s σ H D I z=>h pins s σ H D I (q _ _ _ z)
theorem PSs.imp{st:List Stmt}{t t':TS}(h:PSs X st t)(q:∀D σ H,t' D σ H→t D σ H):PSs X st t':=fun pins s σ H D I z=>h pins s σ H D I (q _ _ _ z)
theorem aan.mono{res:SR}{D:Ends}(L:LeS w w' H H' σ σ' σV σV')(h:aan G X w₀ H₀ w H σ σV res D):aan G X w₀ H₀ w' H' σ' σV' res D:=by
 cases res with
 | stuck=>exact h
 | next σ2 s2=>exact fun w2 H2 σV2 g M=>h w2 H2 σV2 g (L.trans M)
 | ret r s2=>exact h
 | retO ts s2=>exact h
 | exc c σ2 s2=>exact fun w2 H2 σV2 pins u sh g M=>h w2 H2 σV2 pins u sh g (L.trans M)
theorem aan.bind{m:SR}{k:Fr→Sto→SR}{D:Ends}{u:TS}(h:aan G X w₀ H₀ w H σ σV (m.bind k) D)
  (hu:∀w1 H1 σ1 s1 σV1,Good G w₀ H₀ w1 H1 σ1 s1 σV1→aan G X w₀ H₀ w1 H1 σ1 σV1 (k σ1 s1) D→u D σV1 H1):aan G X w₀ H₀ w H σ σV m { D with nx:=u D }:=by
 cases m with
 | stuck=>exact h
 | next σ2 s2=>exact fun w2 H2 σV2 g L=>hu w2 H2 σ2 s2 σV2 g (aan.mono L h)
 | ret r s2=>exact h
 | retO ts s2=>exact h
 | exc c σ2 s2=>exact h
theorem amK:PSs X [] (tSs G X C []):=PSs.imp amD fun D σV H ⟨w₀,H₀,w,σ,s,g,h⟩=>h w H σV g LeS.refl
theorem akt{st:Stmt}{aat:List Stmt}{a:S}{as:List S}(h1:PS X st (tS G X C a))(h2:PSs X aat (tSs G X C as)):PSs X (st::aat) (tSs G X C (a::as)):=by
 refine PSs.imp (akp h1 h2) ?_
 rintro D σV H ⟨w₀,H₀,w,σ,s,g,h⟩
 refine⟨w₀,H₀,w,σ,s,g,aan.bind h fun w1 H1 σ1 s1 σV1 g1 h1=>?_⟩
 exact⟨w₀,H₀,w1,σ1,s1,g1,h1⟩
theorem abW{m:Res R}{k:R→Sto→SR}{D:Ends}{s:Sto}(g:Good G w₀ H₀ w H σ s σV)(h:aan G X w₀ H₀ w H σ σV (m.st σ k) D):
  aa4 G X σV w H m fun v H1=>∃w1 r s1,Le w w1 H H1∧StoOk G w1 H1 s1∧aaX G w1 H1 r v∧Good G w₀ H₀ w1 H1 σ s1 σV∧aan G X w₀ H₀ w1 H1 σ σV (k r s1) D:=by
 cases m with
 | stuck=>exact h
 | ok r s1=>exact fun w1 H1 v L S R=>⟨w1,r,s1,L,S,R,g.step L S,aan.mono (LeS.of L) h⟩
 | exc c s1=>exact fun w1 H1 pins u sh L S T=>h w1 H1 σV pins u sh (g.step L S) (LeS.of L) T
theorem abi{α:Type}{o:Option α}{f:α→SR}{D:Ends}(h:aan G X w₀ H₀ w H σ σV (onS o f) D):∃a,o=some a∧aan G X w₀ H₀ w H σ σV (f a) D:=by
 cases o with
 | none=>exact h.elim
 | some a=>exact⟨a,rfl,h⟩
theorem ad3{r:R}{t:T}(h:r.val?=some t):r=.val t:=by
 cases r with
 | val u=>cases h;rfl
 | bor u=>cases h
theorem ank{i:Nat}{b:Option B}{x:Option V}(hb:∀ts,b≠some (.own ts)){a:Addr}(h:Own (σ.set i b) (σV.set i x) a):Own σ σV a:=by
 obtain⟨j,ts,e1,e2⟩:=h
 by_cases hj:i=j
 ·subst hj
  have hlt:i<σ.length:=by
   have:=(List.getElem?_eq_some_iff.mp e1).1
   simpa using this
  rw[List.getElem?_set_self hlt]at e1
  exact absurd (Option.some.inj e1) (hb ts)
 ·rw[List.getElem?_set_ne hj]at e1 e2
  exact⟨j,ts,e1,e2⟩
theorem apP{i:Nat}{b:Option B}{x:Option V}(hb:∀ts,b≠some (.lck ts))(j:Nat)(ts:List T)(e:(σ.set i b)[j]?=some (some (.lck ts))):(∃us,σ[j]?=some (some (.lck us)))∧(σV.set i x)[j]?=σV[j]?:=by
 by_cases hj:i=j
 ·subst hj
  have hlt:i<σ.length:=by
   have:=(List.getElem?_eq_some_iff.mp e).1
   simpa using this
  rw[List.getElem?_set_self hlt]at e
  exact absurd (Option.some.inj e) (hb ts)
 ·rw[List.getElem?_set_ne hj]at e ⊢
  exact⟨⟨ts,e⟩,rfl⟩
theorem LeS.set{i:Nat}{b:Option B}{x:Option V}(hb:∀ts,b≠some (.own ts))(hb':∀ts,b≠some (.lck ts)):LeS w w H H σ (σ.set i b) σV (σV.set i x):=
 ⟨Nat.le_refl _,fun _ _=>rfl,fun _ z=>z,fun _ _ e _ _=>e,fun l a b=>absurd (Nat.lt_of_lt_of_le b a) (Nat.lt_irrefl _),fun _ z=>z,fun a z=>.inl (ank hb z),apP hb'⟩
theorem LeS.put{i:Nat}{t:T}{v:V}:LeS w w H H σ (IP.put σ i t) σV (σV.set i (some v)):=LeS.set (by intro ts z;cases z) (by intro ts z;cases z)
theorem Good.put{s:Sto}{i:Nat}{t:T}{v:V}(g:Good G w₀ H₀ w H σ s σV)(r:Rep G w H t v):Good G w₀ H₀ w H (IP.put σ i t) s (σV.set i (some v)):=⟨g.sto,g.fr.put r,g.ent⟩
variable{e:Expr}{e':E}{x:Str}{pos pos':Pos}{i:Nat}
theorem aq2(hN:X.N.Nodup)(hi:X.N[i]?=some x)(hx:Loc X.env.scope x)(he:PE X e (tV G X C e'))(hs:swapsWith e (some (.Name x pos')) pos.line X.env=pure false)(hf:X.fn x=true∨X.env.scope.names.lookup x=some .local):
  PS X (.Assign [.Name x pos'] e pos) (tS G X C (.asg i e')):=by
 refine PS.imp (akP hN hi hx he hs hf) ?_
 rintro D σV H ⟨w₀,H₀,w,σ,s,g,h⟩
 refine⟨w₀,H₀,w,σ,s,g,(abW g h).imp ?_⟩
 rintro v H1 ⟨w1,r,s1,L1,S1,R1,g1,h1⟩
 obtain⟨t,ht,h1⟩:=abi h1
 cases ad3 ht
 exact h1 w1 H1 _ (g1.put R1) LeS.put
theorem arp(he:PE X e (tV G X C e')):PS X (.Return (some e) pos) (tS G X C (.ret e')):=by
 refine PS.imp (ahD he) ?_
 rintro D σV H ⟨w₀,H₀,w,σ,s,g,h⟩
 refine⟨w₀,H₀,w,σ,s,g,(abW g h).imp ?_⟩
 rintro v H1 ⟨w1,r,s1,L1,S1,R1,g1,h1⟩
 exact h1 w1 H1 v S1 R1 g1.ent
theorem aqo(he:PE X e (tV G X C e'))(hs:swapsWith e none pos.line X.env=pure false):PS X (.Expr e pos) (tS G X C (.exp e')):=by
 refine PS.imp (ael he hs) ?_
 rintro D σV H ⟨w₀,H₀,w,σ,s,g,h⟩
 refine⟨w₀,H₀,w,σ,s,g,(abW g h).imp ?_⟩
 rintro v H1 ⟨w1,r,s1,L1,S1,R1,g1,h1⟩
 exact h1 w1 H1 σV g1 LeS.refl
theorem aoH{x:R}{v:V}{m n:SR}{D:Ends}(r:aaX G w H x v)(h:aan G X w₀ H₀ w H σ σV (arX x m n) D):∃k,v=.bl k∧aan G X w₀ H₀ w H σ σV (if k=true then m else n) D:=by
 match x,h with
 | .val (.bl true),h=>exact⟨true,r,h⟩
 | .val (.bl false),h=>exact⟨false,r,h⟩
 | .val .non,h=>exact h.elim
 | .val (.int _),h=>exact h.elim
 | .val (.str _),h=>exact h.elim
 | .val (.tup _),h=>exact h.elim
 | .val (.lst _),h=>exact h.elim
 | .val (.loc _),h=>exact h.elim
 | .val (.exc _),h=>exact h.elim
 | .bor _,h=>exact h.elim
theorem apV{c:Expr}{c':E}{a b:List Stmt}{a' b':List S}(hc:PT X c (tT G X C c'))(ha:PSs X a (tSs G X C a'))(hb:PSs X b (tSs G X C b')):PS X (.If c a b pos) (tS G X C (.ifs c' a' b')):=by
 refine PS.imp (atv hc ha hb) ?_
 rintro D σV H ⟨w₀,H₀,w,σ,s,g,h⟩
 refine⟨w₀,H₀,w,σ,s,g,(abW g h).imp ?_⟩
 rintro v H1 ⟨w1,r,s1,L1,S1,R1,g1,h1⟩
 obtain⟨k,rfl,h1⟩:=aoH R1 h1
 refine⟨k,rfl,?_⟩
 cases k with
 | true=>exact anw ⟨w₀,H₀,w1,σ,s1,g1,h1⟩
 | false=>exact ame ⟨w₀,H₀,w1,σ,s1,g1,h1⟩
end
section
variable{G:Gx}{X:Cx}{C:Cf}{w w' w₀:Wo}{H H' H₀:Hp}{σ σ':Fr}{σV σV':St}
theorem aap{α:Type}{l:List (Option α)}{i j:Nat}{b:Option α}{c:α}(h:(l.set i b)[j]?=some (some c)):(i=j∧b=some c∧i<l.length)∨(i≠j∧l[j]?=some (some c)):=by
 by_cases hj:i=j
 ·subst hj
  have hlt:i<l.length:=by
   have:=(List.getElem?_eq_some_iff.mp h).1
   simpa using this
  rw[List.getElem?_set_self hlt]at h
  exact .inl ⟨rfl,Option.some.inj h,hlt⟩
 ·rw[List.getElem?_set_ne hj]at h
  exact .inr ⟨hj,h⟩
theorem FrOk.mkO{i:Nat}{ts:List T}{a:Addr}{vs:List V}(F:FrOk G w H H₀ σ σV)(ha:H a=some (.lst vs))(r:aah G w H ts vs)(h0:H₀ a=none)(hz:¬w.Z a)(hl:notLoc w a)
  (hap:∀(j:Nat) (b:B) (us:List T),σ[j]?=some (some b)→ajs b=some us→σV[j]?≠some (some (.ref a))):FrOk G w H H₀ (aai σ i ts) (σV.set i (some (.ref a)))where
 len:=by unfold aai;simp[F.len]
 val:=fun j t e=>by
  rcases aap e with⟨_,z,_⟩|⟨ne,z⟩
  ·cases z
  ·obtain⟨v,h1,h2⟩:=F.val j t z
   exact⟨v,by rw[List.getElem?_set_ne ne];exact h1,h2⟩
 own:=fun j b us e eb=>by
  rcases aap e with⟨rfl,z,hlt⟩|⟨ne,z⟩
  ·cases z
   cases eb
   exact⟨a,vs,by rw[List.getElem?_set_self (by rw[←F.len];exact hlt)],ha,r,h0,hz,hl⟩
  ·obtain⟨p,us',h1,h2⟩:=F.own j b us z eb
   exact⟨p,us',by rw[List.getElem?_set_ne ne];exact h1,h2⟩
 apart:=fun j k b c us us' p hjk e1 eb e2 ec e3 e4=>by
  rcases aap e1 with⟨rfl,z,hlt⟩|⟨ne,z⟩
  ·rcases aap e2 with⟨rfl,_,_⟩|⟨ne',z'⟩
   ·exact hjk rfl
   ·rw[List.getElem?_set_self (by rw[←F.len];exact hlt)]at e3
    cases e3
    rw[List.getElem?_set_ne ne']at e4
    exact hap k c us' z' ec e4
  ·rcases aap e2 with⟨rfl,z',hlt⟩|⟨ne',z'⟩
   ·rw[List.getElem?_set_self (by rw[←F.len];exact hlt)]at e4
    cases e4
    rw[List.getElem?_set_ne ne]at e3
    exact hap j b us z eb e3
   ·rw[List.getElem?_set_ne ne]at e3
    rw[List.getElem?_set_ne ne']at e4
    exact F.apart j k b c us us' p hjk z eb z' ec e3 e4
 bor:=fun j us e=>by
  rcases aap e with⟨_,z,_⟩|⟨ne,z⟩
  ·cases z
  ·obtain⟨p,us',h1,h2⟩:=F.bor j us z
   exact⟨p,us',by rw[List.getElem?_set_ne ne];exact h1,h2⟩
theorem FrOk.chg{i:Nat}{ts us:List T}{a:Addr}{xs ys:List V}(F:FrOk G w H H₀ σ σV)(hi:σ[i]?=some (some (.own ts)))(hv:σV[i]?=some (some (.ref a)))(ha:H a=some (.lst xs))(r:aah G w H us ys):
  FrOk G w (upd H a (.lst ys)) H₀ (aai σ i us) σV:=by
 obtain⟨a',xs',h1,h2,h3,h4,h5,h6⟩:=F.own i _ ts hi rfl
 rw[hv]at h1
 cases h1
 have hlt:i<σ.length:=(List.getElem?_eq_some_iff.mp hi).1
 exact {
  len:=by unfold aai;simp[F.len]
  val:=fun j t e=>by
   rcases aap e with⟨_,z,_⟩|⟨ne,z⟩
   ·cases z
   ·obtain⟨v,q1,q2⟩:=F.val j t z
    exact⟨v,q1,Rep.upd ha h5 t v q2⟩
  own:=fun j b vs e eb=>by
   rcases aap e with⟨rfl,z,hlt⟩|⟨ne,z⟩
   ·cases z
    cases eb
    exact⟨a,ys,hv,aax,aah.upd ha h5 us ys r,h4,h5,h6⟩
   ·obtain⟨p,us',q1,q2,q3,q4⟩:=F.own j b vs z eb
    have np:p≠a:=fun y=>by
     subst y
     exact F.apart i j _ b ts vs p ne hi rfl z eb hv q1
    exact⟨p,us',q1,by rw[aag np];exact q2,aah.upd ha h5 _ _ q3,q4⟩
  apart:=fun j k b c us1 us2 p hjk e1 eb e2 ec e3 e4=>by
   have old:∀{j:Nat}{b:B}{us1:List T},(aai σ i us)[j]?=some (some b)→ajs b=some us1→∃b' us',σ[j]?=some (some b')∧ajs b'=some us':=fun {j b us1} e eb=>by
    rcases aap e with⟨rfl,z,_⟩|⟨ne,z⟩
    ·exact⟨_,ts,hi,rfl⟩
    ·exact⟨b,us1,z,eb⟩
   obtain⟨b',u1,z1,y1⟩:=old e1 eb
   obtain⟨c',u2,z2,y2⟩:=old e2 ec
   exact F.apart j k b' c' u1 u2 p hjk z1 y1 z2 y2 e3 e4
  bor:=fun j vs e=>by
   rcases aap e with⟨_,z,_⟩|⟨ne,z⟩
   ·cases z
   ·obtain⟨p,us',q1,q2,q3,q4,q5⟩:=F.bor j vs z
    have np:p≠a:=fun y=>by subst y;exact q4 h4
    exact⟨p,us',q1,by rw[aag np];exact q2,aah.upd ha h5 _ _ q3,q4,q5⟩ }
theorem adf{i:Nat}{ts:List T}(h:ab5 σ i=some ts):σ[i]?=some (some (.own ts)):=by
 unfold ab5 at h
 split at h
 ·rename_i us e
  cases h
  exact e
 ·cases h
theorem Good.chg{s:Sto}{i:Nat}{ts us:List T}{a:Addr}{xs ys:List V}(g:Good G w₀ H₀ w H σ s σV)(hi:σ[i]?=some (some (.own ts)))(hv:σV[i]?=some (some (.ref a)))(ha:H a=some (.lst xs))(r:aah G w H us ys):
  Good G w₀ H₀ w (upd H a (.lst ys)) (aai σ i us) s σV∧LeS w w H (upd H a (.lst ys)) σ (aai σ i us) σV σV:=by
 obtain⟨a',xs',h1,h2,h3,h4,h5,h6⟩:=g.fr.own i _ ts hi rfl
 rw[hv]at h1
 cases h1
 have hlt:i<σ.length:=(List.getElem?_eq_some_iff.mp hi).1
 refine⟨⟨g.sto.upd ha h5 h6,g.fr.chg hi hv ha r,g.ent.updNew h4 (by rw[ha];intro z;cases z)⟩,Nat.le_refl _,fun _ _=>rfl,fun _ z=>z,fun p o e nl no=>?_,fun l a b=>absurd (Nat.lt_of_lt_of_le b a) (Nat.lt_irrefl _),fun p z=>?_,fun p z=>.inl ?_,fun j vs e=>?_⟩
 ·have np:p≠a:=fun y=>by subst y;exact no ⟨i,ts,hi,hv⟩
  rw[aag np]
  exact e
 ·by_cases e:p=a
  ·subst e;rw[aax];intro z;cases z
  ·rw[aag e];exact z
 ·obtain⟨j,vs,e1,e2⟩:=z
  rcases aap e1 with⟨rfl,_,_⟩|⟨ne,z⟩
  ·exact⟨i,ts,hi,e2⟩
  ·exact⟨j,vs,z,e2⟩
 ·rcases aap e with⟨rfl,z,_⟩|⟨ne,z⟩
  ·cases z
  ·exact⟨⟨vs,z⟩,rfl⟩
variable{e j:Expr}{e' j':E}{x:Str}{pos pos' p1 p2:Pos}{i:Nat}
theorem apo{D:Ends}{s:Sto}(g:Good G w₀ H₀ w H σ s σV)(h:aan G X w₀ H₀ w H σ σV (ex C (.mk i e') σ s) D):aaL G X σV w H (ev C e' .v σ s) fun v H1=>D.nx (σV.set i (some v)) H1:=by
 have h:aan G X w₀ H₀ w H σ σV (if abn C e' then(ev C e' .v σ s).st σ fun x s1=>onS x.lst? fun ts=>.next (aai σ i ts) s1 else .stuck) D:=h
 split at h
 ·cases hv:ev C e' .v σ s with
  | stuck=>rw[hv]at h;exact h
  | exc c s1=>rw[hv]at h;exact fun w1 H1 pins u sh L S T=>h w1 H1 σV pins u sh (g.step L S) (LeS.of L) T
  | ok r s1=>
   rw[hv]at h
   obtain⟨ts,ht,h⟩:=abi (show aan G X w₀ H₀ w H σ σV (onS r.lst? fun ts=>.next (aai σ i ts) s1) D from h)
   have er:r=.val (.lst ts):=by
    match r,ht with
    | .val (.lst us),ht=>cases ht;rfl
   subst er
   intro w1 H1 a vs L S ha r hn nz nl
   have h0:H₀ a=none:=by
    cases q:H₀ a with
    | none=>rfl
    | some o=>exact absurd hn (g.ent.some_ a (by rw[q];intro z;cases z))
   have g1:=g.step L S
   have hap:∀(j:Nat) (b:B) (us:List T),σ[j]?=some (some b)→ajs b=some us→σV[j]?≠some (some (.ref a)):=fun j b us e eb q=>by
    obtain⟨a',xs',h1,h2,_⟩:=g.fr.own j b us e eb
    rw[q]at h1
    cases h1
    rw[hn]at h2
    cases h2
   refine h w1 H1 _ ⟨g1.sto,g1.fr.mkO ha r h0 nz nl hap,g1.ent⟩ ⟨L.n,L.io,L.Z,fun p o e nl _=>L.keep p o e nl,L.newL,L.some_,fun p z=>?_,fun k us e=>?_⟩
   ·obtain⟨k,us,e1,e2⟩:=z
    rcases aap e1 with⟨rfl,_,hlt⟩|⟨ne,z⟩
    ·rw[List.getElem?_set_self (by rw[←g.fr.len];exact hlt)]at e2
     cases e2
     exact .inr hn
    ·rw[List.getElem?_set_ne ne]at e2
     exact .inl ⟨k,us,z,e2⟩
   ·rcases aap e with⟨_,z,_⟩|⟨ne,z⟩
    ·cases z
    ·exact⟨⟨us,z⟩,by rw[List.getElem?_set_ne ne]⟩
 ·exact h.elim
theorem atO(hN:X.N.Nodup)(hi:X.N[i]?=some x)(hx:Loc X.env.scope x)(he:PE X e (tO G X C e'))(hs:swapsWith e (some (.Name x pos')) pos.line X.env=pure false)(hf:X.fn x=true∨X.env.scope.names.lookup x=some .local):
  PS X (.Assign [.Name x pos'] e pos) (tS G X C (.mk i e')):=by
 refine PS.imp (akP hN hi hx he hs hf) ?_
 rintro D σV H ⟨w₀,H₀,w,σ,s,g,h⟩
 exact⟨w₀,H₀,w,σ,s,g,apo g h⟩
theorem ahu(he:PS X (.Assign [.Name x pos'] e pos) (fun D σV H=>tO G X C e' σV H fun v H1=>D.nx (σV.set i (some v)) H1)):PS X (.Assign [.Name x pos'] e pos) (tS G X C (.mk i e')):=by
 refine PS.imp he ?_
 rintro D σV H ⟨w₀,H₀,w,σ,s,g,h⟩
 exact⟨w₀,H₀,w,σ,s,g,apo g h⟩
theorem afg(hfr:∀σ s r s1,ev C e' .v σ s=.ok r s1→∃ts,r=.val (.lst ts))(he:PS X (.Assign [.Name x pos'] e pos) (fun D σV H=>tO G X C e' σV H fun v H1=>D.nx (σV.set i (some v)) H1)):PS X (.Assign [.Name x pos'] e pos) (tS G X C (.asg i e')):=by
 refine PS.imp he ?_
 rintro D σV H ⟨w₀,H₀,w,σ,s,g,h⟩
 refine⟨w₀,H₀,w,σ,s,g,akT (hfr σ s) ((abW g h).imp ?_)⟩
 rintro v H1 ⟨w1,r,s1,L1,S1,R1,g1,h1⟩
 obtain⟨t,ht,h1⟩:=abi h1
 cases ad3 ht
 exact h1 w1 H1 _ (g1.put R1) LeS.put
theorem apS{cpos:Pos}(hN:X.N[i]?=some x)(hv:Vis X.env.scope x)(hd:(x==("__debug__":Str))=false)(hcd:(x==("__classdict__":Str))=false)(he:PE X e (tV G X C e'))(hst:starEach [e] X.env=[(false,eval e X.env)])
  (hline:(p2.endLine==cpos.line)=true) (hbase:attributeBase (.Name x p1) "append" X.env (eval (.Name x p1) X.env)=eval (.Name x p1) X.env)
  (hfew:((backTo cpos (starEach [e] X.env)).all (fun x=>!x.1)&&(backToKw cpos (keywordEach [] X.env)).all (fun x=>x.1.isSome)&&decide ([e].length+([]:List Keyword).length+(if([]:List Keyword).isEmpty then 0 else 1)<30))=true)
  (hs:swapsWith (.Call (.Attribute (.Name x p1) "append" p2) [e] [] cpos) none pos.line X.env=pure false):
  PS X (.Expr (.Call (.Attribute (.Name x p1) "append" p2) [e] [] cpos) pos) (tS G X C (.app i e')):=by
 refine PS.imp (ael (ajk PySem.F.plainAttrs_list PySem.F.slot_list_append PySem.F.type_list_append adk (adu hN hv hd hcd) (aa5 he abb hst) hbase hfew hline hst rfl) hs) ?_
 rintro D σV H ⟨w₀,H₀,w,σ,s,g,h⟩
 obtain⟨ts,ho,h⟩:=abi (show aan G X w₀ H₀ w H σ σV (onS (ab5 σ i) fun ts=>(ev C e' .v σ s).st σ fun x s1=>onS x.val? fun t=>if ts.length<lim then .next (aai σ i (ts++[t])) s1 else .stuck) D from h)
 have hi:=adf ho
 obtain⟨a,vs,h1,h2,h3,h4,h5,h6⟩:=g.fr.own i _ ts hi rfl
 refine⟨.ref a,h1,.inl ⟨rfl,vs,SqL.of h2⟩,w₀,H₀,w,σ,s,g,(abW g h).imp ?_⟩
 rintro v H1 ⟨w1,r,s1,L1,S1,R1,g1,q1⟩
 obtain⟨t,ht,q1⟩:=abi q1
 cases ad3 ht
 split at q1
 ·rename_i hlim
  have ha1:=L1.keep a _ h2 h6
  have r1:=aah.mono L1 g.sto ts vs h3
  refine⟨a,vs,v,rfl,rfl,ha1,by rw[←h3.length];have:=aez;omega,?_⟩
  obtain⟨g2,l2⟩:=g1.chg hi h1 ha1 (r1.append (show aah G w1 H1 [t] [v]from⟨v,[],rfl,R1,rfl⟩))
  exact q1 w1 _ σV g2 l2
 ·exact q1.elim
theorem Good.frz{s:Sto}(g:Good G w₀ H₀ w H σ s σV)(i:Nat):∃w',Good G w₀ H₀ w' H (frz σ i) s σV∧LeS w w' H H σ (frz σ i) σV σV:=by
 unfold IP.frz
 split
 ·rename_i ts hi
  obtain⟨a,vs,h1,h2,h3,h4,h5,h6⟩:=g.fr.own i _ ts hi rfl
  have zm:=fun(t:T) (v:V) (h:Rep G w H t v)=>Rep.zmono (w:=w) (w':=w.addZ a) rfl rfl (fun _ z=>.inl z) t v h
  have zms:=fun(t:List T) (v:List V) (h:aah G w H t v)=>aah.zmono (w:=w) (w':=w.addZ a) rfl rfl (fun _ z=>.inl z) t v h
  refine⟨w.addZ a,⟨g.sto.addZ h2 h6,⟨by simp[g.fr.len],fun j t e=>?_,fun j b us e eb=>?_,fun j k b c us us' p hjk e1 eb e2 ec=>?_,fun j us e=>?_⟩,g.ent.addZ h4⟩,Nat.le_refl _,fun _ _=>rfl,fun _ z=>.inl z,fun _ _ e _ _=>e,fun l a b=>absurd (Nat.lt_of_lt_of_le b a) (Nat.lt_irrefl _),fun _ z=>z,fun p z=>.inl ?_,fun j us e=>?_⟩
  ·rcases aap e with⟨rfl,z,_⟩|⟨ne,z⟩
   ·cases z
    exact⟨.ref a,h1,a,vs,rfl,.inr rfl,.inl h2,zms _ _ h3⟩
   ·obtain⟨v,q1,q2⟩:=g.fr.val j t z
    exact⟨v,q1,zm t v q2⟩
  ·rcases aap e with⟨_,z,_⟩|⟨ne,z⟩
   ·cases z;cases eb
   ·obtain⟨p,us',q1,q2,q3,q4,q5,q6⟩:=g.fr.own j b us z eb
    refine⟨p,us',q1,q2,zms _ _ q3,q4,fun y=>y.elim q5 fun y=>?_,q6⟩
    subst y
    exact g.fr.apart i j _ b ts us p ne hi rfl z eb h1 q1
  ·rcases aap e1 with⟨_,z,_⟩|⟨ne,z⟩
   ·cases z;cases eb
   ·rcases aap e2 with⟨_,z',_⟩|⟨ne',z'⟩
    ·cases z';cases ec
    ·exact g.fr.apart j k b c us us' p hjk z eb z' ec
  ·rcases aap e with⟨_,z,_⟩|⟨ne,z⟩
   ·cases z
   ·obtain⟨p,us',q1,q2,q3,q4⟩:=g.fr.bor j us z
    exact⟨p,us',q1,q2,zms _ _ q3,q4⟩
  ·obtain⟨j,us,e1,e2⟩:=z
   rcases aap e1 with⟨_,z,_⟩|⟨ne,z⟩
   ·cases z
   ·exact⟨j,us,z,e2⟩
  ·rcases aap e with⟨_,z,_⟩|⟨ne,z⟩
   ·cases z
   ·exact⟨⟨us,z⟩,rfl⟩
 ·exact⟨w,g,LeS.refl⟩
theorem ann{aat:List Stmt}{as:List S}(h:PSs X aat (tSs G X C as)):PSs X aat (tSs G X C (.frz i::as)):=by
 refine PSs.imp h ?_
 rintro D σV H ⟨w₀,H₀,w,σ,s,g,h⟩
 obtain⟨w',g',l'⟩:=g.frz i
 exact⟨w₀,H₀,w',IP.frz σ i,s,g',aan.mono l' h⟩
end
theorem ahS{c:Fr→Sto→Res Bool}{b:Fr→Sto→SR}:∀(n:Nat) (σ:Fr) (s:Sto),aa3 c b n σ s≠.stuck→aa3 c b (n+1) σ s=aa3 c b n σ s:=by
 intro n
 induction n with
 | zero=>intro σ s h;exact absurd rfl h
 | succ n ih=>
  intro σ s h
  have h':=h
  unfold aa3 at h
  show aa3 c b (n+1+1) σ s=_
  conv=>lhs;unfold aa3
  conv=>rhs;unfold aa3
  cases hc:c σ s with
  | stuck=>rfl
  | exc d s1=>rfl
  | ok k s1=>
   cases k with
   | false=>rfl
   | true=>
    rw[hc]at h
    have h:((b σ s1).bind fun σ2 s2=>aa3 c b n σ2 s2)≠.stuck:=h
    show((b σ s1).bind fun σ2 s2=>aa3 c b (n+1) σ2 s2)=((b σ s1).bind fun σ2 s2=>aa3 c b n σ2 s2)
    cases hb:b σ s1 with
    | stuck=>rfl
    | ret r s2=>rfl
    | retO ts s2=>rfl
    | exc d σ2 s2=>rfl
    | next σ2 s2=>
     rw[hb]at h
     exact ih σ2 s2 h
theorem acR{c:Fr→Sto→Res Bool}{b:Fr→Sto→SR}{n:Nat}{σ:Fr}{s:Sto}(h:aa3 c b n σ s≠.stuck):∀k,aa3 c b (n+k) σ s=aa3 c b n σ s
 | 0=>rfl
 | k+1=>by
  have ih:=acR h k
  rw[←Nat.add_assoc,ahS (n+k) σ s (by rw[ih];exact h),ih]
theorem aie{c:Fr→Sto→Res Bool}{b:Fr→Sto→SR}{n:Nat}{σ:Fr}{s:Sto}(h:aa3 c b n σ s≠.stuck):aad c b σ s=aa3 c b n σ s:=by
 have hx:∃n,aa3 c b n σ s≠.stuck:=⟨n,h⟩
 unfold aad
 rw[dif_pos hx]
 have hm:=Classical.choose_spec hx
 generalize Classical.choose hx=m at hm
 rcases Nat.le_total n m with q|q
 ·obtain⟨k,rfl⟩:=Nat.exists_eq_add_of_le q
  exact acR h k
 ·obtain⟨k,rfl⟩:=Nat.exists_eq_add_of_le q
  exact(acR hm k).symm
theorem ahe{c:Fr→Sto→Res Bool}{b:Fr→Sto→SR}{σ:Fr}{s:Sto}(h:aad c b σ s≠.stuck):∃n,aad c b σ s=aa3 c b n σ s:=by
 unfold aad at h ⊢
 split at h
 ·rename_i hx
  rw[dif_pos hx]
  exact⟨_,rfl⟩
 ·exact absurd rfl h
section
variable{G:Gx}{X:Cx}{C:Cf}{w w' w₀:Wo}{H H' H₀:Hp}{σ σ':Fr}{σV σV':St}{pos:Pos}
def asB(x:R):Option Bool:=match x with | .val (.bl k)=>some k | _=>none
theorem aoP{c:Expr}{c':E}{b:List Stmt}{b':List S}(hwl:C.wl=aad)(hp:PassesOwn (model X.prog X.w) X.A X.env X.xe)(hc:PT X c (tT G X C c'))(hb:PSs X b (tSs G X C b')):PS X (.While c b [] pos) (tS G X C (.whl c' b')):=by
 refine PS.imp (aky hp hc hb) ?_
 rintro D σV H ⟨w₀,H₀,w,σ,s,g,h⟩
 have h:aan G X w₀ H₀ w H σ σV (C.wl (fun σ s=>(ev C c' .t σ s).bind fun x s1=>.of (match x with | .val (.bl k)=>some k | _=>none) s1) (fun σ s=>exs C b' σ s) σ s) D:=h
 rw[hwl]at h
 generalize hcf:(fun σ s=>(ev C c' .t σ s).bind fun x s1=>Res.of (match x with | .val (.bl k)=>some k | _=>none) s1)=cf at h
 generalize hbf:(fun σ s=>exs C b' σ s)=bf at h
 refine⟨fun m σV1 H1=>∃w1 σ1 s1,Good G w₀ H₀ w1 H1 σ1 s1 σV1∧aa3 cf bf m σ1 s1≠.stuck∧aan G X w₀ H₀ w1 H1 σ1 σV1 (aa3 cf bf m σ1 s1) D,?_,?_⟩
 ·have hn:aad cf bf σ s≠.stuck:=fun z=>by rw[z]at h;exact h
  obtain⟨n,hn'⟩:=ahe hn
  rw[hn']at hn h
  exact⟨n,w,σ,s,g,hn,h⟩
 ·rintro m σV1 H1 ⟨w1,σ1,s1,g1,hn1,h1⟩
  cases m with
  | zero=>exact absurd rfl hn1
  | succ n=>
   unfold aa3 at hn1 h1
   refine⟨w₀,H₀,w1,σ1,s1,g1,?_⟩
   have ec:cf σ1 s1=(ev C c' .t σ1 s1).bind fun x s1=>Res.of (match x with | .val (.bl k)=>some k | _=>none) s1:=by rw[←hcf]
   rw[ec]at hn1 h1
   cases he:ev C c' .t σ1 s1 with
   | stuck=>rw[he]at hn1;exact absurd rfl hn1
   | exc d s2=>rw[he]at h1;exact fun w2 H2 pins u sh L S T=>h1 w2 H2 σV1 pins u sh (g1.step L S) (LeS.of L) T
   | ok x s2=>
    rw[he]at hn1 h1
    intro w2 H2 v L2 S2 R2
    match x,R2,hn1,h1 with
    | .val (.bl true),R2,hn1,h1=>
     cases R2
     refine⟨true,rfl,anw ?_⟩
     have hn1:((bf σ1 s2).bind fun σ2 s2=>aa3 cf bf n σ2 s2)≠.stuck:=hn1
     have h1:aan G X w₀ H₀ w1 H1 σ1 σV1 ((bf σ1 s2).bind fun σ2 s2=>aa3 cf bf n σ2 s2) D:=h1
     refine⟨fun σV3 H3=>∃w3 σ3 s3,Good G w₀ H₀ w3 H3 σ3 s3 σV3∧aa3 cf bf n σ3 s3≠.stuck∧aan G X w₀ H₀ w3 H3 σ3 σV3 (aa3 cf bf n σ3 s3) D,fun σV3 H3 q=>⟨n,Nat.lt_succ_self _,q⟩,?_⟩
     refine⟨w₀,H₀,w2,σ1,s2,g1.step L2 S2,?_⟩
     have eb:bf σ1 s2=exs C b' σ1 s2:=by rw[←hbf]
     rw[eb]at hn1 h1
     cases hx:exs C b' σ1 s2 with
     | stuck=>rw[hx]at h1;exact h1
     | ret r s3=>rw[hx]at h1;exact h1
     | retO ts s3=>rw[hx]at h1;exact h1
     | exc d σ3 s3=>rw[hx]at h1;exact fun w3 H3 σV3 pins u sh g3 L3 T=>h1 w3 H3 σV3 pins u sh g3 ((LeS.of L2).trans L3) T
     | next σ3 s3=>
      rw[hx]at h1 hn1
      intro w3 H3 σV3 g3 L3
      exact⟨w3,σ3,s3,g3,hn1,aan.mono ((LeS.of L2).trans L3) h1⟩
    | .val (.bl false),R2,hn1,h1=>
     cases R2
     exact⟨false,rfl,ame (h1 w2 H2 σV1 (g1.step L2 S2) (LeS.of L2))⟩
    | .val .non,_,hn1,h1=>exact h1.elim
    | .val (.int _),_,hn1,h1=>exact h1.elim
    | .val (.str _),_,hn1,h1=>exact h1.elim
    | .val (.tup _),_,hn1,h1=>exact h1.elim
    | .val (.lst _),_,hn1,h1=>exact h1.elim
    | .val (.loc _),_,hn1,h1=>exact h1.elim
    | .val (.exc _),_,hn1,h1=>exact h1.elim
    | .bor _,_,hn1,h1=>exact h1.elim
def adb(σ:Fr)(σV:St):Src→Prop
 | .l a _=>¬Own σ σV a
 | _=>True
theorem abg.monoS{z:Bool}{s:Sto}(L:LeS w w' H H' σ σ' σV σV')(S:StoOk G w H s)(F:FrOk G w H H₀ σ σV):∀{src:Src}{ts:List T},adb σ σV src→abg G w H z src ts→abg G w' H' z src ts∧adb σ' σV' src
 | .l a vs,ts,nf,⟨h1,h2,h3,h4⟩=>by
  have hs:=Rd.some h1
  refine⟨⟨?_,aah.kp (L.kp S F) ts vs h2,L.notLoc hs h3,fun q=>L.Z a (h4 q)⟩,fun z=>?_⟩
  ·rcases h1 with h1|⟨o,h1⟩
   ·exact .inl (L.keep _ _ h1 h3 nf)
   ·exact .inr ⟨o,L.keep _ _ h1 h3 nf⟩
  ·rcases L.own a z with z|z
   ·exact nf z
   ·exact hs z
 | .t a vs,ts,_,⟨h1,h2⟩=>⟨⟨(L.kp S F).t _ _ h1,aah.kp (L.kp S F) ts vs h2⟩,True.intro⟩
 | .r lo n,ts,_,h=>⟨h,True.intro⟩
theorem abJ{tg:Expr}{g:Tg}{b:List Stmt}{b':List S}{D:Ends}{src:Src}{ts:List T}{s:Sto}{K:PySem.W.Frag}{z:Bool}(gd:Good G w₀ H₀ w H σ s σV)(SO:abg G w H z src ts)(SF:adb σ σV src)
  (h:aan G X w₀ H₀ w H σ σV (abr g (fun σ s=>exs C b' σ s) ts σ s) D):
  ∃W:Nat→Nat→St→Hp→Prop,(∃m,W 0 m σV H)∧∀i m σV H,W i m σV H→
   ((aiK K src).stop i H∧D.nx σV H)∨((aiK K src).go i H∧∃N:St→Hp→Prop,(∀σ' H',N σ' H'→∃m',m'<m∧W (i+1) m' σ' H')∧∀x H',(aiK K src).yld i H x H'→gTg G g x σV H' fun σ2 H2=>tSs G X C b' { D with nx:=N,ct:=N,bk:=D.nx } σ2 H2):=by
 refine⟨fun i m σV1 H1=>∃w1 σ1 s1,m=ts.length-i∧i≤ts.length∧Good G w₀ H₀ w1 H1 σ1 s1 σV1∧abg G w1 H1 z src ts∧adb σ1 σV1 src∧aan G X w₀ H₀ w1 H1 σ1 σV1 (abr g (fun σ s=>exs C b' σ s) (ts.drop i) σ1 s1) D,
  ⟨ts.length,w,σ,s,rfl,Nat.zero_le _,gd,SO,SF,h⟩,?_⟩
 rintro i m σV1 H1 ⟨w1,σ1,s1,hm,hi,g1,SO1,SF1,h1⟩
 by_cases hlt:i<ts.length
 ·refine .inr ?_
  have et:ts[i]?=some ts[i]:=List.getElem?_eq_getElem hlt
  have ed:ts.drop i=ts[i]::ts.drop (i+1):=List.drop_eq_getElem_cons hlt
  rw[ed]at h1
  obtain⟨σ2,hb,h1⟩:=abi (show aan G X w₀ H₀ w1 H1 σ1 σV1 (onS (aaq σ1 g ts[i]) fun σ'=>(exs C b' σ' s1).bind fun σ2 s2=>abr g (fun σ s=>exs C b' σ s) (ts.drop (i+1)) σ2 s2) D from h1)
  obtain⟨go,yld⟩:=SO1.go (K:=K) et
  refine⟨go,fun σV3 H3=>∃w3 σ3 s3,Good G w₀ H₀ w3 H3 σ3 s3 σV3∧abg G w3 H3 z src ts∧adb σ3 σV3 src∧aan G X w₀ H₀ w3 H3 σ3 σV3 (abr g (fun σ s=>exs C b' σ s) (ts.drop (i+1)) σ3 s3) D,fun σV3 H3 ⟨w3,σ3,s3,q1,q2,q3,q4⟩=>⟨ts.length-(i+1),by omega,w3,σ3,s3,rfl,hlt,q1,q2,q3,q4⟩,fun x H' hy=>?_⟩
  have rx:=(yld x H' hy).2
  obtain rfl:H1=H':=(yld x H' hy).1.symm
  refine⟨w1,s1,ts[i],σ1,σ2,g1.sto,rx,hb,fun vs hfr hl=>?_⟩
  have g2:Good G w₀ H₀ w1 H1 σ2 s1 (abk σV1 (slots g) vs):=⟨g1.sto,hfr H₀ σV1 g1.fr,g1.ent⟩
  have l2:LeS w1 w1 H1 H1 σ1 σ2 σV1 (abk σV1 (slots g) vs):=by
   cases g with
   | one k=>
    cases hb
    match vs,hl with
    | [v],_=>exact LeS.put
   | many ks=>
    have hb':∃us,puts σ1 ks us=some σ2:=by
     match hts:ts[i],hb with
     | .tup us,hb=>exact⟨us,hb⟩
     | .lst us,hb=>exact⟨us,hb⟩
     | .non,hb=>cases hb
     | .bl _,hb=>cases hb
     | .int _,hb=>cases hb
     | .str _,hb=>cases hb
     | .loc _,hb=>cases hb
     | .exc _,hb=>cases hb
    obtain⟨us,hb⟩:=hb'
    have go:∀(ks:List Nat) (us:List T) (vs:List V) (σ1:Fr) (σV1:St),puts σ1 ks us=some σ2→vs.length=ks.length→LeS w1 w1 H1 H1 σ1 σ2 σV1 (abk σV1 ks vs):=by
     intro ks
     induction ks with
     | nil=>
      intro us vs σ1 σV1 hp hl
      cases us with
      | nil=>cases hp;cases vs<;>exact LeS.refl
      | cons u us=>cases hp
     | cons k ks ih=>
      intro us vs σ1 σV1 hp hl
      cases us with
      | nil=>cases hp
      | cons u us=>
       cases vs with
       | nil=>simp at hl
       | cons v vs=>exact LeS.trans (LeS.put (v:=v)) (ih us vs (put σ1 k u) (σV1.set k (some v)) hp (by simpa using hl))
    exact go ks us vs σ1 σV1 hb hl
  obtain⟨SO2,SF2⟩:=SO1.monoS l2 g1.sto g1.fr SF1
  refine⟨w₀,H₀,w1,σ2,s1,g2,?_⟩
  cases hx:exs C b' σ2 s1 with
  | stuck=>rw[hx]at h1;exact h1
  | ret r s3=>rw[hx]at h1;exact h1
  | retO ts s3=>rw[hx]at h1;exact h1
  | exc d σ3 s3=>rw[hx]at h1;exact fun w3 H3 σV3 pins u sh g3 L3 T=>h1 w3 H3 σV3 pins u sh g3 (l2.trans L3) T
  | next σ3 s3=>
   rw[hx]at h1
   intro w3 H3 σV3 g3 L3
   obtain⟨SO3,SF3⟩:=SO2.monoS L3 g2.sto g2.fr SF2
   exact⟨w3,σ3,s3,g3,SO3,SF3,aan.mono (l2.trans L3) h1⟩
 ·have ei:i=ts.length:=by omega
  subst ei
  rw[List.drop_length]at h1
  exact .inl ⟨SO1.stop,h1 w1 H1 σV1 g1 LeS.refl⟩
theorem acg{i j:Nat}{b:B}(h:(lock σ i)[j]?=some (some b)):(σ[j]?=some (some b)∧(i=j→∀ts,b≠.own ts))∨(i=j∧∃ts,b=.lck ts∧σ[i]?=some (some (.own ts))):=by
 unfold lock at h
 split at h
 ·rename_i ts e
  rcases aap h with⟨rfl,z,_⟩|⟨ne,z⟩
  ·exact .inr ⟨rfl,ts,by cases z;rfl,e⟩
  ·exact .inl ⟨z,fun q=>absurd q ne⟩
 ·rename_i hn
  refine .inl ⟨h,fun q ts z=>?_⟩
  subst q z
  exact hn ts h
theorem acu{i j:Nat}{b:B}(h:(unlock σ i)[j]?=some (some b)):σ[j]?=some (some b)∨(i=j∧∃ts,b=.own ts∧σ[i]?=some (some (.lck ts))):=by
 unfold unlock at h
 split at h
 ·rename_i ts e
  rcases aap h with⟨rfl,z,_⟩|⟨ne,z⟩
  ·exact .inr ⟨rfl,ts,by cases z;rfl,e⟩
  ·exact .inl z
 ·exact .inl h
theorem ajP(σ:Fr)(i:Nat):(lock σ i).length=σ.length:=by unfold lock;split<;>simp
theorem ahi(σ:Fr)(i:Nat):(unlock σ i).length=σ.length:=by unfold unlock;split<;>simp
theorem FrOk.relock(F:FrOk G w H H₀ σ σV)(hl:σ'.length=σ.length)(hr:∀(j:Nat) (b:B),σ'[j]?=some (some b)→σ[j]?=some (some b)∨∃b' ts,σ[j]?=some (some b')∧ajs b=some ts∧ajs b'=some ts):FrOk G w H H₀ σ' σV where
 len:=hl.trans F.len
 val:=fun j t e=>by
  rcases hr j _ e with z|⟨b',ts,_,z,_⟩
  ·exact F.val j t z
  ·cases z
 own:=fun j b ts e eb=>by
  rcases hr j _ e with z|⟨b',us,z1,z2,z3⟩
  ·exact F.own j b ts z eb
  ·rw[eb]at z2
   cases z2
   exact F.own j b' ts z1 z3
 apart:=fun j k b c ts us a hjk e1 eb e2 ec e3 e4=>by
  have old:∀{j:Nat}{b:B}{ts:List T},σ'[j]?=some (some b)→ajs b=some ts→∃b',σ[j]?=some (some b')∧ajs b'=some ts:=fun {j b ts} e eb=>by
   rcases hr j _ e with z|⟨b',us,z1,z2,z3⟩
   ·exact⟨b,z,eb⟩
   ·rw[eb]at z2
    cases z2
    exact⟨b',z1,z3⟩
  obtain⟨b',y1,y2⟩:=old e1 eb
  obtain⟨c',y3,y4⟩:=old e2 ec
  exact F.apart j k b' c' ts us a hjk y1 y2 y3 y4 e3 e4
 bor:=fun j ts e=>by
  rcases hr j _ e with z|⟨b',us,_,z,_⟩
  ·exact F.bor j ts z
  ·cases z
theorem Good.lock{s:Sto}(g:Good G w₀ H₀ w H σ s σV)(i:Nat):Good G w₀ H₀ w H (lock σ i) s σV:=⟨g.sto,g.fr.relock (ajP σ i) fun j b e=>by
 rcases acg e with⟨z,_⟩|⟨rfl,ts,rfl,z⟩
 ·exact .inl z
 ·exact .inr ⟨_,ts,z,rfl,rfl⟩,g.ent⟩
theorem Good.unlock{s:Sto}(g:Good G w₀ H₀ w H σ s σV)(i:Nat):Good G w₀ H₀ w H (unlock σ i) s σV:=⟨g.sto,g.fr.relock (ahi σ i) fun j b e=>by
 rcases acu e with z|⟨rfl,ts,rfl,z⟩
 ·exact .inl z
 ·exact .inr ⟨_,ts,z,rfl,rfl⟩,g.ent⟩
theorem LeS.unlock{i:Nat}(hi:ab8 σ i=true)(L:LeS w w' H H' (lock σ i) σ' σV σV'):LeS w w' H H' σ (unlock σ' i) σV σV' where
 n:=L.n
 io:=L.io
 Z:=L.Z
 keep:=fun a o e nl no=>L.keep a o e nl fun⟨j,ts,e1,e2⟩=>by
  rcases acg e1 with⟨z,_⟩|⟨_,us,z,_⟩
  ·exact no ⟨j,ts,z,e2⟩
  ·cases z
 newL:=L.newL
 some_:=L.some_
 own:=fun a ⟨j,ts,e1,e2⟩=>by
  rcases acu e1 with z|⟨rfl,us,z1,z2⟩
  ·rcases L.own a ⟨j,ts,z,e2⟩with⟨k,us,y1,y2⟩|y
   ·rcases acg y1 with⟨z,_⟩|⟨_,vs,z,_⟩
    ·exact .inl ⟨k,us,z,y2⟩
    ·cases z
   ·exact .inr y
  ·obtain⟨⟨vs,y1⟩,y2⟩:=L.lk i us z2
   unfold ab8 at hi
   split at hi
   ·rename_i xs ex
    rw[e2]at y2
    exact .inl ⟨i,xs,ex,y2.symm⟩
   ·cases hi
 lk:=fun j ts e=>by
  rcases acu e with z|⟨_,us,z,_⟩
  ·obtain⟨⟨us,y1⟩,y2⟩:=L.lk j ts z
   rcases acg y1 with⟨y,_⟩|⟨rfl,vs,_,y⟩
   ·exact⟨⟨us,y⟩,y2⟩
   ·exfalso
    unfold IP.unlock at e
    split at e
    ·rename_i q
     rcases aap e with⟨_,q2,_⟩|⟨ne,_⟩
     ·cases q2
     ·exact ne rfl
    ·rename_i q
     exact q ts e
  ·cases z
theorem aan.unlock{i:Nat}{r:SR}{D:Ends}(hi:ab8 σ i=true)(h:aan G X w₀ H₀ w H σ σV (r.unlock i) D):aan G X w₀ H₀ w H (lock σ i) σV r D:=by
 cases r with
 | stuck=>exact h
 | ret r s=>exact h
 | retO ts s=>exact h
 | next σ1 s1=>exact fun w' H' σV' g L=>h w' H' σV' (g.unlock i) (L.unlock hi)
 | exc c σ1 s1=>exact fun w' H' σV' pins u sh g L T=>h w' H' σV' pins u sh (g.unlock i) (L.unlock hi) T
theorem al3{x:R}{ts:List T}(h:x.lst?=some ts):x=.val (.lst ts):=by
 match x,h with
 | .val (.lst us),h=>cases h;rfl
theorem are{tg iter:Expr}{it':E}{g:Tg}{b:List Stmt}{b':List S}(hp:PassesOwn (model X.prog X.w) X.A X.env X.xe)(hc:X.calm=true)(hI:PI X tg iter (tI G X C it' .j true))(hg:PG X tg (gTg G g))(hb:PSs X b (tSs G X C b'))
  (hs:∀x,foldedSetIterable iter X.env x=pure x) (hit:∀i,it'≠.var i):PS X (.For tg iter b [] pos) (tS G X C (.for_ g it' b')):=by
 refine PS.imp (ahU hp hc hI hg hb hs) ?_
 rintro D σV H ⟨w₀,H₀,w,σ,s,gd,h⟩
 have h:aan G X w₀ H₀ w H σ σV ((ev C it' .j σ s).st σ fun x s1=>onS x.lst? fun ts=>abr g (fun σ s=>exs C b' σ s) ts σ s1) D:=by
  cases it'<;>first|exact h|exact absurd rfl (hit _)
 refine⟨w₀,H₀,w,σ,s,gd,?_⟩
 cases he:ev C it' .j σ s with
 | stuck=>rw[he]at h;exact h.elim
 | exc c s1=>rw[he]at h;exact fun w1 H1 pins u sh L S T=>h w1 H1 σV pins u sh (gd.step L S) (LeS.of L) T
 | ok x s1=>
  rw[he]at h
  obtain⟨ts,ht,h⟩:=abi (show aan G X w₀ H₀ w H σ σV (onS x.lst? fun ts=>abr g (fun σ s=>exs C b' σ s) ts σ s1) D from h)
  cases al3 ht
  intro w1 H1 src L S SO
  have g1:=gd.step L S
  refine abJ (X:=X) (tg:=tg) (b:=b) (z:=true) (K:=X.K) g1 SO ?_ (aan.mono (LeS.of L) h)
  cases src with
  | l a vs=>exact g1.fr.notOwnZ (SO.2.2.2 rfl)
  | t a vs=>exact True.intro
  | r lo n=>exact True.intro
theorem an7{tg:Expr}{x:Str}{xp:Pos}{i:Nat}{g:Tg}{b:List Stmt}{b':List S}(hp:PassesOwn (model X.prog X.w) X.A X.env X.xe)(hc:X.calm=true)(hN:X.N[i]?=some x)(hv:Vis X.env.scope x)(hd:(x==("__debug__":Str))=false)(hcd:(x==("__classdict__":Str))=false)
  (hg:PG X tg (gTg G g)) (hb:PSs X b (tSs G X C b')) (hs:∀y,foldedSetIterable (.Name x xp) X.env y=pure y):PS X (.For tg (.Name x xp) b [] pos) (tS G X C (.for_ g (.var i) b')):=by
 refine PS.imp (ahU hp hc (al1 (adu hN hv hd hcd)) hg hb hs) ?_
 rintro D σV H ⟨w₀,H₀,w,σ,s,gd,h⟩
 have h:aan G X w₀ H₀ w H σ σV ((ev C (.var i) .i σ s).st σ fun x s1=>onS x.lst? fun ts=>if ab8 σ i then(abr g (fun σ s=>exs C b' σ s) ts (lock σ i) s1).unlock i else abr g (fun σ s=>exs C b' σ s) ts σ s1) D:=h
 have hev:ev C (.var i) .i σ s=(Res.of (look σ i) s).bind fun x s=>.of (x.sq2.map fun ts=>.val (.lst ts)) s:=rfl
 rw[hev]at h
 cases hl:look σ i with
 | none=>rw[hl]at h;exact h.elim
 | some r=>
  rw[hl]at h
  have h:aan G X w₀ H₀ w H σ σV ((Res.of (r.sq2.map fun ts=>.val (.lst ts)) s).st σ fun x s1=>onS x.lst? fun ts=>if ab8 σ i then(abr g (fun σ s=>exs C b' σ s) ts (lock σ i) s1).unlock i else abr g (fun σ s=>exs C b' σ s) ts σ s1) D:=h
  cases hq:r.sq2 with
  | none=>rw[hq]at h;exact h.elim
  | some ts=>
   rw[hq]at h
   have h:aan G X w₀ H₀ w H σ σV (if ab8 σ i then(abr g (fun σ s=>exs C b' σ s) ts (lock σ i) s).unlock i else abr g (fun σ s=>exs C b' σ s) ts σ s) D:=h
   unfold look at hl
   split at hl
   ·rename_i t et
    cases hl
    obtain⟨v,e1,e2⟩:=gd.fr.val i t et
    have no:ab8 σ i=false:=by unfold ab8;rw[et]
    rw[no]at h
    match t,hq,e2 with
    | .lst us,hq,⟨a,vs,ev,hz,hr,rp⟩=>
     cases hq
     subst ev
     exact⟨_,e1,a,rfl,.inl ⟨vs,hr,abJ (X:=X) (tg:=tg) (b:=b) (z:=false) (src:=.l a vs) (K:=X.K) gd ⟨hr,rp,gd.sto.zLoc hz,fun z=>by cases z⟩ (gd.fr.notOwnZ hz) h⟩⟩
    | .tup us,hq,⟨a,vs,ev,hr,rp⟩=>
     cases hq
     subst ev
     exact⟨_,e1,a,rfl,.inr ⟨vs,hr,abJ (X:=X) (tg:=tg) (b:=b) (z:=false) (src:=.t a vs) (K:=X.K) gd ⟨hr,rp⟩ True.intro h⟩⟩
   ·rename_i us et
    cases hl
    cases hq
    obtain⟨a,vs,e1,e2,e3,e4,e5,e6⟩:=gd.fr.own i _ ts et rfl
    have ho:ab8 σ i=true:=by unfold ab8;rw[et]
    rw[ho]at h
    have h:aan G X w₀ H₀ w H σ σV ((abr g (fun σ s=>exs C b' σ s) ts (lock σ i) s).unlock i) D:=h
    refine⟨_,e1,a,rfl,.inl ⟨vs,.inl e2,abJ (X:=X) (tg:=tg) (b:=b) (z:=false) (src:=.l a vs) (K:=X.K) (gd.lock i) ⟨.inl e2,e3,e6,fun z=>by cases z⟩ (fun⟨j,qs,y1,y2⟩=>?_) (aan.unlock ho h)⟩⟩
    rcases acg y1 with⟨z,z'⟩|⟨_,xs,z,_⟩
    ·by_cases hij:i=j
     ·exact z' hij qs rfl
     ·exact gd.fr.apart i j _ _ ts qs a hij et rfl z rfl e1 y2
    ·cases z
   ·rename_i us et
    cases hl
    cases hq
    obtain⟨a,vs,e1,e2,e3,e4,e6⟩:=gd.fr.bor i ts et
    have no:ab8 σ i=false:=by unfold ab8;rw[et]
    rw[no]at h
    refine⟨_,e1,a,rfl,.inl ⟨vs,.inl e2,abJ (X:=X) (tg:=tg) (b:=b) (z:=false) (src:=.l a vs) (K:=X.K) gd ⟨.inl e2,e3,e6,fun z=>by cases z⟩ (fun⟨j,qs,y1,y2⟩=>?_) h⟩⟩
    obtain⟨a',xs,q1,_,_,q4,_⟩:=gd.fr.own j _ qs y1 rfl
    rw[y2]at q1
    cases q1
    exact e4 q4
   ·rename_i us et
    cases hl
    cases hq
    obtain⟨a,vs,e1,e2,e3,e4,e5,e6⟩:=gd.fr.own i _ ts et rfl
    have no:ab8 σ i=false:=by unfold ab8;rw[et]
    rw[no]at h
    refine⟨_,e1,a,rfl,.inl ⟨vs,.inl e2,abJ (X:=X) (tg:=tg) (b:=b) (z:=false) (src:=.l a vs) (K:=X.K) gd ⟨.inl e2,e3,e6,fun z=>by cases z⟩ (fun⟨j,qs,y1,y2⟩=>?_) h⟩⟩
    by_cases hij:i=j
    ·subst hij;rw[et]at y1;cases y1
    ·exact gd.fr.apart i j _ _ ts qs a hij et rfl y1 rfl e1 y2
   ·cases hl
end
end IP
end
noncomputable section
namespace IP
open PySem PySem.Spec L2
open PyProof.Rows (subscriptTail)
section
variable{G:Gx}{X:Cx}{C:Cf}{w w' w₀:Wo}{H H' H₀:Hp}{σ σ':Fr}{σV σV':St}{a b e:Expr}{a' b' e':E}{pos p p2:Pos}{Q:VK}{i:Nat}{x:Str}
theorem aaL.mono{res:Res R}{w1:Wo}{H1:Hp}(L:Le w w1 H H1)(h:aaL G X σV w H res Q):aaL G X σV w1 H1 res Q:=by
 match res,h with
 | .stuck,h=>exact h
 | .exc c s,h=>exact fun w' H' pins u sh a b=>h w' H' pins u sh (L.trans a) b
 | .ok (.val (.lst ts)) s,h=>
  intro w' H' a vs L' S ha r hn nz nl
  refine h w' H' a vs (L.trans L') S ha r ?_ nz nl
  cases q:H a with
  | none=>rfl
  | some o=>exact absurd hn (L.some_ a (by rw[q];intro z;cases z))
 | .ok (.val .non) s,h=>exact h
 | .ok (.val (.bl _)) s,h=>exact h
 | .ok (.val (.int _)) s,h=>exact h
 | .ok (.val (.str _)) s,h=>exact h
 | .ok (.val (.tup _)) s,h=>exact h
 | .ok (.val (.loc _)) s,h=>exact h
 | .ok (.val (.exc _)) s,h=>exact h
 | .ok (.bor _) s,h=>exact h
theorem aaL.bind{m:Res R}{k:R→Sto→Res R}(h:aaL G X σV w H (m.bind k) Q):
  aa4 G X σV w H m fun v H1=>∃w1 r s1,Le w w1 H H1∧StoOk G w1 H1 s1∧aaX G w1 H1 r v∧aaL G X σV w1 H1 (k r s1) Q:=by
 cases m with
 | stuck=>exact h
 | ok r s=>exact fun w' H' v a b c=>⟨w',r,s,a,b,c,aaL.mono a h⟩
 | exc c s=>exact h
theorem aaL.of{o:Option R}{s:Sto}(h:aaL G X σV w H (Res.of o s) Q):∃ts,o=some (.val (.lst ts))∧∀w' H' a vs,Le w w' H H'→StoOk G w' H' s→H' a=some (.lst vs)→aah G w' H' ts vs→H a=none→¬w'.Z a→notLoc w' a→Q (.ref a) H':=by
 match o,h with
 | none,h=>exact h.elim
 | some (.val (.lst ts)),h=>exact⟨ts,rfl,h⟩
 | some (.val .non),h=>exact h.elim
 | some (.val (.bl _)),h=>exact h.elim
 | some (.val (.int _)),h=>exact h.elim
 | some (.val (.str _)),h=>exact h.elim
 | some (.val (.tup _)),h=>exact h.elim
 | some (.val (.loc _)),h=>exact h.elim
 | some (.val (.exc _)),h=>exact h.elim
 | some (.bor _),h=>exact h.elim
theorem ao3(hE:PE X e (tO G X C e'))(hfr:∀σ s r s1,ev C e' .v σ s=.ok r s1→∃ts,r=.val (.lst ts)):PE X e (tV G X C e'):=
 PE.imp hE fun σV H Q ⟨w₀,H₀,w,σ,s,g,h⟩=>⟨w₀,H₀,w,σ,s,g,akT (hfr σ s) h⟩
theorem aqe{es:List Expr}{es':List E}(h:PA X es (tA G X C es'))(hz:es'.length≤sizeLine):PE X (.List es pos) (tO G X C (.lst es')):=by
 refine PE.imp (akU h) ?_
 rintro σV H Q ⟨w₀,H₀,w,σ,s,g,h⟩
 have h:aaL G X σV w H ((evs C es' σ s).bind fun ts s1=>.ok (.val (.lst ts)) s1) Q:=h
 refine⟨w₀,H₀,w,σ,s,g,?_⟩
 cases hf:evs C es' σ s with
 | stuck=>rw[hf]at h;exact h
 | exc c s2=>rw[hf]at h;exact h
 | ok ts s2=>
  rw[hf]at h
  intro w2 H2 vs L2 S2 R2
  refine⟨by rw[←R2.length,adV C _ _ _ _ _ hf];exact hz,?_⟩
  exact afx S2 R2 (aaL.mono L2 h)
def r1O(G:Gx)(f:R→Option R):V→Hp→VK→Prop:=fun x H Q=>∃w s rx ts,StoOk G w H s∧acK G w H rx x∧f rx=some (.val (.lst ts))∧∀w' H' a vs,Le w w' H H'→StoOk G w' H' s→H' a=some (.lst vs)→aah G w' H' ts vs→H a=none→¬w'.Z a→notLoc w' a→Q (.ref a) H'
theorem aq8{f:R→Option R}(h:∃w₀ H₀ w σ s,Good G w₀ H₀ w H σ s σV∧aaL G X σV w H ((ev C a' .v σ s).bind fun x s1=>.of (f (x.dr s1)) s1) Q):tV G X C a' σV H fun v H1=>r1O G f v H1 Q:=by
 obtain⟨w₀,H₀,w,σ,s,g,h⟩:=h
 refine⟨w₀,H₀,w,σ,s,g,(aaL.bind h).imp ?_⟩
 rintro v H1 ⟨w1,r1,s1,L1,S1,R1,h1⟩
 obtain⟨ts,e,q⟩:=aaL.of h1
 exact⟨w1,s1,_,ts,S1,R1.dr S1,e,q⟩
theorem amV:aaA X (.type "list") (fun xs H Q=>∃v,xs=[v]∧r1O G (b1R .list) v H Q):=by
 refine aaA.imp ac2 ?_
 rintro xs H Q ⟨v,rfl,w,s,rx,ts,S,R1,e,q⟩
 obtain⟨us,ht,er⟩:=map_some e
 cases er
 obtain⟨pa,vs,rfl,hp,rp⟩:=acK.sq2 R1 ht
 exact⟨pa,vs,rfl,hp.imp (fun h=>.inl h) (fun h=>SqT.of h),afx S rp q⟩
theorem anr(hg:Gl X "list")(hm:X.mg "list"=none)(ha:PE X a (tV G X C a'))(hs:starEach [a] X.env=[(false,eval a X.env)]):PE X (.Call (.Name "list" p) [a] [] pos) (tO G X C (.b1 .list a')):=by
 refine PE.imp (afb (amV (G:=G)) hg hm (by rfl) (aa5 ha abb hs) (by decide) (by decide) hs rfl) ?_
 rintro σV H Q ⟨w₀,H₀,w,σ,s,g,h⟩
 have h:aaL G X σV w H ((ev C a' .v σ s).bind fun x s1=>.of (b1R .list (x.dr s1)) s1) Q:=h
 obtain⟨w₀,H₀,w,σ,s,g,h⟩:=aq8 ⟨w₀,H₀,w,σ,s,g,h⟩
 exact⟨w₀,H₀,w,σ,s,g,h.imp fun v H1 q=>⟨v,rfl,q⟩⟩
def r2O(G:Gx)(f:R→R→Option R):V→V→Hp→VK→Prop:=fun x y H Q=>∃w s rx ry ts,StoOk G w H s∧aaX G w H rx x∧aaX G w H ry y∧f rx ry=some (.val (.lst ts))∧∀w' H' a vs,Le w w' H H'→StoOk G w' H' s→H' a=some (.lst vs)→aah G w' H' ts vs→H a=none→¬w'.Z a→notLoc w' a→Q (.ref a) H'
theorem akB{x' y':R}{ts:List T}(e:opR .add x' y'=some (.val (.lst ts))):∃xs ys,x'.seq=some xs∧y'.seq=some ys∧xs.length+ys.length≤lim∧ts=xs++ys:=by
 unfold opR at e
 split at e
 ·rename_i i j
  cases ho:opI .add i j with
  | none=>rw[ho]at e;cases e
  | some k=>rw[ho]at e;cases e
 ·split at e<;>cases e
 ·split at e
  ·cases e
  ·cases e
 ·split at e
  ·rename_i xs ys e1 e2
   split at e
   ·rename_i hl
    cases e
    exact⟨xs,ys,e1,e2,hl,rfl⟩
   ·cases e
  ·cases e
 ·cases e
theorem amR:OpR X (binaryOp .Add) (r2O G (opR .add)):=by
 intro pins s σ H x y v u Q I rx ry h
 obtain⟨w,st,x',y',ts,S,Rx,Ry,e,q⟩:=h
 obtain⟨xs,ys,e1,e2,hl,rfl⟩:=akB e
 obtain⟨p,vs,rfl,hp,r1⟩:=aaX.seq (s:=st) Rx e1
 obtain⟨p2,vs2,rfl,hp2,r2⟩:=aaX.seq (s:=st) Ry e2
 cases rx
 cases ry
 obtain⟨z,its,n,q1,l1,g1⟩:=Rd.lst I hp
 obtain⟨z2,its2,n2,q2,l2,g2⟩:=Rd.lst I hp2
 have hz:its.length+its2.length≤sizeLine:=by
  rw[←l1,←l2,←r1.length,←r2.length]
  have:lim≤sizeLine:=by decide
  omega
 refine PySem.P.add_list g1 g2 ?_ (by rw[List.size_toArray,List.size_toArray];exact hz)
 have ea:its.toArray++its2.toArray=(its++its2).toArray:=by simp
 rw[ea]
 exact⟨.ref _,_,I.lnew (t':=s.toks) (q1.append q2) (by rw[List.length_append,l1,l2];exact hz),rfl,afx S (r1.append r2) q _ I.fresh⟩
theorem apY(ha:PE X a (tV G X C a'))(hb:PE X b (tV G X C b')):PE X (.BinOp a .Add b pos) (tO G X C (.bin .add a' b')):=by
 refine PE.imp (ark (amR (G:=G)) ha hb) ?_
 rintro σV H Q ⟨w₀,H₀,w,σ,s,g,h⟩
 have h:aaL G X σV w H ((ev C a' .v σ s).bind fun x s1=>(ev C b' .v σ s1).bind fun y s2=>.of (opR .add x y) s2) Q:=h
 refine⟨w₀,H₀,w,σ,s,g,(aaL.bind h).imp ?_⟩
 rintro x H1 ⟨w1,r1,s1,L1,S1,R1,h1⟩
 refine⟨w₀,H₀,w1,σ,s1,g.step L1 S1,(aaL.bind h1).imp ?_⟩
 rintro y H2 ⟨w2,r2,s2,L2,S2,R2,h2⟩
 obtain⟨ts,e,q⟩:=aaL.of h2
 exact⟨w2,s2,r1,r2,ts,S2,R1.mono L2 S1,R2,e,q⟩
end
end IP
end
noncomputable section
namespace IP
open PySem PySem.Spec L2
section
variable{G:Gx}{X:Cx}{C:Cf}{w w' w₀:Wo}{H H' H₀:Hp}{σ σ':Fr}{σV σV':St}{a b e:Expr}{a' b' e':IP.E}{pos p p2:Pos}{Q:VK}{i:Nat}{x:Str}
theorem akv{s:Sto}(g:Good G w₀ H₀ w H σ s σV){a:Addr}(hn:H a=none):H₀ a=none:=by
 cases q:H₀ a with
 | none=>rfl
 | some o=>exact absurd hn (g.ent.some_ a (by rw[q];intro z;cases z))
theorem amY(he:PE X e (tO G X C e')):PS X (.Return (some e) pos) (tS G X C (.retO e')):=by
 refine PS.imp (ahD he) ?_
 rintro D σV H ⟨w₀,H₀,w,σ,s,g,h⟩
 refine⟨w₀,H₀,w,σ,s,g,?_⟩
 have h:aan G X w₀ H₀ w H σ σV (if abn C e' then(ev C e' .v σ s).st σ fun x s1=>onS x.lst? fun ts=>.retO ts s1 else .stuck) D:=h
 split at h
 ·cases hv:ev C e' .v σ s with
  | stuck=>rw[hv]at h;exact h
  | exc c s1=>rw[hv]at h;exact fun w1 H1 pins u sh L S T=>h w1 H1 σV pins u sh (g.step L S) (LeS.of L) T
  | ok r s1=>
   rw[hv]at h
   obtain⟨ts,ht,h⟩:=abi (show aan G X w₀ H₀ w H σ σV (onS r.lst? fun ts=>.retO ts s1) D from h)
   cases al3 ht
   exact fun w1 H1 a vs L S ha r hn nz nl=>h w1 H1 a vs S ha r (akv g hn) nz nl (g.ent.trans L)
 ·exact h.elim
theorem amg(hN:X.N[i]?=some x)(hv:Vis X.env.scope x)(hd:(x==("__debug__":Str))=false)(hcd:(x==("__classdict__":Str))=false):PS X (.Return (some (.Name x p)) pos) (tS G X C (.retV i)):=by
 refine PS.imp (ahD (adu hN hv hd hcd)) ?_
 rintro D σV H ⟨w₀,H₀,w,σ,s,g,h⟩
 obtain⟨ts,ht,h⟩:=abi (show aan G X w₀ H₀ w H σ σV (onS (ab5 σ i) fun ts=>.retO ts s) D from h)
 obtain⟨a,vs,e1,e2,e3,e4,e5,e6⟩:=g.fr.own i _ ts (adf ht) rfl
 exact⟨_,e1,h w H a vs g.sto e2 e3 e4 e5 e6 g.ent⟩
def spG(G:Gx)(cf:Nat→List R→Sto→Res R)(fr:Nat→Bool)(f:Nat):Sp:=fun vs H Q E=>∃w s rs,StoOk G w H s∧aaZ G w H rs vs∧match cf f rs s with
 | .stuck=>False
 | .ok r s'=>(fr f=false→∀w' H' v,Le w w' H H'→StoOk G w' H' s'→aaX G w' H' r v→Q v H')∧
   (fr f=true→∃ts,r=.val (.lst ts)∧∀w' H' a vs,Le w w' H H'→StoOk G w' H' s'→H' a=some (.lst vs)→aah G w' H' ts vs→H a=none→¬w'.Z a→notLoc w' a→Q (.ref a) H')
 | .exc c s'=>∀w' H',Le w w' H H'→StoOk G w' H' s'→E (.ref (G.cA c)) none H'
variable{k fi:Nat}{fa:Addr}{fd:FuncData}{ps:List Str}{e₀:Expr}{es:List Expr}{es':List IP.E}{rs:List R}{vs:List V}
theorem afF{w:Wo}{H:Hp}{σV:St}{m:Res (List R)}{k:List R→Sto→Res R}{Q:VK}(h:aaL G X σV w H (m.bind k) Q):ahy G X σV w H m fun vs H1=>∃w1 rs s1,Le w w1 H H1∧StoOk G w1 H1 s1∧aaZ G w1 H1 rs vs∧aaL G X σV w H (k rs s1) Q:=by
 cases m with
 | stuck=>exact h
 | ok rs s=>exact fun w' H' vs a b c=>⟨w',rs,s,a,b,c,h⟩
 | exc c s=>exact h
end
section
variable{fs:List Fn}{sub:Nat→Nat→Bool}{k fi:Nat}
variable{G:Gx}{P:Program}{w:World}{K:PySem.W.Frag}{mg:Str→Option Value}{base:Heap}
theorem abV{F:Fn}{rs:List R}{i:Nat}{b:B}(h:(aam F rs)[i]?=some (some b)):∃r,rs[i]?=some r∧ofR r=b:=by
 unfold aam at h
 by_cases hi:i<rs.length
 ·rw[List.getElem?_append_left (by simpa using hi),List.getElem?_map]at h
  cases q:rs[i]? with
  | none=>rw[q]at h;cases h
  | some r=>rw[q]at h;cases h;exact⟨r,rfl,rfl⟩
 ·rw[List.getElem?_append_right (by simpa using hi),List.getElem?_replicate]at h
  split at h<;>cases h
theorem aaZ.get{wo:Wo}{H:Hp}:∀{rs:List R}{vs:List V}{i:Nat}{r:R},aaZ G wo H rs vs→rs[i]?=some r→∃v,vs[i]?=some v∧aaX G wo H r v
 | [],_,i,t,h,e=>by simp at e
 | t::ts,_,0,u,⟨v,r,e,h,q⟩,z=>by subst e;simp at z;subst z;exact⟨v,rfl,h⟩
 | t::ts,_,i+1,u,⟨v,r,e,h,q⟩,z=>by
  subst e
  obtain⟨x,h1,h2⟩:=aaZ.get q (i:=i) (r:=u) (by simpa using z)
  exact⟨x,by simpa using h1,h2⟩
theorem aeX{N:List Str}{vs:List V}{i:Nat}{v:V}(h:vs[i]?=some v):(L2.start N vs)[i]?=some (some v):=by
 unfold L2.start
 have hi:=(List.getElem?_eq_some_iff.mp h).1
 rw[List.getElem?_append_left (by simpa using hi),List.getElem?_map,h]
 rfl
theorem ahs{wo:Wo}{H:Hp}{s:Sto}{F:Fn}{rs:List R}{vs:List V}{N:List Str}(S:StoOk G wo H s)(R1:aaZ G wo H rs vs)(hs:F.size=N.length):Good G wo H wo H (aam F rs) s (L2.start N vs):=by
 refine⟨S,⟨?_,fun i t e=>?_,fun i b ts e eb=>?_,fun i j b c ts us a ne e eb=>?_,fun i ts e=>?_⟩,Le.refl _ _⟩
 ·unfold aam L2.start
  rw[List.length_append,List.length_append,List.length_map,List.length_map,List.length_replicate,List.length_replicate,hs,R1.length]
 ·obtain⟨r,hr,q⟩:=abV e
  obtain⟨v,hv,rv⟩:=R1.get hr
  cases r with
  | val u=>cases q;exact⟨v,aeX hv,rv⟩
  | bor u=>cases q
 ·obtain⟨r,hr,q⟩:=abV e
  cases r<;>subst q<;>cases eb
 ·obtain⟨r,hr,q⟩:=abV e
  cases r<;>subst q<;>cases eb
 ·obtain⟨r,hr,q⟩:=abV e
  obtain⟨v,hv,rv⟩:=R1.get hr
  cases r with
  | val u=>cases q
  | bor u=>
   cases q
   obtain⟨a,xs,e1,e2,e3,e4⟩:=rv
   subst e1
   exact⟨a,xs,aeX hv,e2,e3,(by rw[e2];intro z;cases z),e4⟩
end
section
variable{G:Gx}{X:Cx}{pins:List (Addr×Obj)}{σV:St}{H:Hp}{c:Nat}{u:Value}{sh:Shared}
theorem agR{s:Shared}(I:Inv X pins σV H s):X.base.StaysIn (PySem.W.hideAll s.heap (frs X.stack)):=fun b o e=>
 aas.mpr ⟨I.bk b o e,fun z=>by have:=(I.stack.mem z).1;rw[e]at this;cases this⟩
theorem afU{s:Shared}(I:Inv X pins σV H s){h':Heap}{e:Addr}{args:List Value}(hm:Heap.MadeExcOf s.heap h' e (.ref (G.cA c)) args):aaV G X pins σV H c (.ref e) { s with heap:=h' }:=
 ⟨e,s.heap,PySem.W.hideAll s.heap (frs X.stack),rfl,I,⟨fun _ _=>aas,fun b o q _=>hm.keeps b o q,fun b o q _=>⟨o.slots,hm.keeps b o q⟩,hm.new⟩,agR I,.inl ⟨args,hm⟩⟩
theorem ac0{E E':Value→Shared→Prop}{Q:Unit→Shared→Prop}(hst:afL X)(T:aaV G X pins σV H c u sh)
  (hQ:∀e h B h' t,u=.ref e→Inv X pins σV H { sh with heap:=h }→Flt X.stack h B e h'→X.base.StaysIn B→Heap.FlyingW B X.stack e (.ref (G.cA c)) t h'→Q () { sh with heap:=h' }):
  wpAny (model X.prog X.w) X.A (noteFrame u X.env) (fun _ s2=>wpAny (model X.prog X.w) X.A (setFlight u none) Q E s2) E' sh:=by
 refine ac4 hst T fun e h B h1 t L eu I F sb hh=>?_
 subst eu
 refine wpAny_landsW (s:={ sh with heap:=h1 }) hh fun h2 hfl sm2=>?_
 exact hQ e h B h2 t rfl I (F.next I.stack hfl.1 sm2) sb hfl
theorem adz{M:Model}{A:Around}{E:Value→Shared→Prop}{s:Shared}{env:Env}{u:Value}{Q:Unit→Shared→Prop}(h:wpAny M A (noteFrame u env) (fun _ s2=>wpAny M A (setFlight u none) Q E s2) E s):wpAny M A (leaving env u) Q E s:=by
 unfold leaving
 exact wpAny_bind h
theorem acv{h B h':Heap}{e:Addr}(I:Inv X pins σV H { sh with heap:=h })(F:Flt X.stack h B e h'):Inv X pins σV H { sh with heap:=h' }:=by
 have nfr:∀b,H b≠none→b∉frs X.stack:=fun b n z=>n (I.stkFree b z)
 have upsl:∀b o,h.get? b=some o→∃sl,h'.get? b=some { o with slots:=sl }:=fun b o q=>by
  by_cases z:b∈frs X.stack
  ·exact F.slot b o q z
  ·exact⟨o.slots,F.keep b o q z⟩
 have ncell:∀{b:Addr}{v:Option Value},h.IsCell b v→h'.IsCell b v:=fun {b v} ⟨o,q,d⟩=>by
  obtain⟨sl,e⟩:=upsl b o q
  exact⟨_,e,d⟩
 have old:∀b o,X.s₀.heap.get? b=some o→b∉X.fs→b∉frs X.stack:=fun b o q n z=>by
  rcases List.mem_cons.mp (I.stkSub b z)with r|r
  ·rw[r]at q
   exact absurd (Heap.lt_size q) (Nat.not_lt.mpr I.ok.above)
  ·exact n r
 refine⟨I.ok,I.os,I.bare,⟨fun b o q n hb hx=>?_,fun b o q n hb hx=>?_,I.base.free,fun b o q hx=>?_,I.base.tups,I.base.frzs,I.base.tbls⟩,?_,fun x c q=>?_,I.free,I.freeC,fun p hp=>?_,fun a o q=>?_,I.len⟩
 ·exact F.keep b o (I.base.keep b o q n hb hx) (old b o q hb)
 ·obtain⟨sl,e1⟩:=I.base.slot b o q n hb hx
  obtain⟨sl',e2⟩:=upsl b _ e1
  exact⟨sl',e2⟩
 ·obtain⟨o',e1⟩:=I.base.there b o q hx
  obtain⟨sl',e2⟩:=upsl b _ e1
  exact⟨_,e2⟩
 ·obtain⟨m,⟨o,es,ep,ho,hd,r⟩,hl⟩:=I.loc
  obtain⟨sl,e1⟩:=upsl _ o ho
  refine⟨m,⟨_,es,ep,e1,hd,r⟩,fun i x v h1 h2 h3=>?_⟩
  obtain⟨w,rv,lk⟩:=hl i x v h1 h2 h3
  refine⟨w,rv,?_⟩
  rcases lk with lk|⟨lk,cc,lc,ic⟩
  ·exact .inl lk
  ·exact .inr ⟨lk,cc,lc,ncell ic⟩
 ·obtain⟨v,ic⟩:=I.cell x c q
  exact⟨v,ncell ic⟩
 ·obtain⟨p1,p2,p3,p4,p5⟩:=I.pin p hp
  refine⟨F.keep p.1 p.2 p1 fun z=>?_,p2,p3,p4,p5⟩
  rcases List.mem_cons.mp (I.stkSub _ z)with r|r
  ·exact p3 r
  ·exact p4 r
 ·refine(I.hok a o q).stay (fun b v hb r=>F.keep b v r (nfr b ?_)) (fun _ r=>r) fun _ _ r=>r
  rcases hb with rfl|hb
  ·rw[q];intro z;cases z
  ·rw[hb];intro z;cases z
end
section
variable{G:Gx}{X:Cx}{C:Cf}{pins:List (Addr×Obj)}{σV:St}{H:Hp}{c:Nat}{u:Value}{sh:Shared}
theorem ajX{P:Program}{w:World}{h:Heap}{L:Addr}(k:HOk P w H h)(n:H L=none):HOk P w H (PySem.W.hideAll h [L]):=fun a o q=>by
 refine(k a o q).stay (fun b v hb r=>aas.mpr ⟨r,fun z=>?_⟩) (fun _ r=>r) fun _ _ r=>r
 have z:b=L:=by simpa using z
 subst z
 rcases hb with rfl|hb
 ·rw[n]at q;cases q
 ·rw[n]at hb;cases hb
theorem ahl{P:Program}{w:World}{K:PySem.W.Frag}{mg:Str→Option Value}{base:Heap}{N:List Str}{qual:Str}{scope:Scope}{f:Addr}{cd:Value}{A:Around}{outer:List Env}{s:Shared}{H₁:Hp}{E:XK}
  (T:aaV G (aen (CXE G P w base) P w K mg base N qual scope f cd A outer s H₁ E) pins σV H c u sh) (hE:E (.ref (G.cA c)) none H):(aen (CXE G P w base) P w K mg base N qual scope f cd A outer s H₁ E).xe u sh:=by
 refine adz (ac0 (X:=aen (CXE G P w base) P w K mg base N qual scope f cd A outer s H₁ E) ⟨_,_,_,rfl,rfl,rfl⟩ T fun e h B h' t eu I F sb fly=>?_)
 have hL:H s.heap.objs.size=none:=I.free
 have un:=I.base
 obtain⟨f1,f2,⟨_,_,f3⟩,f4⟩:=fly
 have hne:∀b,b<s.heap.objs.size→b∉[s.heap.objs.size]:=fun b hb z=>by
  have:b=s.heap.objs.size:=by simpa using z
  omega
 refine⟨e,_,t,H,PySem.W.hideAll h [s.heap.objs.size],B,eu,I.os,I.bare,⟨fun b o q n hb hx=>?_,fun b o q n hb hx=>?_,un.free,fun b o q hx=>?_,un.tups,un.frzs,un.tbls⟩,ajX I.hok hL,⟨fun b o=>?_,fun b o q n=>?_,fun b o q n=>?_,?_⟩,sb,⟨f1,f2,f3,f4⟩,hE⟩
 ·exact aas.mpr ⟨un.keep b o q n hb hx,hne b (Heap.lt_size q)⟩
 ·obtain⟨sl,z⟩:=un.slot b o q n hb hx
  exact⟨sl,aas.mpr ⟨z,hne b (Heap.lt_size q)⟩⟩
 ·obtain⟨o',z⟩:=un.there b o q hx
  exact⟨o',aas.mpr ⟨z,hne b (Heap.lt_size q)⟩⟩
 ·rw[F.cov b o,aas]
  have efs:b∈frs (aen (CXE G P w base) P w K mg base N qual scope f cd A outer s H₁ E).stack↔b∈[s.heap.objs.size]∨b∈frs outer:=by
   show b∈s.heap.objs.size::frs outer↔_
   simp
  rw[efs]
  exact⟨fun⟨a,z⟩=>⟨⟨a,fun y=>z (.inl y)⟩,fun y=>z (.inr y)⟩,fun⟨⟨a,y⟩,z⟩=>⟨a,fun y'=>y'.elim y z⟩⟩
 ·obtain⟨a,y⟩:=aas.mp q
  refine F.keep b o a fun z=>?_
  rcases List.mem_cons.mp (show b∈s.heap.objs.size::frs outer from z)with r|r
  ·exact y (by simp[r])
  ·exact n r
 ·obtain⟨a,y⟩:=aas.mp q
  exact F.slot b o a (List.mem_cons_of_mem _ n)
 ·cases q:(PySem.W.hideAll h [s.heap.objs.size]).get? e with
  | none=>rfl
  | some o=>have:=(aas.mp q).1;rw[F.new]at this;cases this
theorem ab7{Q:Value→Unit→Shared→Prop}{E₁:Value→Value→Shared→Prop}(hx:X.xe=fun e s=>wpAny (model X.prog X.w) X.A (leaving X.env e) (Q e) (E₁ e) s):PassesOwn (model X.prog X.w) X.A X.env X.xe:=by
 intro e s' h
 rw[hx]at h
 have h2:=wpAny_leaving_again (A':=X.A) (A'':=X.A) (SameStack.refl X.A) (what:="frame.own-activation:exception-without-traceback") (E₂:=X.xe) (E₃:=cameBackBy (model X.prog X.w) X.A X.env X.xe) h
 refine wpAny_mono h2 (fun _ s1 q=>?_) fun _ _ z=>z
 refine wpAny_mono q (fun _ s2 z=>?_) fun _ _ z=>z
 show X.xe e s2
 rw[hx]
 exact z
end
section
variable{G:Gx}{X:Cx}{C:Cf}{w w' w₀:Wo}{H H' H₀:Hp}{σ σ':Fr}{σV σV':St}{a b e:Expr}{a' b' e':IP.E}{pos p p2:Pos}{Q:VK}{i:Nat}{x:Str}
variable{k fi:Nat}{fa:Addr}{fd:FuncData}{ps:List Str}{e₀:Expr}{es:List Expr}{es':List IP.E}{rs:List R}{vs dvs:List V}{ds:List Value}{dts:List T}
theorem agx{H1:Hp}{w1:Wo}{s1:Sto}(hf:C.fr fi=false)(L1:Le w w1 H H1)(S1:StoOk G w1 H1 s1)(R1:aaZ G w1 H1 rs vs)(h:aa4 G X σV w H (C.cf fi rs s1) Q):spG G C.cf C.fr fi vs H1 Q (EX G X σV):=by
 refine⟨w1,s1,rs,S1,R1,?_⟩
 have h:=aa4.mono L1 h
 cases hc:C.cf fi rs s1 with
 | stuck=>rw[hc]at h;exact h
 | ok r s'=>rw[hc]at h;exact⟨fun _=>h,fun z=>by rw[hf]at z;cases z⟩
 | exc c s'=>
  rw[hc]at h
  intro w' H' L S pins u sh hh B a t e I fl sb fly
  exact h w' H' pins u sh L S ⟨a,hh,B,e,I,fl,sb,.inr (.inl ⟨t,fly⟩)⟩
theorem apb{H1:Hp}{w1:Wo}{s1:Sto}(hf:C.fr fi=true)(L1:Le w w1 H H1)(S1:StoOk G w1 H1 s1)(R1:aaZ G w1 H1 rs vs)(h:aaL G X σV w H (C.cf fi rs s1) Q):spG G C.cf C.fr fi vs H1 Q (EX G X σV):=by
 refine⟨w1,s1,rs,S1,R1,?_⟩
 have h:=aaL.mono L1 h
 cases hc:C.cf fi rs s1 with
 | stuck=>rw[hc]at h;exact h
 | ok r s'=>
  rw[hc]at h
  obtain⟨ts,er,q⟩:=aaL.of (o:=some r) (s:=s') h
  cases er
  exact⟨fun z=>(by rw[hf]at z;cases z),fun _=>⟨ts,rfl,q⟩⟩
 | exc c s'=>
  rw[hc]at h
  intro w' H' L S pins u sh hh B a t e I fl sb fly
  exact h w' H' pins u sh L S ⟨a,hh,B,e,I,fl,sb,.inr (.inl ⟨t,fly⟩)⟩
theorem akw(hf:C.fr fi=false)(F:FnOk X.prog X.w X.K X.mg X.base (CXE G X.prog X.w X.base) k fa fd ps (spG G C.cf C.fr fi))(hr:Room k X.A)(hg:Gl X x)(hm:X.mg x=some (.ref fa))(hk:PySem.W.keepIn X.K (.ref fa)=true)(hb:Binds X.K fd ps ds)(hd:Vals dvs ds)
  (hdt:dts.mapM cstV=some dvs) (ha:PA X (e₀::es) (tR G X C es')) (hdb:(x==("__debug__":Str))=false) (he:starEach (e₀::es) X.env=(false,eval e₀ X.env)::starEach es X.env) (hpl:(backTo pos (starEach es X.env)).any (·.1)=false):
  PE X (.Call (.Name x p) (e₀::es) [] pos) (tV G X C (.call fi es' dts)):=by
 rintro pins s σV H Q I ⟨w₀,H₀,w,σ,st,g,h⟩
 have h:aa4 G X σV w H ((evr C es' σ st).bind fun rs s1=>C.cf fi (rs++dts.map .val) s1) Q:=h
 refine wpAny_Call_Name_kw (abT I hg hm ?_ hdb)
 refine PySem.W.callWith_K (h₀:=X.base) I.ok.mod.kin hk (thn (ha pos pins s σV H _ I ⟨w₀,H₀,w,σ,st,g,acp h⟩) fun us s1 ⟨vs,H1,I1,r,q⟩=>⟨I1.kIn,?_⟩) he hpl
 obtain⟨w1,rs,st1,L1,S1,R1,h1⟩:=q
 exact acE F hr hb hd I1 r (agx hf L1 S1 (aaK R1 (abx hdt)) h1) (ab1 I1)
theorem agf(hf:C.fr fi=true)(F:FnOk X.prog X.w X.K X.mg X.base (CXE G X.prog X.w X.base) k fa fd ps (spG G C.cf C.fr fi))(hr:Room k X.A)(hg:Gl X x)(hm:X.mg x=some (.ref fa))(hk:PySem.W.keepIn X.K (.ref fa)=true)(hb:Binds X.K fd ps ds)(hd:Vals dvs ds)
  (hdt:dts.mapM cstV=some dvs) (ha:PA X (e₀::es) (tR G X C es')) (hdb:(x==("__debug__":Str))=false) (he:starEach (e₀::es) X.env=(false,eval e₀ X.env)::starEach es X.env) (hpl:(backTo pos (starEach es X.env)).any (·.1)=false):
  PE X (.Call (.Name x p) (e₀::es) [] pos) (tO G X C (.call fi es' dts)):=by
 rintro pins s σV H Q I ⟨w₀,H₀,w,σ,st,g,h⟩
 have h:aaL G X σV w H ((evr C es' σ st).bind fun rs s1=>C.cf fi (rs++dts.map .val) s1) Q:=h
 refine wpAny_Call_Name_kw (abT I hg hm ?_ hdb)
 refine PySem.W.callWith_K (h₀:=X.base) I.ok.mod.kin hk (thn (ha pos pins s σV H _ I ⟨w₀,H₀,w,σ,st,g,afF h⟩) fun us s1 ⟨vs,H1,I1,r,q⟩=>⟨I1.kIn,?_⟩) he hpl
 obtain⟨w1,rs,st1,L1,S1,R1,h1⟩:=q
 exact acE F hr hb hd I1 r (apb hf L1 S1 (aaK R1 (abx hdt)) h1) (ab1 I1)
theorem ajm(hf:C.fr fi=true)(hvl:∀rs s r s',C.cf fi rs s=.ok r s'→∃ts,r=.val (.lst ts))(F:FnOk X.prog X.w X.K X.mg X.base (CXE G X.prog X.w X.base) k fa fd ps (spG G C.cf C.fr fi))(hr:Room k X.A)(hg:Gl X x)(hm:X.mg x=some (.ref fa))(hk:PySem.W.keepIn X.K (.ref fa)=true)(hb:Binds X.K fd ps ds)(hd:Vals dvs ds)
  (hdt:dts.mapM cstV=some dvs) (ha:PA X (e₀::es) (tR G X C es')) (hdb:(x==("__debug__":Str))=false) (he:starEach (e₀::es) X.env=(false,eval e₀ X.env)::starEach es X.env) (hpl:(backTo pos (starEach es X.env)).any (·.1)=false):
  PE X (.Call (.Name x p) (e₀::es) [] pos) (tV G X C (.call fi es' dts)):=by
 refine ao3 (agf hf F hr hg hm hk hb hd hdt ha hdb he hpl) fun σ s r s1 h=>?_
 have h:(evr C es' σ s).bind (fun rs s1=>C.cf fi (rs++dts.map .val) s1)=.ok r s1:=h
 cases hq:evr C es' σ s with
 | stuck=>rw[hq]at h;cases h
 | exc c s2=>rw[hq]at h;cases h
 | ok rs s2=>rw[hq]at h;exact hvl _ _ _ _ h
end
structure FunD(K:PySem.W.Frag)(x qual:Str)(st:Stmt)(f:Addr)(fd:FuncData):Prop where
 ex:∃(oc:Value) (od:Option Addr) (dV kV doc pm:Value) (an:Option Addr) (cdv ct:Value) (osl:Array (Option Value)),
  fd=PySem.W.fnOf x qual (defArgs st) (defBody st) (defScope st) dV kV doc pm an cdv ct∧K.lookup f=some ⟨oc,od,.func fd,osl⟩∧PySem.W.codeIn K cdv qual=true
 kp:PySem.W.keepIn K (.ref f)=true
theorem aiD{K:PySem.W.Frag}{x qual:Str}{st:Stmt}{f:Addr}{oc:Value}{od an:Option Addr}{osl:Array (Option Value)}{dV kV doc pm cdv ct:Value}(l:K.lookup f=some ⟨oc,od,.func (PySem.W.fnOf x qual (defArgs st) (defBody st) (defScope st) dV kV doc pm an cdv ct),osl⟩)
  (c:PySem.W.codeIn K cdv qual=true) (k:PySem.W.keepIn K (.ref f)=true):FunD K x qual st f (PySem.W.fnOf x qual (defArgs st) (defBody st) (defScope st) dV kV doc pm an cdv ct):=⟨⟨oc,od,dV,kV,doc,pm,an,cdv,ct,osl,rfl,l,c⟩,k⟩
section
variable{fs:List Fn}{sub:Nat→Nat→Bool}{k fi:Nat}
theorem akK(hf:adK fs fi=true):∀(k:Nat) (rs:List R) (s:Sto) (r:R) (s':Sto),run true fs sub aad k fi rs s=.ok r s'→∃ts,r=.val (.lst ts)
 | 0,rs,s,c,s',h=>by cases h
 | k+1,rs,s,c,s',h=>by
  unfold run at h
  unfold adK at hf
  split at h
  ·cases h
  ·rename_i F e
   rw[e]at hf
   have hf:F.fr=true:=hf
   split at h
   ·generalize exs _ _ _ s=r at h
    cases r<;>simp only[aaC,hf]at h
    ·cases h
    ·simp at h
    ·simp at h
    ·rename_i ts _;exact⟨ts,by simp at h;exact h.1.symm⟩
    ·simp at h
   ·cases h
variable{G:Gx}{P:Program}{w:World}{K:PySem.W.Frag}{mg:Str→Option Value}{base:Heap}
theorem afS{CX:CXT}{f:Addr}{fd:FuncData}{ps:List Str}{k:Nat}:FnOk P w K mg base CX k f fd ps (spG G (run true fs sub aad 0) (adK fs) fi):=
 ⟨fun vs H Q E ⟨_,_,_,_,_,z⟩=>z.elim,fun A outer s H args us vs Q E hr e0 hb hv ⟨_,_,_,_,_,z⟩=>z.elim⟩
@[reducible] def cfX (fs:List Fn) (sub:Nat→Nat→Bool) (k:Nat):Cf:=⟨run true fs sub aad k,sub,adK fs,aad⟩
theorem aon{x qual:Str}{st:Stmt}{f:Addr}{fd:FuncData}{N ps:List Str}{F:Fn}(Fu:FunD K x qual st f fd)(S:FnScope N ps (defScope st))(hF:fs[fi]?=some F)(hp:F.pars=ps.length)(hs:F.size=N.length)
  (hbody:∀(cdv:Value) (A:Around) (outer:List Env) (s:Shared) (H:Hp) (E:XK),fd.code=cdv→Room (2*k+1) (A.deeper (PyProof.Rows.envOfC qual (defScope st) s.heap.objs.size f cdv))→
   PSs (aen (CXE G P w base) P w K mg base N qual (defScope st) f cdv A outer s H E) (defBody st) (tSs G (aen (CXE G P w base) P w K mg base N qual (defScope st) f cdv A outer s H E) (cfX fs sub k) F.body)):
  FnOk P w K mg base (CXE G P w base) (2*(k+1)) f fd ps (spG G (run true fs sub aad (k+1)) (adK fs) fi):=by
 have hrun:∀rs s,run true fs sub aad (k+1) fi rs s=if rs.length=F.pars then aaC true F.fr (exs (cfX fs sub k) F.body (aam F rs) s)else .stuck:=fun rs s=>by
  conv=>lhs;unfold run
  rw[hF]
 have hfr:adK fs fi=F.fr:=by unfold adK;rw[hF]
 obtain⟨oc,od,dV,kV,doc,pm,an,cdv,ct,osl,rfl,lk,hcd⟩:=Fu.ex
 refine aow (k:=2*k+1) lk hcd S (fun vs H Q E h=>?_) fun A outer s H vs Q E hr h=>⟨_,hbody cdv A outer s H E rfl hr,?_⟩
 ·obtain⟨wo,st,rs,S1,R1,h⟩:=h
  rw[hrun]at h
  by_cases hl:rs.length=F.pars
  ·exact R1.length.symm.trans (hl.trans hp)
  ·rw[if_neg hl]at h;exact h.elim
 ·obtain⟨wo,st,rs,S1,R1,h⟩:=h
  rw[hrun]at h
  by_cases hl:rs.length=F.pars
  ·rw[if_pos hl]at h
   refine⟨wo,H,wo,aam F rs,st,ahs S1 R1 hs,?_⟩
   rw[hfr]at h
   cases hx:exs (cfX fs sub k) F.body (aam F rs) st with
   | stuck=>rw[hx]at h;exact h.elim
   | next σ' s'=>
    rw[hx]at h
    cases hb:F.fr with
    | true=>rw[hb]at h;exact h.elim
    | false=>rw[hb]at h;exact fun w' H' σV' g L=>h.1 rfl w' H' .non g.ent g.sto rfl
   | ret r s'=>
    rw[hx]at h
    cases hb:F.fr with
    | true=>rw[hb]at h;exact h.elim
    | false=>rw[hb]at h;exact fun w' H' v S R L=>h.1 rfl w' H' v L S R
   | retO ts s'=>
    rw[hx]at h
    cases hb:F.fr with
    | false=>rw[hb]at h;exact h.elim
    | true=>
     rw[hb]at h
     obtain⟨us,e,q⟩:=h.2 rfl
     cases e
     exact fun w' H' a vs S ha r hn nz nl L=>q w' H' a vs L S ha r hn nz nl
   | exc c σ' s'=>
    rw[hx]at h
    exact fun w' H' σV' pins u sh g L T=>ahl T (h w' H' g.ent g.sto)
  ·rw[if_neg hl]at h;exact h.elim
theorem aqN{x qual:Str}{st:Stmt}{f:Addr}{fd:FuncData}{N ps:List Str}{F:Fn}(Fu:FunD K x qual st f fd)(S:FnScope N ps (defScope st))(hF:fs[fi]?=some F)(hp:F.pars=ps.length)(hs:F.size=N.length)
  (hbody:∀(cdv:Value) (A:Around) (outer:List Env) (s:Shared) (H:Hp) (E:XK),Room (2*k+1) (A.deeper (PyProof.Rows.envOfC qual (defScope st) s.heap.objs.size f cdv))→
   PSs (aen (CXE G P w base) P w K mg base N qual (defScope st) f cdv A outer s H E) (defBody st) (tSs G (aen (CXE G P w base) P w K mg base N qual (defScope st) f cdv A outer s H E) (cfX fs sub k) F.body)):
  FnOk P w K mg base (CXE G P w base) (2*(k+1)) f fd ps (spG G (run true fs sub aad (k+1)) (adK fs) fi):=
 aon Fu S hF hp hs fun cdv A outer s H E _ hr=>hbody cdv A outer s H E hr
end
theorem anf{K:PySem.W.Frag}{h:Heap}{Ca:Addr}{bB:List Value}{nid:String}(hK:K.In h)(q:PySem.W.excIn K Ca bB nid=true):
  ∃bm N nm qn bs hdct sn sub ab col dd k0 k1 k2 k3 k5 mN,h.get? Ca=some (excClassObj nm qn Ca N bs bm hdct sn sub ab col dd k0 k1 k2 k3 k5 nid)∧h.Ns N mN∧mN "__init__"=none∧OwnTail h bB bm:=by
 unfold PySem.W.excIn at q
 split at q
 ·rename_i d1 cl sl ho
  split at q
  ·rename_i Cb tl u0 u1 u2 u3 nn u5 em es
   simp only[Bool.and_eq_true,beq_iff_eq,Bool.not_eq_true']at q
   obtain⟨⟨⟨⟨⟨q1,q2⟩,q3⟩,q4⟩,q5⟩,q6⟩:=q
   subst q1 q2
   obtain⟨nm0,bs0,mro0,ns0,qn0,hd0,sn0,sub0,ab0,col0,del0⟩:=cl
   dsimp only at em q3 q5 q6
   subst em q3
   have hg:=hK _ _ ho
   have esl:sl=#[u0,u1,u2,u3,some (.builtin nn),u5]:=by
    apply Array.toList_inj.mp
    rw[es]
   subst esl
   exact⟨tl,ns0,nm0,qn0,bs0,hd0,sn0,sub0,ab0,col0,d1,u0,u1,u2,u3,u5,_,hg,.of_isNs (PySem.W.isNs_of_in hK q5),PySem.W.nsMap_none_of_in hK q5 q6,PySem.W.tail_of_in hK q4⟩
  ·cases q
 ·cases q
section
variable{G:Gx}{X:Cx}{C:Cf}{w w' w₀:Wo}{H H' H₀:Hp}{σ σ':Fr}{σV σV':St}{c:Nat}{x:Str}{np cpos pos mp:Pos}{m:Str}{j:Nat}
theorem aki{bB:List Value}{B nid iid:String}(hc:X.calm=true)(hg:Gl X x)(hm:X.mg x=some (.ref (G.cA c)))(hq:PySem.W.excIn X.K (G.cA c) bB nid=true)(FB:ExcBaseFacts B nid iid bB)(hdb:(x==("__debug__":Str))=false)
  (he:starEach [.Constant (.str m) j mp] X.env=[(false,eval (.Constant (.str m) j mp) X.env)]):PS X (.Raise (some (.Call (.Name x np) [.Constant (.str m) j mp] [] cpos)) none pos) (tS G X C (.raise c)):=by
 rintro pins s σV H D I ⟨w₀,H₀,w,σ,st,g,h⟩
 have hx:∀u sh,aaV G X pins σV H c u sh→X.xe u sh:=fun u sh T=>h w H σV pins u sh g LeS.refl T
 obtain⟨tl,N,nm,qn,bs,hdct,sn,sub,ab,col,dd,k0,k1,k2,k3,k5,mN,hC,hN,hni,T⟩:=anf (I.ok.mod.kin) hq
 refine wpAny_Raise_call_subT (C:=G.cA c) (nm:=nm) (q:=qn) (N:=N) (bs:=bs) (bm:=tl) (hdct:=hdct) (sn:=sn) (sub:=sub) (ab:=ab) (col:=col) (dd:=dd) (k0:=k0) (k1:=k1) (k2:=k2) (k3:=k3) (k5:=k5)
  FB (mN:=mN) (T.hasType FB.hasBase) (I.ok.hd hc) (by rw[he];rfl) hni (abT I hg hm ⟨rfl,?_⟩ hdb)
 have ha:PA X [.Constant (.str m) j mp] (aqy (tC (.str m)) aw2):=aa5 afa abb (by rw[he];rfl)
 have z:=ha cpos pins s σV H (fun vs H1=>vs=[.str m]∧H1=H) I ⟨rfl,rfl⟩
 rw[he]at z ⊢
 refine PySem.Calls.evalArgs_plain (wpAny_mono z (fun vs s₂ h₂=>?_) fun _ _ y=>y)
 obtain⟨ws,H1,I1,rv,rfl,rfl⟩:=h₂
 have hl:=rv.length
 refine⟨rfl,?_,I1.bk _ _ hC,hN.keeps I1.bk,T.keeps I1.bk,fun h' e hmd=>hx _ _ (afU I1 hmd)⟩
 show vs.length≤sizeLine
 rw[←hl]
 show 1≤sizeLine
 decide
end
section
variable{M:Model}{A:Around}{E:Value→Shared→Prop}{s:Shared}{env:Env}
theorem aeo{body orelse:Sem Flow}{h₀:ExceptHandler}{hs:List ExceptHandler}{Q:Flow→Shared→Prop}
  (h:wpAny M A body (fun f s₁=>match f with | .next=>wpAny M A orelse Q E s₁|f=>Q f s₁)
   (fun e s₁=>wpAny M A (leaving env e) (fun _ s₃=>wpAny M A (handleBy e env (h₀::hs)) Q E s₃) E s₁) s):
  wpAny M A (tryStmt false body (h₀::hs) orelse [] env) Q E s:=by
 have e0:tryStmt false body (h₀::hs) orelse [] env=(body.attempt >>= fun r=>match r with
   | .ok .next=>orelse
   | .ok f=>pure f
   | .error e=>leaving env e >>= fun _=>handleBy e env (h₀::hs)):=by
  unfold tryStmt
  simp only[List.isEmpty_nil,if_true,List.isEmpty_cons,Bool.false_and,Bool.false_eq_true,if_false,bind_pure]
  congr 1
  funext r
  cases r with
  | error e=>unfold leaving;simp only[bind_assoc,pure_bind]
  | ok f=>cases f<;>rfl
 rw[e0]
 refine wpAny_bind (wpAny_attempt (wpAny_mono h (fun f s₁ h₁=>?_) fun e s₁ h₁=>?_))
 ·cases f<;>first|exact h₁|exact wpAny_pure h₁
 ·exact wpAny_bind h₁
end
def Wo.addL(w:Wo)(a:Addr):Wo:={ n:=w.n+1,io:=fun k=>if k=w.n then a else w.io k,Z:=w.Z }
theorem abe{w:Wo}{a:Addr}{l:Nat}(h:l<w.n):(w.addL a).io l=w.io l:=by
 show(if l=w.n then a else w.io l)=w.io l
 rw[if_neg (Nat.ne_of_lt h)]
theorem ab6{w:Wo}{a:Addr}:(w.addL a).io w.n=a:=by
 show(if w.n=w.n then a else w.io w.n)=a
 rw[if_pos rfl]
section
variable{G:Gx}{X:Cx}{C:Cf}{w w' w₀:Wo}{H H' H₀:Hp}{σ σ':Fr}{σV σV':St}{s:Sto}{a:Addr}{l:Nat}
theorem afG:Kp w (w.addL a) H H:=⟨Nat.le_succ _,fun l h=>abe h,fun _ z=>z,fun _ _ _ r=>r,fun _ _ e=>e,fun _ _ e=>e⟩
theorem abm.addL{b:Addr}:∀{c:Cell},abm G w H b c→abm G (w.addL a) H b c
 | .lst ts,⟨vs,h,r⟩=>⟨vs,h,aah.kp afG ts vs r⟩
 | .ins c fs,⟨dx,kvs,h,z,k⟩=>⟨dx,kvs,h,z,fun i x t h1 h2=>let ⟨v,q1,q2⟩:=k i x t h1 h2;⟨v,q1,Rep.kp afG t v q2⟩⟩
 | .tbl k p q,h=>h
theorem StoOk.addL{c:Cell}(S:StoOk G w H s)(hc:abm G (w.addL a) H a c)(nz:¬w.Z a)(nl:IP.notLoc w a):StoOk G (w.addL a) H (s++[c])where
 len:=by rw[List.length_append,S.len];rfl
 inj:=fun i j hi hj e=>by
  have hi:i<w.n+1:=hi
  have hj:j<w.n+1:=hj
  by_cases h1:i<w.n
  ·by_cases h2:j<w.n
   ·rw[abe h1,abe h2]at e
    exact S.inj i j h1 h2 e
   ·have:j=w.n:=by omega
    subst this
    rw[abe h1,ab6]at e
    exact absurd e.symm (nl i h1)
  ·have:i=w.n:=by omega
   subst this
   by_cases h2:j<w.n
   ·rw[abe h2,ab6]at e
    exact absurd e (nl j h2)
   ·omega
 nz:=fun i hi z=>by
  have hi:i<w.n+1:=hi
  by_cases h1:i<w.n
  ·rw[abe h1]at z
   exact S.nz i h1 z
  ·have:i=w.n:=by omega
   subst this
   rw[ab6]at z
   exact nz z
 cell:=fun i d e=>by
  by_cases h1:i<w.n
  ·rw[List.getElem?_append_left (by rw[S.len];exact h1)]at e
   rw[abe h1]
   exact abm.addL (S.cell i d e)
  ·have hl:=(List.getElem?_eq_some_iff.mp e).1
   rw[List.length_append,S.len]at hl
   have:i=w.n:=by simp at hl;omega
   subst this
   rw[List.getElem?_append_right (by rw[S.len];exact Nat.le_refl _),S.len,Nat.sub_self]at e
   cases e
   rw[ab6]
   exact hc
 zt:=S.zt
theorem Le.addL(L:Le w w' H H')(ha:H a=none):Le w (w'.addL a) H H' where
 n:=Nat.le_trans L.n (Nat.le_succ _)
 io:=fun i h=>(abe (Nat.lt_of_lt_of_le h L.n)).trans (L.io i h)
 Z:=L.Z
 keep:=L.keep
 newL:=fun i h1 h2=>by
  have h2:i<w'.n+1:=h2
  by_cases h:i<w'.n
  ·rw[abe h]
   exact L.newL i h1 h
  ·have:i=w'.n:=by omega
   subst this
   rw[ab6]
   exact ha
 newZ:=L.newZ
 some_:=L.some_
mutual
theorem Rep.updC{o o':HO}(ha:H a=some o)(hz:¬w.Z a)(ht:∀vs,o≠.tup vs)(hx:∀φ,o≠.ext φ):∀(t:T) (v:V),Rep G w H t v→Rep G w (L2.upd H a o') t v
 | .non,v,h=>h
 | .bl b,v,h=>h
 | .int i,v,h=>h
 | .str x,v,h=>h
 | .tup ts,v,⟨p,vs,e,h,r⟩=>⟨p,vs,e,by rw[aag (fun q=>by rw[q,ha]at h;exact ht vs (Option.some.inj h))];exact h,aah.updC ha hz ht hx ts vs r⟩
 | .lst ts,v,⟨p,vs,e,z,h,r⟩=>by
  have ne:p≠a:=fun q=>hz (q▸z)
  refine⟨p,vs,e,z,?_,aah.updC ha hz ht hx ts vs r⟩
  rcases h with h|⟨o,h⟩
  ·exact .inl (by rw[aag ne];exact h)
  ·exact .inr ⟨o,by rw[aag ne];exact h⟩
 | .loc l,v,h=>h
 | .exc c,v,⟨p,e,h⟩=>⟨p,e,by rw[aag (fun q=>by rw[q,ha]at h;exact hx _ (Option.some.inj h))];exact h⟩
theorem aah.updC{o o':HO}(ha:H a=some o)(hz:¬w.Z a)(ht:∀vs,o≠.tup vs)(hx:∀φ,o≠.ext φ):∀(ts:List T) (vs:List V),aah G w H ts vs→aah G w (L2.upd H a o') ts vs
 | [],vs,h=>h
 | t::ts,vs,⟨v,r,e,h,q⟩=>⟨v,r,e,Rep.updC ha hz ht hx t v h,aah.updC ha hz ht hx ts r q⟩
end
theorem StoOk.setC{o o':HO}{c:Cell}(S:StoOk G w H s)(hl:l<w.n)(ha:H (w.io l)=some o)(ht:∀vs,o≠.tup vs)(hx:∀φ,o≠.ext φ)(hc:abm G w (L2.upd H (w.io l) o') (w.io l) c):StoOk G w (L2.upd H (w.io l) o') (s.set l c)where
 len:=by rw[List.length_set];exact S.len
 inj:=S.inj
 nz:=S.nz
 cell:=fun i d e=>by
  by_cases hi:l=i
  ·subst hi
   rw[List.getElem?_set_self (by rw[S.len];exact hl)]at e
   cases e
   exact hc
  ·rw[List.getElem?_set_ne hi]at e
   have hin:i<w.n:=by rw[←S.len];exact(List.getElem?_eq_some_iff.mp e).1
   have ne:w.io i≠w.io l:=fun q=>hi (S.inj i l hin hl q).symm
   have nz:=S.nz l hl
   have q:=S.cell i d e
   cases d with
   | lst ts=>obtain⟨vs,q1,q2⟩:=q;exact⟨vs,by rw[aag ne];exact q1,aah.updC ha nz ht hx ts vs q2⟩
   | ins c fs=>obtain⟨dx,kvs,q1,q2,q3⟩:=q;exact⟨dx,kvs,by rw[aag ne];exact q1,q2,fun i x t h1 h2=>let ⟨v,z1,z2⟩:=q3 i x t h1 h2;⟨v,z1,Rep.updC ha nz ht hx t v z2⟩⟩
   | tbl k p q'=>obtain⟨q0,ps,q1,q2,q3⟩:=q;exact⟨q0,ps,by rw[aag ne];exact q1,q2,fun cv hcv=>let ⟨c,e1,e2⟩:=q3 cv hcv;⟨c,e1,by rw[aag (ajY e2 ha (fun z=>hx _ z.symm))];exact e2⟩⟩
 zt:=fun p z=>by
  obtain⟨vs,r⟩:=S.zt p z
  have ne:p≠w.io l:=fun q=>S.nz l hl (q▸z)
  rcases r with r|⟨o,r⟩
  ·exact⟨vs,.inl (by rw[aag ne];exact r)⟩
  ·exact⟨vs,.inr ⟨o,by rw[aag ne];exact r⟩⟩
theorem Le.setC{o':HO}(L:Le w w' H H')(hl:l<w'.n)(hs:H' (w'.io l)≠none):Le w w' H (L2.upd H' (w'.io l) o')where
 n:=L.n
 io:=L.io
 Z:=L.Z
 keep:=fun p q e nl=>by
  have ne:p≠w'.io l:=fun z=>by
   by_cases h:l<w.n
   ·exact nl l h (z.trans (L.io l h))
   ·have:=L.newL l (Nat.le_of_not_lt h) hl
    rw[←z,e]at this
    cases this
  rw[aag ne]
  exact L.keep p q e nl
 newL:=L.newL
 newZ:=L.newZ
 some_:=fun p z=>by
  by_cases e:p=w'.io l
  ·rw[e,aax];intro q;cases q
  ·rw[aag e];exact L.some_ p z
theorem Good.setC{o o':HO}{c:Cell}(g:Good G w₀ H₀ w H σ s σV)(hl:l<w.n)(ha:H (w.io l)=some o)(ht:∀vs,o≠.tup vs)(hx:∀φ,o≠.ext φ)(hc:abm G w (L2.upd H (w.io l) o') (w.io l) c):
  Good G w₀ H₀ w (L2.upd H (w.io l) o') σ (s.set l c) σV∧LeS w w H (L2.upd H (w.io l) o') σ σ σV σV:=by
 have nz:=g.sto.nz l hl
 have hn:H (w.io l)≠none:=by rw[ha];intro z;cases z
 refine⟨⟨g.sto.setC hl ha ht hx hc,⟨g.fr.len,fun i t e=>?_,fun i b ts e eb=>?_,g.fr.apart,fun i ts e=>?_⟩,g.ent.setC hl hn⟩,LeS.of ((Le.refl w H).setC hl hn)⟩
 ·obtain⟨v,h1,h2⟩:=g.fr.val i t e
  exact⟨v,h1,Rep.updC ha nz ht hx t v h2⟩
 ·obtain⟨p,vs,h1,h2,h3,h4,h5,h6⟩:=g.fr.own i b ts e eb
  exact⟨p,vs,h1,by rw[aag (h6 l hl)];exact h2,aah.updC ha nz ht hx ts vs h3,h4,h5,h6⟩
 ·obtain⟨p,vs,h1,h2,h3,h4,h6⟩:=g.fr.bor i ts e
  exact⟨p,vs,h1,by rw[aag (h6 l hl)];exact h2,aah.updC ha nz ht hx ts vs h3,h4,h6⟩
theorem af8{r:R}{v:V}{p:Nat×List T}(S:StoOk G w H s)(R1:aaX G w H r v)(h:r.locL s=some p):r=.val (.loc p.1)∧v=.ref (w.io p.1)∧p.1<w.n∧∃vs,H (w.io p.1)=some (.lst vs)∧aah G w H p.2 vs:=by
 unfold R.locL at h
 split at h
 ·rename_i l
  split at h
  ·rename_i ts q
   cases h
   obtain⟨hl,e⟩:=R1
   obtain⟨vs,h1,h2⟩:=S.cell l _ q
   exact⟨rfl,e,hl,vs,h1,h2⟩
  ·cases h
 ·cases h
theorem af1{r:R}{v:V}{c:Nat}{p:Nat×List (Option T)}(S:StoOk G w H s)(R1:aaX G w H r v)(h:r.locI s c=some p):r=.val (.loc p.1)∧v=.ref (w.io p.1)∧p.1<w.n∧s[p.1]?=some (.ins c p.2)∧abm G w H (w.io p.1) (.ins c p.2):=by
 unfold R.locI at h
 split at h
 ·rename_i l
  split at h
  ·rename_i d fs q
   split at h
   ·rename_i hd
    subst hd
    cases h
    obtain⟨hl,e⟩:=R1
    exact⟨rfl,e,hl,q,S.cell l _ q⟩
   ·cases h
  ·cases h
 ·cases h
end
section
variable{G:Gx}{X:Cx}{C:Cf}{w w' w₀:Wo}{H H' H₀:Hp}{σ σ':Fr}{σV σV':St}{a b e j o:Expr}{a' b' e' j':IP.E}{pos pos' p p1 p2 apos:Pos}{Q:VK}{i c f:Nat}{x m:Str}
variable{k fi:Nat}{fa:Addr}{fd:FuncData}{ps:List Str}{e₀:Expr}{es:List Expr}{es':List IP.E}{rs:List R}{vs dvs:List V}{ds:List Value}{dts:List T}
theorem arj(hc:Cls X.K (G.iA c))(hn:(G.nm c)[f]?=some x)(ha':abl X.K (G.iA c) x)(ha:PE X a (tV G X C a'))(hb:attributeBase a x X.env (eval a X.env)=eval a X.env):PE X (.Attribute a x pos) (tV G X C (.fld a' c f)):=by
 refine PE.imp (aqQ ha hb) ?_
 rintro σV H Q ⟨w₀,H₀,w,σ,s,g,h⟩
 have h:aa4 G X σV w H ((ev C a' .v σ s).bind fun x s1=>.of ((ae2 s1 x c f).map .val) s1) Q:=h
 refine⟨w₀,H₀,w,σ,s,g,(aa4.bind h).imp ?_⟩
 rintro v H1 ⟨w1,r,s1,L1,S1,R1,h1⟩
 obtain⟨r',e,q⟩:=aa4.of h1
 obtain⟨t,ht,rfl⟩:=map_some e
 unfold ae2 at ht
 split at ht
 ·rename_i l
  split at ht
  ·rename_i d fs hq
   split at ht
   ·rename_i hd
    subst hd
    obtain⟨hl,rfl⟩:=R1
    obtain⟨dx,kvs,z1,z2,z3⟩:=S1.cell l _ hq
    have hf:fs[f]?=some (some t):=by
     cases q2:fs[f]? with
     | none=>rw[q2]at ht;cases ht
     | some u=>rw[q2]at ht;exact congrArg some ht
    obtain⟨u,y1,y2⟩:=z3 f x t hn hf
    exact⟨w1.io l,_,dx,kvs,u,rfl,z1,hc,ha',y1,q w1 H1 u (Le.refl _ _) S1 y2⟩
   ·cases ht
  ·cases ht
 ·cases ht
theorem ahC(ha:PE X a (tO G X C a')):PE X a (tV G X C (.cell a')):=by
 refine PE.imp ha ?_
 rintro σV H Q ⟨w₀,H₀,w,σ,s,g,h⟩
 have h:aa4 G X σV w H ((ev C a' .v σ s).bind fun x s1=>onL x fun ts=>.ok (.val (.loc s1.length)) (s1++[.lst ts])) Q:=h
 refine⟨w₀,H₀,w,σ,s,g,?_⟩
 cases he:ev C a' .v σ s with
 | stuck=>rw[he]at h;exact h
 | exc c s1=>rw[he]at h;exact h
 | ok r s1=>
  rw[he]at h
  match r,h with
  | .val (.lst ts),h=>
   intro w1 H1 p vs L S ha r hn nz nl
   refine h (w1.addL p) H1 (.ref p) (L.addL hn) (S.addL ⟨vs,ha,aah.kp afG ts vs r⟩ nz nl) ⟨?_,?_⟩
   ·rw[S.len];exact Nat.lt_succ_self _
   ·rw[S.len,ab6]
  | .val .non,h=>exact h.elim
  | .val (.bl _),h=>exact h.elim
  | .val (.int _),h=>exact h.elim
  | .val (.str _),h=>exact h.elim
  | .val (.tup _),h=>exact h.elim
  | .val (.loc _),h=>exact h.elim
  | .val (.exc _),h=>exact h.elim
  | .bor _,h=>exact h.elim
theorem afc{kvs:List (Str×V)}{nm:List Str}(k:arI nm kvs)(hm:m∉nm):kvs.lookup m=none:=by
 cases q:kvs.lookup m with
 | none=>rfl
 | some v=>exact absurd (k.2 m (List.mem_map.mpr ⟨(m,v),acn q,rfl⟩)) hm
theorem apB{α:Type}{o:Option α}{f:α→Res R}(h:aa4 G X σV w H (onO o f) Q):∃a,o=some a∧aa4 G X σV w H (f a) Q:=by
 cases o with
 | none=>exact h.elim
 | some a=>exact⟨a,rfl,h⟩
theorem acV{r:R}{v:V}(h:aaX G w H r v)(h2:aaZ G w H rs vs):aaZ G w H (r::rs) (v::vs):=⟨v,vs,rfl,h,h2⟩
theorem akb{pl:Sem Bool}(hf:C.fr fi=false)(hcl:Cls X.K (G.iA c))(hmt:Meth X.K (G.iA c) m fa)(hnm:m∉G.nm c)(F:FnOk X.prog X.w X.K X.mg X.base (CXE G X.prog X.w X.base) k fa fd ps (spG G C.cf C.fr fi))(hr:Room k X.A)(hb:Binds X.K fd ps ds)(hd:Vals dvs ds)(hdt:dts.mapM cstV=some dvs)
  (ho:PE X o (tV G X C a')) (ha:PA X (e₀::es) (tR G X C es')) (hst:starEach (e₀::es) X.env=(false,eval e₀ X.env)::starEach es X.env) (hpl:(backTo pos (starEach es X.env)).any (·.1)=false)
  (ht:eval (.Call (.Attribute o m apos) (e₀::es) [] pos) X.env=(do
   let ov ←eval o X.env
   standAt apos.atName
   let (f,first) ←holding [ov] (getMethod ov m pl)
   callWith pos f first (backTo pos (starEach (e₀::es) X.env)) (backToKw pos (keywordEach [] X.env)))):PE X (.Call (.Attribute o m apos) (e₀::es) [] pos) (tV G X C (.meth a' c fi es' dts)):=by
 rintro pins s σV H Q I ⟨w₀,H₀,w,σ,st,g,h⟩
 have h:aa4 G X σV w H ((ev C a' .v σ st).bind fun x s1=>onO (x.locI s1 c) fun _=>(evr C es' σ s1).bind fun rs s2=>C.cf fi (x::rs++dts.map .val) s2) Q:=h
 refine PySem.W.methodCall_KW (pl:=pl) (thn (ho pins s σV H _ I ⟨w₀,H₀,w,σ,st,g,aa4.bind h⟩) fun u s1 ⟨xv,H1,I1,rx,q⟩=>?_) ht
 obtain⟨w1,r,st1,L1,S1,R1,h1⟩:=q
 obtain⟨pp,hp,h1⟩:=apB h1
 obtain⟨er,ev',hl,hs,dx,kvs,z1,z2,z3⟩:=af1 S1 R1 hp
 subst ev'
 cases rx
 refine adB I1 z1 hcl hmt (afc z2 hnm) ?_
 refine PySem.W.callWith_K (first:=[.ref (w1.io pp.1)]) (h₀:=X.base) I.ok.mod.kin hmt.kp (thn (ha pos pins s1 σV H1 _ I1 ⟨w₀,H₀,w1,σ,st1,g.step L1 S1,acp h1⟩) fun us s2 ⟨vs,H2,I2,rv,q2⟩=>⟨I2.kIn,?_⟩) hst hpl
 obtain⟨w2,rs,st2,L2,S2,R2,h2⟩:=q2
 exact acE (us:=.ref (w1.io pp.1)::us) (vs:=.ref (w1.io pp.1)::vs) F hr hb hd I2 (.cons rfl rv) (agx hf L2 S2 (acV (R1.mono L2 S1) (aaK R2 (abx hdt))) h2) (ab1 I2)
theorem aiA{pl:Sem Bool}(hf:C.fr fi=false)(hcl:Cls X.K (G.iA c))(hmt:Meth X.K (G.iA c) m fa)(hnm:m∉G.nm c)(F:FnOk X.prog X.w X.K X.mg X.base (CXE G X.prog X.w X.base) k fa fd ps (spG G C.cf C.fr fi))(hr:Room k X.A)(hb:Binds X.K fd ps ds)(hd:Vals dvs ds)(hdt:dts.mapM cstV=some dvs)
  (ho:PE X o (tV G X C a'))
  (ht:eval (.Call (.Attribute o m apos) [] [] pos) X.env=(do
   let ov ←eval o X.env
   standAt apos.atName
   let (f,first) ←holding [ov] (getMethod ov m pl)
   callWith pos f first (backTo pos (starEach [] X.env)) (backToKw pos (keywordEach [] X.env)))):PE X (.Call (.Attribute o m apos) [] [] pos) (tV G X C (.meth a' c fi [] dts)):=by
 rintro pins s σV H Q I ⟨w₀,H₀,w,σ,st,g,h⟩
 have h:aa4 G X σV w H ((ev C a' .v σ st).bind fun x s1=>onO (x.locI s1 c) fun _=>C.cf fi (x::([]++dts.map .val)) s1) Q:=h
 refine PySem.W.methodCall_KW (pl:=pl) (thn (ho pins s σV H _ I ⟨w₀,H₀,w,σ,st,g,aa4.bind h⟩) fun u s1 ⟨xv,H1,I1,rx,q⟩=>?_) ht
 obtain⟨w1,r,st1,L1,S1,R1,h1⟩:=q
 obtain⟨pp,hp,h1⟩:=apB h1
 obtain⟨er,ev',hl,hs,dx,kvs,z1,z2,z3⟩:=af1 S1 R1 hp
 subst ev'
 cases rx
 refine adB I1 z1 hcl hmt (afc z2 hnm) ?_
 exact PySem.W.callWith_K0 (first:=[.ref (w1.io pp.1)]) I1.kIn hmt.kp (acE (us:=[.ref (w1.io pp.1)]) (vs:=[.ref (w1.io pp.1)]) F hr hb hd I1 (.cons rfl .nil) (agx hf (Le.refl _ _) S1 (acV R1 (aaK (rs:=[]) (vs:=[]) rfl (abx hdt))) h1) (ab1 I1))
theorem alZ{Ca:Addr}{n:Nat}{s1:Sto}{xx dx:Addr}(S:StoOk G w H s1)(hx:H xx=none)(hdx:H dx=none)(hne:dx≠xx):
  Le w (w.addL xx) H (upd (upd H dx (.own xx)) xx (.ins (G.iA c) dx []))∧StoOk G (w.addL xx) (upd (upd H dx (.own xx)) xx (.ins (G.iA c) dx [])) (s1++[.ins c (List.replicate n none)]):=by
 have L1:Le w w H (upd H dx (.own xx)):=Le.new hdx _
 have hx1:upd H dx (.own xx) xx=none:=by rw[aag hne.symm];exact hx
 have L2:Le w w H (upd (upd H dx (.own xx)) xx (.ins (G.iA c) dx [])):=L1.trans (Le.new hx1 _)
 have S1:=(S.new hdx (.own xx)).new hx1 (.ins (G.iA c) dx [])
 refine⟨L2.addL hx,S1.addL ⟨dx,[],aax,⟨List.nodup_nil,fun y hy=>by simp at hy⟩,fun i y t h1 h2=>?_⟩ (S.fresh hx).1 (S.fresh hx).2⟩
 rw[List.getElem?_replicate]at h2
 split at h2<;>cases h2
theorem aev{CX:CXT}{sp:Sp}{E:XK}{Ca:Addr}{pins:List (Addr×Obj)}{σV:St}{H:Hp}{s:Shared}{us:List Value}(M:Mk X.K Ca fa)(F:FnOk X.prog X.w X.K X.mg X.base CX k fa fd ps sp)(hr:Room (k+1) X.A)(hb:Binds X.K fd ps ds)(hd:Vals dvs ds)
  (I:Inv X pins σV H s) (r:Vals vs us) (h:∀x dx,H x=none→H dx=none→dx≠x→sp (.ref x::(vs++dvs)) (upd (upd H dx (.own x)) x (.ins Ca dx [])) (fun v H2=>v=.non∧Q (.ref x) H2) E)
  (hx:∀H2 s2 e s',Inv X pins σV H2 s2→CX X.stack H2 s2 E e s'→X.xe e s'):wpAny (model X.prog X.w) X.A (call (.ref Ca) us) (EP X pins σV Q) X.xe s:=by
 have hq:=h (s.heap.objs.size+1) s.heap.objs.size (I.hok.fresh (Nat.le_succ _)) (I.hok.fresh (Nat.le_refl _)) (Nat.ne_of_lt (Nat.lt_succ_self _))
 have I2:=Inv.made (C:=Ca) I
 have r2:Vals (V.ref (s.heap.objs.size+1)::(vs++dvs)) (Value.ref (s.heap.objs.size+1)::(us++ds)):=.cons rfl (r.append hd)
 have hl:(Value.ref (s.heap.objs.size+1)::us++ds).length=ps.length:=by
  have e:=r2.length
  rw[F.len _ _ _ _ hq]at e
  exact e.symm
 refine wpAny_call (ajN (f:=fa) I.kIn M.makes M.init (beq_iff_eq.mp M.fn) (codeAny_mono (F.run _ X.stack _ _ ⟨Value.ref (s.heap.objs.size+1)::us,[]⟩ (Value.ref (s.heap.objs.size+1)::(us++ds)) _ _ E (hr.make Ca us [])
  (I2.env0.make Ca us []) (hb _ (Value.ref (s.heap.objs.size+1)::us) I2.kIn hl) r2 hq) fun r s' hq'=>?_))
 cases r with
 | error e=>exact hx _ _ e s' I2 hq'
 | ok fl=>
  cases fl with
  | ret u=>
   obtain⟨v,H',I3,rv,ev,q3⟩:=I2.after hq'
   subst ev
   exact⟨rv,⟨V.ref (s.heap.objs.size+1),H',I3,rfl,q3⟩⟩
  | next=>exact False.elim hq'
  | brk=>exact False.elim hq'
  | cont=>exact False.elim hq'
theorem alj{n:Nat}{st:Sto}{σV:St}(hf:C.fr fi=false)(hdt:dts.mapM cstV=some dvs)(S:StoOk G w H st)(R1:aaZ G w H rs vs)(h:aa4 G X σV w H ((C.cf fi (.val (.loc st.length)::(rs++dts.map .val)) (st++[.ins c (List.replicate n none)])).bind fun r s2=>onN r (.ok (.val (.loc st.length)) s2)) Q)(x dx:Addr)(hx:H x=none)(hdx:H dx=none)(hne:dx≠x):
  spG G C.cf C.fr fi (.ref x::(vs++dvs)) (upd (upd H dx (.own x)) x (.ins (G.iA c) dx [])) (fun v H2=>v=.non∧Q (.ref x) H2) (EX G X σV):=by
 obtain⟨LL,SS⟩:=alZ (c:=c) (Ca:=G.iA c) (n:=n) S hx hdx hne
 have hloc:aaX G (w.addL x) (upd (upd H dx (.own x)) x (.ins (G.iA c) dx [])) (.val (.loc st.length)) (.ref x):=by
  refine⟨?_,?_⟩
  ·rw[S.len];exact Nat.lt_succ_self _
  ·rw[S.len,ab6]
 refine agx hf (Le.refl _ _) SS (acV hloc (aaK (R1.mono LL S) (abx hdt))) ((aa4.bind (aa4.mono LL h)).imp ?_)
 rintro v H1 ⟨w1,r,s1,L1,S1,R1,h1⟩
 match r,h1 with
 | .val .non,h1=>exact⟨R1,h1 w1 H1 (.ref x) (Le.refl _ _) S1 (hloc.mono L1 SS)⟩
 | .val (.bl _),h1=>exact h1.elim
 | .val (.int _),h1=>exact h1.elim
 | .val (.str _),h1=>exact h1.elim
 | .val (.tup _),h1=>exact h1.elim
 | .val (.lst _),h1=>exact h1.elim
 | .val (.loc _),h1=>exact h1.elim
 | .val (.exc _),h1=>exact h1.elim
 | .bor _,h1=>exact h1.elim
theorem ajT{n:Nat}(hf:C.fr fi=false)(M:Mk X.K (G.iA c) fa)(F:FnOk X.prog X.w X.K X.mg X.base (CXE G X.prog X.w X.base) k fa fd ps (spG G C.cf C.fr fi))(hr:Room (k+1) X.A)(hg:Gl X x)(hm:X.mg x=some (.ref (G.iA c)))(hb:Binds X.K fd ps ds)(hd:Vals dvs ds)(hdt:dts.mapM cstV=some dvs)
  (hdb:(x==("__debug__":Str))=false):PE X (.Call (.Name x p) [] [] pos) (tV G X C (.new c fi n [] dts)):=by
 rintro pins s σV H Q I ⟨w₀,H₀,w,σ,st,g,h⟩
 refine wpAny_Call_Name_kw (abT I hg hm ?_ hdb)
 exact PySem.W.callWith_K0 I.kIn M.kp (aev (us:=[]) (vs:=[]) M F hr hb hd I .nil (alj (rs:=[]) (vs:=[]) hf hdt g.sto rfl h) fun H2 s2 e s' I2 q=>ab1 I2 e s' q)
theorem alW{n:Nat}(hf:C.fr fi=false)(M:Mk X.K (G.iA c) fa)(F:FnOk X.prog X.w X.K X.mg X.base (CXE G X.prog X.w X.base) k fa fd ps (spG G C.cf C.fr fi))(hr:Room (k+1) X.A)(hg:Gl X x)(hm:X.mg x=some (.ref (G.iA c)))(hb:Binds X.K fd ps ds)(hd:Vals dvs ds)(hdt:dts.mapM cstV=some dvs)
  (ha:PA X (e₀::es) (tR G X C es')) (hdb:(x==("__debug__":Str))=false) (he:starEach (e₀::es) X.env=(false,eval e₀ X.env)::starEach es X.env) (hpl:(backTo pos (starEach es X.env)).any (·.1)=false):PE X (.Call (.Name x p) (e₀::es) [] pos) (tV G X C (.new c fi n es' dts)):=by
 rintro pins s σV H Q I ⟨w₀,H₀,w,σ,st,g,h⟩
 have h:aa4 G X σV w H ((evr C es' σ st).bind fun rs s1=>(C.cf fi (.val (.loc s1.length)::(rs++dts.map .val)) (s1++[.ins c (List.replicate n none)])).bind fun r s2=>onN r (.ok (.val (.loc s1.length)) s2)) Q:=h
 refine wpAny_Call_Name_kw (abT I hg hm ?_ hdb)
 refine PySem.W.callWith_K (h₀:=X.base) I.ok.mod.kin M.kp (thn (ha pos pins s σV H _ I ⟨w₀,H₀,w,σ,st,g,acp h⟩) fun us s1 ⟨vs,H1,I1,r,q⟩=>⟨I1.kIn,?_⟩) he hpl
 obtain⟨w1,rs,st1,L1,S1,R1,h1⟩:=q
 exact aev M F hr hb hd I1 r (alj hf hdt S1 R1 (aa4.mono L1 h1)) fun H2 s2 e s' I2 q=>ab1 I2 e s' q
theorem anc(he:PE X e (tV G X C e'))(ha:PE X a (tV G X C a'))(hj:PE X j (tV G X C j'))
  (hs:swapsWithSole [.Subscript a j p2] e pos.line X.env=pure false) (hw:swappedStores [.Subscript a j p2] e X.env=pure none) (h1:(assignEach [.Subscript a j p2] X.env).map (·.2)=[assign (.Subscript a j p2) X.env])
  (hag:∀v,assign (.Subscript a j p2) X.env v=(do
   let ov ←holding [v] (eval a X.env)
   let iv ←holding [v,ov] (eval j X.env)
   standAt p2
   holding [v,ov,iv] (setItem ov iv v)
   release [v,ov,iv] [])):PS X (.Assign [.Subscript a j p2] e pos) (tS G X C (.putL a' j' e')):=by
 refine PS.imp (akR he (aol ha hj ajC hag) hs hw h1) ?_
 rintro D σV H ⟨w₀,H₀,w,σ,s,g,h⟩
 refine⟨w₀,H₀,w,σ,s,g,(abW g h).imp ?_⟩
 rintro v H1 ⟨w1,r,s1,L1,S1,R1,g1,q1⟩
 obtain⟨t,ht,q1⟩:=abi q1
 cases ad3 ht
 refine⟨w₀,H₀,w1,σ,s1,g1,(abW g1 q1).imp ?_⟩
 rintro o H2 ⟨w2,r2,s2,L2,S2,R2,g2,q2⟩
 refine⟨w₀,H₀,w2,σ,s2,g2,(abW g2 q2).imp ?_⟩
 rintro y H3 ⟨w3,r3,s3,L3,S3,R3,g3,q3⟩
 obtain⟨pp,hp,q3⟩:=abi q3
 obtain⟨kk,hk,q3⟩:=abi q3
 obtain⟨n,hn,q3⟩:=abi q3
 obtain⟨er,ev',hl,xs,z1,z2⟩:=af8 S3 (R2.mono L3 S2) hp
 subst ev'
 cases R3.int hk
 have rt:Rep G w3 H3 t v:=Rep.mono L3 S2 t v (Rep.mono L2 S1 t v R1)
 refine⟨w3.io pp.1,xs,kk,n,rfl,rfl,z1,by rw[←z2.length];exact hn,?_⟩
 obtain⟨g4,l4⟩:=g3.setC (o':=.lst (xs.set n v)) (c:=.lst (pp.2.set n t)) hl z1 (by intro _ z;cases z) (by intro _ z;cases z) ⟨_,aax,aah.updC z1 (S3.nz _ hl) (by intro _ z;cases z) (by intro _ z;cases z) _ _ (z2.set rt n)⟩
 exact q3 w3 _ σV g4 l4
theorem alY{cpos:Pos}(ha:PE X a (tV G X C a'))(he:PE X e (tV G X C e'))(hst:starEach [e] X.env=[(false,eval e X.env)])
  (hline:(p2.endLine==cpos.line)=true) (hbase:attributeBase a "append" X.env (eval a X.env)=eval a X.env)
  (hfew:((backTo cpos (starEach [e] X.env)).all (fun x=>!x.1)&&(backToKw cpos (keywordEach [] X.env)).all (fun x=>x.1.isSome)&&decide ([e].length+([]:List Keyword).length+(if([]:List Keyword).isEmpty then 0 else 1)<30))=true)
  (hs:swapsWith (.Call (.Attribute a "append" p2) [e] [] cpos) none pos.line X.env=pure false):
  PS X (.Expr (.Call (.Attribute a "append" p2) [e] [] cpos) pos) (tS G X C (.appL a' e')):=by
 refine PS.imp (ael (ajk PySem.F.plainAttrs_list PySem.F.slot_list_append PySem.F.type_list_append adk ha (aa5 he abb hst) hbase hfew hline hst rfl) hs) ?_
 rintro D σV H ⟨w₀,H₀,w,σ,s,g,h⟩
 refine⟨w₀,H₀,w,σ,s,g,(abW g h).imp ?_⟩
 rintro o H1 ⟨w1,r,s1,L1,S1,R1,g1,q1⟩
 obtain⟨p0,hp0,q1⟩:=abi q1
 obtain⟨er,ev',hl,xs,z1,z2⟩:=af8 S1 R1 hp0
 subst er ev'
 refine⟨.inl ⟨rfl,xs,SqL.of z1⟩,w₀,H₀,w1,σ,s1,g1,(abW g1 q1).imp ?_⟩
 rintro v H2 ⟨w2,r2,s2,L2,S2,R2,g2,q2⟩
 obtain⟨t,ht,qa⟩:=abi q2
 obtain⟨pp,hp,qb⟩:=abi qa
 cases ad3 ht
 obtain⟨er2,ev2,hl2,ys,y1,y2⟩:=af8 S2 (R1.mono L2 S1) hp
 split at qb
 ·rename_i hlim
  have ea:w1.io p0.1=w2.io pp.1:=by injection ev2
  have e0:p0.1=pp.1:=by injection er2 with e;injection e
  rw[ea]
  refine⟨w2.io pp.1,ys,v,rfl,rfl,y1,by rw[←y2.length];have:=aez;omega,?_⟩
  obtain⟨g4,l4⟩:=g2.setC (o':=.lst (ys++[v])) (c:=.lst (pp.2++[t])) hl2 y1 (by intro _ z;cases z) (by intro _ z;cases z) ⟨_,aax,aah.updC y1 (S2.nz _ hl2) (by intro _ z;cases z) (by intro _ z;cases z) _ _ (y2.append (show aah G w2 H2 [t] [v]from⟨v,[],rfl,R2,rfl⟩))⟩
  exact qb w2 _ σV g4 l4
 ·exact qb.elim
theorem aet{α:Type}[DecidableEq α]:∀(l m:List α),l.Nodup→(∀x∈l,x∈m)→l.length≤m.length
 | [],m,_,_=>Nat.zero_le _
 | x::l,m,hn,hs=>by
  obtain⟨h1,h2⟩:=List.nodup_cons.mp hn
  have hx:=hs x List.mem_cons_self
  have:=aet l (m.erase x) h2 fun y hy=>(List.mem_erase_of_ne (a:=y) (b:=x) (fun e=>h1 (by rw[←e];exact hy))).mpr (hs y (List.mem_cons_of_mem _ hy))
  rw[List.length_erase_of_mem hx]at this
  have hp:0<m.length:=List.length_pos_of_mem hx
  rw[List.length_cons]
  omega
theorem aj3{nm:List Str}{y:V}:∀{kvs:List (Str×V)},arI nm kvs→x∈nm→arI nm (aci x y kvs)
 | [],_,hx=>⟨by simp[aci],fun z hz=>by simp[aci]at hz;rw[hz];exact hx⟩
 | (g,v)::r,⟨h1,h2⟩,hx=>by
  rw[List.map_cons,List.nodup_cons]at h1
  obtain⟨i1,i2⟩:=aj3 (y:=y) (kvs:=r) ⟨h1.2,fun z hz=>h2 z (List.mem_cons_of_mem _ hz)⟩ hx
  rw[show aci x y ((g,v)::r)=(if g=x then(g,y)::r else(g,v)::aci x y r)from rfl]
  split
  ·exact⟨List.nodup_cons.mpr h1,h2⟩
  ·rename_i hg
   refine⟨List.nodup_cons.mpr ⟨fun hz=>?_,i1⟩,fun z hz=>?_⟩
   ·have:g∈r.map (·.1):=by
     have key:∀(q:List (Str×V)),g∈(aci x y q).map (·.1)→g∈q.map (·.1):=by
      intro q
      induction q with
      | nil=>intro hq;simp[aci]at hq;exact absurd hq hg
      | cons u q ih=>
       obtain⟨u1,u2⟩:=u
       intro hq
       rw[show aci x y ((u1,u2)::q)=(if u1=x then(u1,y)::q else(u1,u2)::aci x y q)from rfl]at hq
       split at hq
       ·exact hq
       ·rw[List.map_cons,List.mem_cons]at hq ⊢
        exact hq.imp (fun z=>z) ih
     exact key r hz
    exact h1.1 this
   ·rw[List.map_cons,List.mem_cons]at hz
    rcases hz with rfl|hz
    ·exact h2 _ List.mem_cons_self
    ·exact i2 z hz
theorem ane(hcl:Cls X.K (G.iA c))(hn:(G.nm c)[f]?=some x)(hnd:(G.nm c).Nodup)(hlen:(G.nm c).length≤100)(hna:abl X.K (G.iA c) x)(ha:PE X o (tV G X C a'))(he:PE X e (tV G X C e'))
  (hs:swapsWith e (some (.Attribute o x pos')) pos.line X.env=pure false):PS X (.Assign [.Attribute o x pos'] e pos) (tS G X C (.setF a' c f e')):=by
 refine PS.imp (aos ha he hs) ?_
 rintro D σV H ⟨w₀,H₀,w,σ,s,g,h⟩
 refine⟨w₀,H₀,w,σ,s,g,(abW g h).imp ?_⟩
 rintro v H1 ⟨w1,r,s1,L1,S1,R1,g1,q1⟩
 obtain⟨t,ht,q1⟩:=abi q1
 cases ad3 ht
 refine⟨w₀,H₀,w1,σ,s1,g1,(abW g1 q1).imp ?_⟩
 rintro y H2 ⟨w2,r2,s2,L2,S2,R2,g2,q2⟩
 obtain⟨pp,hp,q2⟩:=abi q2
 obtain⟨er,ev',hl,hs2,dx,kvs,z1,z2,z3⟩:=af1 S2 R2 hp
 subst ev'
 split at q2
 ·rename_i hfl
  have hx:x∈G.nm c:=List.mem_of_getElem? hn
  have rt:Rep G w2 H2 t v:=Rep.mono L2 S1 t v R1
  have nz:=S2.nz _ hl
  refine⟨w2.io pp.1,_,dx,kvs,rfl,z1,hcl,hna,?_,?_⟩
  ·have:=aet _ _ z2.1 z2.2
   rw[List.length_map]at this
   omega
  ·have afQ:abm G w2 (upd H2 (w2.io pp.1) (.ins (G.iA c) dx (aci x v kvs))) (w2.io pp.1) (.ins c (pp.2.set f (some t))):=by
    refine⟨dx,aci x v kvs,aax,aj3 z2 hx,fun i y u h1 h2=>?_⟩
    rw[abR]
    by_cases hi:f=i
    ·subst hi
     rw[hn]at h1
     cases h1
     rw[List.getElem?_set_self hfl]at h2
     cases h2
     exact⟨v,if_pos rfl,Rep.updC z1 nz (by intro _ z;cases z) (by intro _ z;cases z) t v rt⟩
    ·rw[List.getElem?_set_ne hi]at h2
     obtain⟨u',y1,y2⟩:=z3 i y u h1 h2
     have ne:y≠x:=fun e=>hi (acG hnd hn (e▸h1))
     exact⟨u',by rw[if_neg ne];exact y1,Rep.updC z1 nz (by intro _ z;cases z) (by intro _ z;cases z) u u' y2⟩
   obtain⟨g4,l4⟩:=g2.setC (o':=.ins (G.iA c) dx (aci x v kvs)) (c:=.ins c (pp.2.set f (some t))) hl z1 (by intro _ z;cases z) (by intro _ z;cases z) afQ
   exact q2 w2 _ σV g4 l4
 ·exact q2.elim
end
end IP
end
noncomputable section
namespace IP
open PySem PySem.Spec L2
abbrev hnd(X:Cx)(e:Addr):Cx:={ X with A:=X.A.mark (some (.ref e)),calm:=false,xe:=fun _ _=>False }
section
variable{G:Gx}{X:Cx}{C:Cf}{pins:List (Addr×Obj)}{σV:St}{H:Hp}{c:Nat}{u:Value}{sh s:Shared}{e:Addr}
theorem aqn(ok:X.Ok):(hnd X e).Ok:=
 ⟨ok.mod,ok.kind,ok.glob,ok.blt,ok.above,ok.inj,ok.has,ok.cab,fun z=>(by cases z),ok.frames,ok.stk,ok.exf,ok.bs,ok.bsz,ok.noex,ok.exfs,ok.funs,ok.frf⟩
theorem afO(I:Inv X pins σV H s):Inv (hnd X e) pins σV H s:=⟨aqn I.ok,I.os,I.bare,I.base,I.loc,I.cell,I.free,I.freeC,I.pin,I.hok,I.len⟩
theorem acb(ok:X.Ok)(I:Inv (hnd X e) pins σV H s):Inv X pins σV H s:=⟨ok,I.os,I.bare,I.base,I.loc,I.cell,I.free,I.freeC,I.pin,I.hok,I.len⟩
theorem ae4{P:Program}{w:World}{h:Heap}{a:Addr}{o:HO}(x:abt P w H h a o):∃q,h.get? a=some q:=by
 cases o with
 | lst xs=>obtain⟨_,_,_,_,e⟩:=x;exact⟨_,e⟩
 | tup xs=>obtain⟨_,_,_,ob,e,_⟩:=x;exact⟨_,e⟩
 | dK kvs=>obtain⟨_,_,_,_,o,_,_,e,_⟩:=x;exact⟨_,e⟩
 | dT kvs=>obtain⟨_,_,_,_,o,_,_,e,_⟩:=x;exact⟨_,e⟩
 | set S n=>obtain⟨o,_,_,_,e,_⟩:=x;exact⟨_,e⟩
 | ins C dx fs=>obtain⟨_,_,_,e,_⟩:=x;exact⟨_,e⟩
 | own y=>obtain⟨_,e⟩:=x;exact⟨_,e⟩
 | xd fs=>obtain⟨_,⟨_,_,_,e,_⟩,_⟩:=x;exact⟨_,e⟩
 | rng lo hi=>obtain⟨_,_,_,e⟩:=x;exact⟨_,e⟩
 | frz ob v=>obtain⟨e,_⟩:=x;exact⟨_,e⟩
 | tbl ps=>exact⟨_,(show h.get? a=some _ from x)⟩
 | met f y=>exact⟨_,(show h.get? a=some _ from x)⟩
 | ext φ=>obtain⟨_,⟨_,e⟩,_⟩:=x;exact⟨_,e⟩
theorem ahr{h B h':Heap}{Ca:Addr}{oe:Obj}(hex:X.ex=[])(I:Inv X pins σV H { sh with heap:=h })(F:Flt X.stack h B e h')(ho:h'.get? e=some oe)(hc:oe.cls=.ref Ca):
  H e=none∧Inv X pins σV (upd H e (.ext (agL e Ca))) { sh with heap:=h' }:=by
 have hn:H e=none:=by
  cases q:H e with
  | none=>rfl
  | some o=>obtain⟨z,hz⟩:=ae4 (I.hok e o q);rw[F.new]at hz;cases hz
 have J:=acv I F
 have new:∀b o,h.get? b=some o→b≠e:=fun b o q z=>by rw[z,F.new]at q;cases q
 have newc:∀{b:Addr}{v:Option Value},h.IsCell b v→b≠e:=fun {b v} ⟨o,q,_⟩=>new b o q
 refine⟨hn,J.ok,J.os,J.bare,⟨J.base.keep,J.base.slot,fun b o q n hx=>?_,J.base.there,fun b xs q=>?_,fun b o v q=>?_,fun b ps q=>?_⟩,J.loc,J.cell,?_,fun x cc q=>?_,fun p hp=>?_,fun a o q=>?_,J.len⟩
 ·obtain⟨o',z⟩:=I.base.there b o q hx
  rw[aag (new b o' z)]
  exact J.base.free b o q n hx
 ·have z:=J.base.tups b xs q
  rw[aag (fun y=>by rw[y,hn]at z;cases z)]
  exact z
 ·have z:=J.base.frzs b o v q
  rw[aag (fun y=>by rw[y,hn]at z;cases z)]
  exact z
 ·obtain⟨m,z⟩:=J.base.tbls b ps q
  exact⟨m,by rw[aag (fun y=>by rw[y,hn]at z;cases z)];exact z⟩
 ·obtain⟨m,⟨o,es,ep,q,_⟩,_⟩:=I.loc
  rw[aag (new _ o q)]
  exact J.free
 ·obtain⟨v,ic⟩:=I.cell x cc q
  rw[aag (newc ic)]
  exact J.freeC x cc q
 ·obtain⟨p1,p2,p3,p4,p5⟩:=J.pin p hp
  refine⟨p1,?_,p3,p4,p5⟩
  rw[aag (new _ _ (I.pin p hp).1)]
  exact p2
 ·by_cases ha:a=e
  ·subst ha
   rw[aax]at q
   cases q
   exact⟨⟨oe,ho,hc⟩,⟨oe,ho⟩,fun h1 h2 ⟨o,q1,q2⟩ k=>⟨o,k o q1,q2⟩⟩
  ·rw[aag ha]at q
   refine(J.hok a o q).stay (fun _ _ _ r=>r) (fun b r=>?_) fun b xs r=>?_
   ·rw[aag (fun y=>by rw[y,hn]at r;cases r)];exact r
   ·rw[aag (fun y=>by rw[y,hn]at r;cases r)];exact r
theorem ajb{M:Model}{A:Around}{E:Value→Shared→Prop}{i:Nat}{x:Str}{v:V}{Q:Unit→Shared→Prop}(I:Inv X pins σV H s)(hN:X.N.Nodup)(hi:X.N[i]?=some x)(hx:X.env.scope.names.lookup x=some .local)(hv:σV[i]?=some (some v))
  (h:∀s',Inv X pins (σV.set i none) H s'→Q () s'):wpAny M A (unbindName X.env x) Q E s:=by
 obtain⟨m,hn,hl⟩:=id I.loc
 have hcls:(X.env.scope.kind==.class||(X.env.scope.kind==.module&&X.env.locals != X.env.globals))=false:=by rw[I.ok.kind];rfl
 obtain⟨w,rw',lk⟩:=hl i x v hi hv (.inl hx)
 have hm:m x=some w:=by
  rcases lk with⟨_,z⟩|⟨z,_⟩
  ·exact z
  ·have z:X.env.scope.names.lookup x=some .cell∨X.env.scope.names.lookup x=some .free:=z
   rw[hx]at z
   rcases z with z|z<;>cases z
 obtain⟨oL,_,_,hoL,_⟩:=id hn
 have hne:∀{b:Addr}{o:Obj},X.s₀.heap.get? b=some o→b≠X.env.locals:=fun q z=>by
  rw[z]at q
  exact absurd (Heap.lt_size q) (Nat.not_lt.mpr I.ok.above)
 refine wpAny_unbindName_local hx hn hm hcls fun h' u' hn' hs=>?_
 refine h _ ⟨I.ok,I.os,I.bare,⟨fun b o q n hb hx=>?_,fun b o q n hb hx=>?_,I.base.free,fun b o q hx=>?_,I.base.tups,I.base.frzs,I.base.tbls⟩,⟨_,hn',fun j y z e1 e2 e3=>?_⟩,fun y cc q=>?_,I.free,I.freeC,fun p hp=>?_,fun a o q=>?_,?_⟩
 ·exact(hs.2 b (hne q)).trans (I.base.keep b o q n hb hx)
 ·obtain⟨sl,z⟩:=I.base.slot b o q n hb hx
  exact⟨sl,(hs.2 b (hne q)).trans z⟩
 ·obtain⟨o',z⟩:=I.base.there b o q hx
  exact⟨o',(hs.2 b (hne q)).trans z⟩
 ·by_cases hj:i=j
  ·subst hj
   have hlt:i<σV.length:=(List.getElem?_eq_some_iff.mp hv).1
   rw[List.getElem?_set_self hlt]at e2
   cases e2
  ·rw[List.getElem?_set_ne hj]at e2
   obtain⟨w2,r2,q⟩:=hl j y z e1 e2 e3
   refine⟨w2,r2,?_⟩
   have ny:y≠x:=fun e=>hj (acG hN hi (e▸e1))
   rcases q with⟨k,q⟩|⟨k,cc,q,ic⟩
   ·exact .inl ⟨k,(if_neg ny).trans q⟩
   ·exact .inr ⟨k,cc,q,ic.sameBut hs (I.cne y cc q)⟩
 ·obtain⟨w2,ic⟩:=I.cell y cc q
  exact⟨w2,ic.sameBut hs (I.cne y cc q)⟩
 ·obtain⟨p1,p2,p3,p4,p5⟩:=I.pin p hp
  exact⟨(hs.2 p.1 p3).trans p1,p2,p3,p4,p5⟩
 ·refine(I.hok a o q).stay (fun b r hb k=>(hs.2 b ?_).trans k) (fun _ r=>r) fun _ _ r=>r
  rintro rfl
  rcases hb with rfl|hb
  ·rw[I.free]at q;cases q
  ·rw[I.free]at hb;cases hb
 ·rw[List.length_set];exact I.len
end
end IP
end
noncomputable section
namespace IP
open PySem PySem.Spec L2
abbrev adx(X:Cx)(E:Value→Shared→Prop)(pn:List (Addr×Obj)):Cx:={ X with xe:=E,pn:=pn }
section
variable{G:Gx}{X:Cx}{C:Cf}{pins pins':List (Addr×Obj)}{w w' w₀:Wo}{H H' H₀:Hp}{σ σ':Fr}{σV σV':St}{c:Nat}{u:Value}{sh s:Shared}{e:Addr}{E:Value→Shared→Prop}
theorem ap7{pn:List (Addr×Obj)}(ok:X.Ok):(adx X E pn).Ok:=
 ⟨ok.mod,ok.kind,ok.glob,ok.blt,ok.above,ok.inj,ok.has,ok.cab,ok.hd,ok.frames,ok.stk,ok.exf,ok.bs,ok.bsz,ok.noex,ok.exfs,ok.funs,ok.frf⟩
theorem ake{pn:List (Addr×Obj)}(ok:(adx X E pn).Ok):X.Ok:=
 ⟨ok.mod,ok.kind,ok.glob,ok.blt,ok.above,ok.inj,ok.has,ok.cab,ok.hd,ok.frames,ok.stk,ok.exf,ok.bs,ok.bsz,ok.noex,ok.exfs,ok.funs,ok.frf⟩
theorem aif(I:Inv X pins σV H s):Inv (adx X E (X.pn++pins)) [] σV H s:=
 ⟨ap7 I.ok,I.os,I.bare,I.base,I.loc,I.cell,I.free,I.freeC,fun p hp=>I.pin p (by simpa using hp),I.hok,I.len⟩
theorem abF(I:Inv (adx X E (X.pn++pins)) pins' σV H s):Inv X pins σV H s:=
 ⟨ake I.ok,I.os,I.bare,I.base,I.loc,I.cell,I.free,I.freeC,fun p hp=>I.pin p (List.mem_append_left _ hp),I.hok,I.len⟩
theorem age{D:Ends}{f:Flow}{s':Shared}(h:SP (adx X E (X.pn++pins)) [] D f s'):SP X pins D f s':=by
 cases f with
 | next=>obtain⟨σ',H',I,q⟩:=h;exact⟨σ',H',abF I,q⟩
 | brk=>obtain⟨σ',H',I,q⟩:=h;exact⟨σ',H',abF I,q⟩
 | cont=>obtain⟨σ',H',I,q⟩:=h;exact⟨σ',H',abF I,q⟩
 | ret u=>obtain⟨v,σ',H',I,r,q⟩:=h;exact⟨v,σ',H',abF I,r,q⟩
theorem ag8{D:Ends}{f:Flow}{s':Shared}(ok:X.Ok)(h:SP (hnd X e) pins D f s'):SP X pins D f s':=by
 cases f with
 | next=>obtain⟨σ',H',I,q⟩:=h;exact⟨σ',H',acb ok I,q⟩
 | brk=>obtain⟨σ',H',I,q⟩:=h;exact⟨σ',H',acb ok I,q⟩
 | cont=>obtain⟨σ',H',I,q⟩:=h;exact⟨σ',H',acb ok I,q⟩
 | ret u=>obtain⟨v,σ',H',I,r,q⟩:=h;exact⟨v,σ',H',acb ok I,r,q⟩
theorem aeW{r:SR}{D:Ends}(h:aan G X w₀ H₀ w H σ σV r.nox D):aan G (hnd X e) w₀ H₀ w H σ σV r D:=by
 cases r with
 | stuck=>exact h
 | next σ1 s1=>exact h
 | ret r s1=>exact h
 | retO ts s1=>exact h
 | exc c σ1 s1=>exact h.elim
theorem FrOk.unset{i:Nat}(F:FrOk G w H H₀ σ σV):FrOk G w H H₀ (σ.set i none) (σV.set i none)where
 len:=by simp[F.len]
 val:=fun j t e=>by
  rcases aap e with⟨_,z,_⟩|⟨ne,z⟩
  ·cases z
  ·obtain⟨v,h1,h2⟩:=F.val j t z
   exact⟨v,by rw[List.getElem?_set_ne ne];exact h1,h2⟩
 own:=fun j b ts e eb=>by
  rcases aap e with⟨_,z,_⟩|⟨ne,z⟩
  ·cases z
  ·obtain⟨a,vs,h1,h2⟩:=F.own j b ts z eb
   exact⟨a,vs,by rw[List.getElem?_set_ne ne];exact h1,h2⟩
 apart:=fun j k b c ts us a hjk e1 eb e2 ec e3 e4=>by
  rcases aap e1 with⟨_,z,_⟩|⟨ne,z⟩
  ·cases z
  ·rcases aap e2 with⟨_,z',_⟩|⟨ne',z'⟩
   ·cases z'
   ·rw[List.getElem?_set_ne ne]at e3
    rw[List.getElem?_set_ne ne']at e4
    exact F.apart j k b c ts us a hjk z eb z' ec e3 e4
 bor:=fun j ts e=>by
  rcases aap e with⟨_,z,_⟩|⟨ne,z⟩
  ·cases z
  ·obtain⟨a,vs,h1,h2⟩:=F.bor j ts z
   exact⟨a,vs,by rw[List.getElem?_set_ne ne];exact h1,h2⟩
theorem akW{body suite:List Stmt}{b':List S}{y:Str}{yp hpos pos:Pos}{nm:Option Str}{b₀:Stmt}(hst:X.stack=X.env::X.outer∧X.env.frame=some X.env.locals)(hg:Gl X y)(hm:X.mg y=some (.ref (G.cA c)))(hdb:(y==("__debug__":Str))=false)
  (hmt:∀d,PySem.W.exmOne X.K (.ref (G.cA d)) (.ref (G.cA c))=some (C.sub d c))
  (hbody:∀(E:Value→Shared→Prop) (pn:List (Addr×Obj)),PassesOwn (model X.prog X.w) X.A X.env E→PSs (adx X E pn) body (tSs G (adx X E pn) C b')) {st:Sto}{D:Ends}{k:Nat→Fr→Sto→SR}
  (I:Inv X pins σV H s) (g:Good G w₀ H₀ w H σ st σV)
  (h:aan G X w₀ H₀ w H σ σV (match exs C b' σ st with | .exc d σ1 s1=>if C.sub d c then k d σ1 s1 else .exc d σ1 s1|r=>r) D)
  (hk:∀(d:Nat) (σ1:Fr) (s1:Sto) (w1:Wo) (H1:Hp) (σV1:St) (e:Addr) (h B h1:Heap) (t:Value) (sh:Shared),Good G w₀ H₀ w1 H1 σ1 s1 σV1→aan G X w₀ H₀ w1 H1 σ1 σV1 (k d σ1 s1) D→Inv X pins σV1 H1 { sh with heap:=h }→Flt X.stack h B e h1→X.base.StaysIn B→Heap.FlyingW B X.stack e (.ref (G.cA d)) t h1→
   codeAny (model X.prog X.w) (X.A.mark (some (.ref e))) (.handlers (.ref e) [.ExceptHandler none nm (b₀::suite) hpos] X.env) (fun r s₂=>match r with
     | .ok f=>(match nm with
      | none=>SP X pins D f s₂
      | some n=>wpAny (model X.prog X.w) X.A (do bindName X.env n .none;unbindBehindTheSuite X.env n hpos) (fun _ s₃=>SP X pins D f s₃) X.xe s₂)
     | .error x=>cameBackBy (model X.prog X.w) X.A X.env X.xe x s₂) { sh with heap:=h1 }):
  wpAny (model X.prog X.w) X.A (exec (.Try body [.ExceptHandler (some (.Name y yp)) nm (b₀::suite) hpos] [] [] pos) X.env) (SP X pins D) X.xe s:=by
 rw[arm_exec_Try]
 refine wpAny_bind (wpAny_standAt (aeo ?_))
 generalize hE2:(fun(u:Value) (s₁:Shared)=>wpAny (model X.prog X.w) X.A (leaving X.env u) (fun _ s₃=>wpAny (model X.prog X.w) X.A (handleBy u X.env [.ExceptHandler (some (.Name y yp)) nm (b₀::suite) hpos]) (SP X pins D) X.xe s₃) X.xe s₁)=E2
 have hp:PassesOwn (model X.prog X.w) X.A X.env E2:=ab7 (X:=adx X E2 []) (Q:=fun u _ s₃=>wpAny (model X.prog X.w) X.A (handleBy u X.env [.ExceptHandler (some (.Name y yp)) nm (b₀::suite) hpos]) (SP X pins D) X.xe s₃) (E₁:=fun _=>X.xe) hE2.symm
 refine wpAny_mono (hbody E2 (X.pn++pins) hp [] s σV H D (aif I) ⟨w₀,H₀,w,σ,st,g,?_⟩) (fun f s₁ q=>?_) fun u s₁ q=>?_
 ·cases hx:exs C b' σ st with
  | stuck=>rw[hx]at h;exact h
  | next σ1 s1=>rw[hx]at h;exact h
  | ret r s1=>rw[hx]at h;exact h
  | retO ts s1=>rw[hx]at h;exact h
  | exc d σ1 s1=>
   rw[hx]at h
   intro w1 H1 σV1 pins' u sh g1 L1 T
   show E2 u sh
   rw[←hE2]
   refine adz (ac0 (X:=adx X E2 (X.pn++pins)) ⟨_,_,_,hst.1,hst.2,hst.2⟩ T fun e hh B h1 t eu I1 F sb fly=>?_)
   subst eu
   have J:=abF I1
   have JL:Inv X pins σV1 H1 { sh with heap:=h1 }:=acv J F
   obtain⟨ob,hob,hoc⟩:=fly.there
   have LT:PySem.W.Looks (model X.prog X.w) h1 (typeOf (.ref e)) (.ref (G.cA d)):=hoc▸(PySem.W.Looks.ld hob).andThen .now
   refine wpAny_handleBy_cons (codeAny_handlers_test (A:=X.A.mark (some (.ref e))) (abT (X:=hnd X e) (afO JL) hg hm ?_ hdb)) (by intro q;cases q)
   refine(PySem.W.exm_one (M:=model X.prog X.w) JL.kIn LT (hmt d)).at ?_
   cases hsb:C.sub d c with
   | true=>
    dsimp only at h
    rw[hsb]at h
    exact hk d σ1 s1 w1 H1 σV1 e hh B h1 t sh g1 (aan.mono L1 h) J F sb fly
   | false=>
    dsimp only at h
    rw[hsb]at h
    have h:aan G X w₀ H₀ w H σ σV (.exc d σ1 s1) D:=h
    show wpAny _ _ (handleBy (.ref e) X.env []) _ _ _
    refine wpAny_handleBy_nil ?_
    obtain⟨f1,f2,f3,oe,vs,Tb,oT,ts,he,hcl,hd,hv,hnT,hTe,hT,hdT,h3⟩:=id fly
    unfold passOn
    refine wpAny_bind (wpAny_field he hd hv ?_)
    rw[if_neg (show ¬((Value.ref Tb==Value.none)=true)from by simp)]
    have step:wpAny (model X.prog X.w) X.A (setFlight (.ref e) X.env.frame >>= fun _=>(throw (Value.ref e):Sem Flow)) (SP X pins D) X.xe { sh with heap:=h1 }:=by
     rw[hst.2]
     refine wpAny_bind (PySem.W.setFlight_onW (s:={ sh with heap:=h1 }) fly fun h2 hh2 sm=>?_)
     refine wpAny_throw ?_
     have F2:Flt X.stack hh B e h2:=F.next J.stack hh2.1 sm
     exact h w1 H1 σV1 pins (.ref e) { sh with heap:=h2 } g1 L1 ⟨e,hh,B,rfl,J,F2,sb,.inr (.inr ⟨t,_,hh2⟩)⟩
    first
     | exact wpAny_bind (wpAny_pure step)
     | exact step
 ·have q:=age q
  cases f with
  | next=>exact wpAny_execs_nil q
  | brk=>exact q
  | cont=>exact q
  | ret v=>exact q
 ·exact q
end
section
variable{G:Gx}{X:Cx}{C:Cf}{pins pins':List (Addr×Obj)}{w w' w₀:Wo}{H H' H₀:Hp}{σ σ':Fr}{σV σV':St}{c i:Nat}{u:Value}{sh s:Shared}{e:Addr}{E:Value→Shared→Prop}
variable{body suite:List Stmt}{b' h':List S}{y n:Str}{yp hpos pos:Pos}{b₀:Stmt}
theorem am4(hst:X.stack=X.env::X.outer∧X.env.frame=some X.env.locals)(hg:Gl X y)(hm:X.mg y=some (.ref (G.cA c)))(hdb:(y==("__debug__":Str))=false)
  (hmt:∀d,PySem.W.exmOne X.K (.ref (G.cA d)) (.ref (G.cA c))=some (C.sub d c))
  (hbody:∀(E:Value→Shared→Prop) (pn:List (Addr×Obj)),PassesOwn (model X.prog X.w) X.A X.env E→PSs (adx X E pn) body (tSs G (adx X E pn) C b'))
  (hsuite:∀e,PSs (hnd X e) (b₀::suite) (tSs G (hnd X e) C h')):PS X (.Try body [.ExceptHandler (some (.Name y yp)) none (b₀::suite) hpos] [] [] pos) (tS G X C (.try_ b' c none h')):=by
 rintro pins s σV H D I ⟨w₀,H₀,w,σ,st,g,h⟩
 refine akW (C:=C) (c:=c) (k:=fun d σ1 s1=>(exs C h' σ1 s1).nox) hst hg hm hdb hmt hbody I g h fun d σ1 s1 w1 H1 σV1 e hh B h1 t sh g1 q J F sb fly=>?_
 refine codeAny_handlers_suite (PyProof.Rows.lands_againW (s:={ sh with heap:=h1 }) fly fun h2 fly2 sm=>?_)
 have J2:Inv X pins σV1 H1 { sh with heap:=h2 }:=acv J (F.next J.stack fly2.1 sm)
 exact wpAny_mono (hsuite e pins _ σV1 H1 D (afO J2) ⟨w₀,H₀,w1,σ1,s1,g1,aeW q⟩) (fun f s₂ q=>ag8 J2.ok q) fun _ _ z=>z.elim
theorem am2(hst:X.stack=X.env::X.outer∧X.env.frame=some X.env.locals)(hex:X.ex=[])(hN:X.N.Nodup)(hi:X.N[i]?=some n)(hl:X.env.scope.names.lookup n=some .local)(hg:Gl X y)(hm:X.mg y=some (.ref (G.cA c)))(hdb:(y==("__debug__":Str))=false)
  (hmt:∀d,PySem.W.exmOne X.K (.ref (G.cA d)) (.ref (G.cA c))=some (C.sub d c))
  (hbody:∀(E:Value→Shared→Prop) (pn:List (Addr×Obj)),PassesOwn (model X.prog X.w) X.A X.env E→PSs (adx X E pn) body (tSs G (adx X E pn) C b'))
  (hsuite:∀e,PSs (hnd X e) (b₀::suite) (tSs G (hnd X e) C h')):PS X (.Try body [.ExceptHandler (some (.Name y yp)) (some n) (b₀::suite) hpos] [] [] pos) (tS G X C (.try_ b' c (some i) h')):=by
 rintro pins s σV H D I ⟨w₀,H₀,w,σ,st,g,h⟩
 refine akW (C:=C) (c:=c) (k:=fun d σ1 s1=>(exs C h' (put σ1 i (.exc d)) s1).nox.bind fun σ2 s2=>.next (σ2.set i none) s2) hst hg hm hdb hmt hbody I g h fun d σ1 s1 w1 H1 σV1 e hh B h1 t sh g1 q J F sb fly=>?_
 refine codeAny_handlers_suite_as (PyProof.Rows.lands_againW (s:={ sh with heap:=h1 }) fly fun h2 fly2 sm=>?_)
 obtain⟨ob,hob,hoc⟩:=fly2.there
 obtain⟨hne,J2⟩:=ahr hex J (F.next J.stack fly2.1 sm) hob hoc
 have L2:Le w1 w1 H1 (upd H1 e (.ext (agL e (G.cA d)))):=Le.new hne _
 have S2:=g1.sto.new hne (.ext (agL e (G.cA d)))
 have g2:Good G w₀ H₀ w1 (upd H1 e (.ext (agL e (G.cA d)))) (put σ1 i (.exc d)) s1 (σV1.set i (some (.ref e))):=(g1.step L2 S2).put ⟨e,rfl,aax⟩
 have l2:LeS w1 w1 H1 (upd H1 e (.ext (agL e (G.cA d)))) σ1 (put σ1 i (.exc d)) σV1 (σV1.set i (some (.ref e))):=(LeS.of L2).trans LeS.put
 have hiσ:i<σV1.length:=by rw[J.len];exact(List.getElem?_eq_some_iff.mp hi).1
 refine acF (v:=.ref e) J2 hN hi (.inl hl) rfl (fun s3 J3=>?_) (.inr hl)
 refine wpAny_mono (hsuite e pins s3 (σV1.set i (some (.ref e))) _ { D with nx:=fun σ2 H2=>D.nx (σ2.set i none) H2,rt:=D.rt,bk:=fun _ _=>False,ct:=fun _ _=>False } (afO J3) ⟨w₀,H₀,w1,put σ1 i (.exc d),s1,g2,?_⟩) (fun f s₂ z=>?_) fun _ _ z=>z.elim
 ·refine aeW ?_
  have q:=aan.mono l2 q
  generalize hr:(exs C h' (put σ1 i (.exc d)) s1).nox=r at q
  cases r with
  | stuck=>exact q
  | next σ2 s2=>exact fun w3 H3 σV3 g3 l3=>q w3 H3 (σV3.set i none) ⟨g3.sto,g3.fr.unset,g3.ent⟩ (l3.trans (LeS.set (by intro ts z;cases z) (by intro ts z;cases z)))
  | ret r s2=>exact q
  | retO ts s2=>exact q
  | exc cc σ2 s2=>exact q
 ·have z:=ag8 J2.ok z
  have go:∀(σ2:St) (H2:Hp),Inv X pins σ2 H2 s₂→∀Q:Shared→Prop,(∀s4,Inv X pins (σ2.set i none) H2 s4→Q s4)→wpAny (model X.prog X.w) X.A (do bindName X.env n .none;unbindBehindTheSuite X.env n hpos) (fun _ s₃=>Q s₃) X.xe s₂:=fun σ2 H2 K Q hQ=>by
   have hi2:i<σ2.length:=by rw[K.len];exact(List.getElem?_eq_some_iff.mp hi).1
   refine wpAny_bind (PySem.wpAny_bindName (acF (v:=.non) K hN hi (.inl hl) rfl (fun s4 K4=>?_) (.inr hl)))
   unfold unbindBehindTheSuite
   refine wpAny_onRaise (ajb (v:=.non) K4 hN hi hl (List.getElem?_set_self hi2) fun s5 K5=>?_)
   rw[List.set_set]at K5
   exact hQ s5 K5
  cases f with
  | next=>
   obtain⟨σ2,H2,K,z⟩:=z
   exact go σ2 H2 K _ fun s4 K4=>⟨σ2.set i none,H2,K4,z⟩
  | brk=>obtain⟨σ2,H2,K,z⟩:=z;exact z.elim
  | cont=>obtain⟨σ2,H2,K,z⟩:=z;exact z.elim
  | ret v=>
   obtain⟨x,σ2,H2,K,r,z⟩:=z
   exact go σ2 H2 K _ fun s4 K4=>⟨x,σ2.set i none,H2,K4,r,z⟩
end
end IP
end
noncomputable section
namespace IP
open PySem PySem.W PySem.Spec PySem.Calls PyProof.Rows Builtin Builtin.ObjectAttr Builtin.Getset_descriptor
end IP
namespace IP
open PySem PySem.W PySem.Spec PySem.Calls PyProof.Rows Builtin Builtin.ObjectAttr Builtin.Getset_descriptor
end IP
namespace IP
open PySem PySem.Spec L2
structure ExcK(K:PySem.W.Frag)(D:Addr):Prop where
 ga:PySem.W.findIn K (.ref D) "__getattribute__"=some (some (.builtin "BaseException.__getattribute__"))
 gn:PySem.W.findIn K (.ref D) "__getattr__"=some none
 dct:PySem.W.hasDictIn K D=true
 ca:PySem.W.findIn K (.ref D) "__class__"=some (some (.builtin "object.__class__"))
 sp:PySem.W.specialIn K (.builtin "object.__class__") "__get__"=some (some (.builtin "getset_descriptor.__get__"))
 tk:PySem.W.takesIn K (.builtin "object.__class__")=some true
 mo:PySem.W.mroIn K D (.type "object")=some true
 mb:PySem.W.mroIn K D (.type "BaseException")=some true
end IP
end
noncomputable section
namespace IP
open PySem PySem.Spec L2
section
variable{G:Gx}{X:Cx}{C:Cf}{w w' w₀:Wo}{H H' H₀:Hp}{σ σ':Fr}{σV σV':St}{a b e:Expr}{a' b' e':IP.E}{pos p p2:Pos}{Q:VK}
theorem LeS.puts:∀{ks:List Nat}{us:List T}{vs:List V}{σ:Fr}{σV:St},IP.puts σ ks us=some σ'→vs.length=ks.length→LeS w w H H σ σ' σV (abk σV ks vs)
 | [],[],vs,σ,σV,hp,hl=>by cases hp;cases vs<;>exact LeS.refl
 | [],_::_,vs,σ,σV,hp,hl=>by cases hp
 | _::_,[],vs,σ,σV,hp,hl=>by cases hp
 | k::ks,u::us,[],σ,σV,hp,hl=>by simp at hl
 | k::ks,u::us,v::vs,σ,σV,hp,hl=>LeS.trans (LeS.put (v:=v)) (LeS.puts (ks:=ks) (us:=us) (vs:=vs) (σ:=IP.put σ k u) (σV:=σV.set k (some v)) hp (by simpa using hl))
theorem aoF{x:R}{ts:List T}(h:x.tup?=some ts):x=.val (.tup ts)∨x=.val (.lst ts):=by
 unfold R.tup? at h
 split at h
 ·cases h;exact .inl rfl
 ·cases h;exact .inr rfl
 ·cases h
theorem am7{js:List Nat}{es:List Expr}{k:Nat}(hc:X.calm=true)(he:PE X e (tV G X C e'))(h:PGs X es (agO js))(hn:(assignEach es X.env).length=js.length)(hst:(assignEach es X.env).findIdx? (·.1)=none)
  (hs:swapsWithSole [.Tuple es k p] e pos.line X.env=pure false) (hw:swappedStores [.Tuple es k p] e X.env=pure none) (h1:(assignEach [.Tuple es k p] X.env).map (·.2)=[assign (.Tuple es k p) X.env]):
  PS X (.Assign [.Tuple es k p] e pos) (tS G X C (.asgT js e')):=by
 refine PS.imp (akR he (ahJ (G:=G) hc h hn hst) hs hw h1) ?_
 rintro D σV H ⟨w₀,H₀,w,σ,s,g,h⟩
 refine⟨w₀,H₀,w,σ,s,g,(abW g h).imp ?_⟩
 rintro v H1 ⟨w1,r,s1,L1,S1,R1,g1,q1⟩
 obtain⟨ts,ht,qa⟩:=abi q1
 obtain⟨σ2,hp,qb⟩:=abi qa
 rcases aoF ht with rfl|rfl
 ·exact⟨w1,s1,.tup ts,σ,σ2,S1,R1,hp,fun vs hf hl=>qb w1 H1 _ ⟨S1,hf H₀ σV g1.fr,g1.ent⟩ (LeS.puts hp hl)⟩
 ·exact⟨w1,s1,.lst ts,σ,σ2,S1,R1,hp,fun vs hf hl=>qb w1 H1 _ ⟨S1,hf H₀ σV g1.fr,g1.ent⟩ (LeS.puts hp hl)⟩
end
def Ite(a:Addr):It:=
 ⟨fun i H=>∃vs v,Rd H a (.lst vs)∧vs[i]?=some v,
  fun i H x H'=>∃T v,x=.ref T∧H T=none∧H'=upd H T (.tup [.int i,v])∧∀vs,Rd H a (.lst vs)→vs[i]?=some v,
  fun i H=>∃vs,Rd H a (.lst vs)∧vs.length≤i⟩
section
variable{G:Gx}{X:Cx}{C:Cf}{w w' w₀:Wo}{H H' H₀:Hp}{σ σ':Fr}{σV σV':St}{pos:Pos}
theorem afB{pins:List (Addr×Obj)}{σ:St}{H:Hp}{s:Shared}{h':Heap}{t':Nat}{e it:Addr}(I:Inv X pins σ H s)(k:∀b o,b≠e→b≠it→s.heap.get? b=some o→h'.get? b=some o)(f1:aeb X pins H e)(f2:aeb X pins H it):
  Inv X pins σ H { s with heap:=h',toks:=t' }:=by
 have hf:∀b∈[e,it],aeb X pins H b:=fun b hb=>by
  rcases List.mem_cons.mp hb with rfl|hb
  ·exact f1
  ·have:b=it:=by simpa using hb
   subst this
   exact f2
 have k':∀b o,b∉[e,it]→s.heap.get? b=some o→h'.get? b=some o:=fun b o hb q=>k b o (fun z=>hb (by simp[z])) (fun z=>hb (by simp[z])) q
 have nit:∀b u,H b=some u→b∉[e,it]:=fun b u q z=>by rw[(hf b z).1]at q;cases q
 refine I.step (g':=s.gens) (d':=s.drawn) (ch:=[e,it]) (fun b hb=>?_) (fun b o _ _ hc e _=>k' b o hc e) (fun b o _ _ hc e _=>⟨o.slots,k' b o hc e⟩) (fun _ _ _ _ n=>n)
  (fun b o hc e=>⟨o,k' b o hc e⟩) (fun _ _ e=>e) (fun _ _ _ e=>e) (fun b ps e=>⟨#[],by rw[e];simp⟩) (fun m hm=>?_) (fun b u e=>?_) I.bare
 ·obtain⟨_,g1,g2,g3,g4,g5⟩:=hf b hb
  exact⟨g3,g1,g4,g5⟩
 ·obtain⟨o,es,ep,ho,r⟩:=hm
  exact⟨o,es,ep,k' _ o (fun z=>(hf _ z).2.1 rfl) ho,r⟩
 ·refine(I.hok b u e).stay (fun c v hc q=>k' c v ?_ q) (fun _ q=>q) fun _ _ q=>q
  rcases hc with z|z
  ·rw[z];exact nit b u e
  ·exact nit c _ z
theorem aiO{P:Program}{w:World}{K:PySem.W.Frag}{es:List Expr}{k:Nat}{p:Pos}(a e it:Addr)(hei:e≠it):Turn P w K (.Tuple es k p) (Ite a) [e,it] e (fun i h=>(∃old,IsEnum h e it i old)∧h.IsListIter it a i)where
 mem:=by simp
 obj:=fun i h ⟨⟨old,he⟩,hit⟩ b hb=>by
  rcases List.mem_cons.mp hb with rfl|hb
  ·exact⟨_,he,fun v z=>by cases z⟩
  ·have:b=it:=by simpa using hb
   subst this
   obtain⟨o,e1,c,d⟩:=hit
   exact⟨o,e1,fun v z=>by rw[d]at z;cases z⟩
 keep:=fun i h h' ⟨⟨old,he⟩,hit⟩ k=>⟨⟨old,k e (by simp) _ he⟩,hit.at fun o x=>k it (by simp) o x⟩
 item:=by
  intro X hP hw hK hc i pins s σ H E I hf ⟨⟨old,he⟩,hit⟩ ⟨vs,v,hr,hx⟩
  subst hP hw hK
  obtain⟨its,rv,p⟩:=aaN I hr
  obtain⟨u,hu,ru⟩:=rv.get hx
  have f1:=hf e (by simp)
  have f2:=hf it (by simp)
  have le:e<s.heap.objs.size:=Heap.lt_size he
  have li:it<s.heap.objs.size:=by obtain⟨o,q,_⟩:=hit;exact Heap.lt_size q
  refine wpAny_pyNext_enum_item he hit p (x:=u) (by simpa using hu) hei fun h1 ho hit1 hT hsz hk=>⟨_,rfl,?_⟩
  refine wpAny_letOwnedTupleGo_enum ho fun h2 he2 hs2=>?_
  have hn:H s.heap.objs.size=none:=I.hok.fresh (Nat.le_refl _)
  have I1:Inv X pins σ (upd H s.heap.objs.size (.tup [.int i,v])) { s with heap:=s.heap.push { cls:=.type "tuple",data:=.seq #[.int i s.toks,u] },toks:=s.toks+1 }:=by
   refine I.laid (fun b o q=>Heap.get?_push_of_some _ q) (Nat.le_refl _) ⟨show 2≤sizeLine by decide,[.int i s.toks,u],.cons ⟨_,rfl⟩ (.cons ru .nil),?_⟩
   exact⟨_,Heap.get?_push_size _ rfl,rfl,_,rfl⟩
  have fp:∀b∈[e,it],aeb X pins (upd H s.heap.objs.size (.tup [.int i,v])) b:=fun b hb=>by
   refine⟨?_,(hf b hb).2⟩
   have:b≠s.heap.objs.size:=by
    rcases List.mem_cons.mp hb with rfl|hb
    ·exact Nat.ne_of_lt le
    ·have:b=it:=by simpa using hb
     subst this
     exact Nat.ne_of_lt li
   rw[aag this]
   exact(hf b hb).1
  have I2:Inv X pins σ (upd H s.heap.objs.size (.tup [.int i,v])) { s with heap:=h2,toks:=s.toks+1 }:=by
   refine afB (s:={ s with heap:=s.heap.push { cls:=.type "tuple",data:=.seq #[.int i s.toks,u] },toks:=s.toks+1 }) I1 (fun b o n1 n2 q=>?_) (fp e (by simp)) (fp it (by simp))
   rcases Heap.get?_push_cases q with⟨rfl,rfl⟩|q
   ·exact(hs2.2 _ (Nat.ne_of_gt le)).trans hT
   ·exact(hs2.2 b n1).trans (hk b o n1 n2 q)
  refine⟨.ref s.heap.objs.size,_,I2,rfl,⟨_,v,rfl,hn,rfl,fun ws hw=>?_⟩,⟨⟨u,by simpa using he2⟩,hit1.at fun o q=>(hs2.2 it hei.symm).trans q⟩,fun b hb=>(fp b hb).1⟩
  have:ws=vs:=by
   obtain⟨its2,rv2,p2⟩:=aaN I hw
   obtain⟨o1,e1,_,n1,d1⟩:=p
   obtain⟨o2,e2,_,n2,d2⟩:=p2
   rw[e1]at e2
   cases e2
   rw[d1]at d2
   injection d2 with d3 _
   have:its=its2:=by simpa using congrArg Array.toList d3
   subst this
   exact rv2.inj rv
  rw[this];exact hx
 done:=by
  intro X hP hw hK hc i pins s σ H E I hf ⟨⟨old,he⟩,hit⟩ ⟨vs,hr,hx⟩
  subst hP hw hK
  obtain⟨its,rv,p⟩:=aaN I hr
  have hl:=rv.length
  obtain⟨f0,f1,f2,f3,f4,f5⟩:=hf it (by simp)
  exact wpAny_pyNext_enum_end (I.ok.hd hc) he hit p (by simp;omega) fun h' eb=>⟨rfl,I.turned (t':=s.toks) (fun b o hb q=>eb b o hb q) f0 f1 f3 f4 f5⟩
 self:=fun _ _ _ _ _ ⟨⟨old,he⟩,_⟩ h=>wpAny_pyIter_enum he h
theorem ado:bootBuiltins "enumerate"=some (.type "enumerate"):=by decide +kernel
theorem amC{es:List Expr}{k:Nat}{p1:Pos}{a:Expr}{ta:TA}{p pos:Pos}(hg:Gl X "enumerate")(hm:X.mg "enumerate"=none)(ha:PA X [a] ta)(hs:starEach [a] X.env=[(false,eval a X.env)]):
  PI X (.Tuple es k p1) (.Call (.Name "enumerate" p) [a] [] pos) (fun σ H R=>ta σ H fun vs H1=>∃b,vs=[.ref b]∧(∃xs,Rd H1 b (.lst xs))∧R (Ite b) H1):=by
 intro pins s σ H R I h
 refine PyProof.Rows.Call_ (ad0 I hg hm ado (PyProof.Rows.callWith_type1 (thn (ha pos pins s σ H _ I h) fun us s1 ⟨vs,H1,I1,r1,q1⟩=>?_) hs rfl))
 obtain⟨b,e,⟨xs,hr⟩,q⟩:=q1
 subst e
 cases r1 with
 | cons r rr=>
  cases rr
  cases r
  obtain⟨_,its,n,rv,_,e⟩:=Rd.lst I1 hr
  refine call_enumerate_1 e fun h' he hit hsz hk=>wpAny_pyIter_enum he ?_
  have I2:Inv X pins σ H1 { s1 with heap:=h' }:=I1.kept (t':=s1.toks) hk
  refine⟨_,[s1.heap.objs.size+1,s1.heap.objs.size],_,_,H1,rfl,I2,aiO b _ _ (Nat.succ_ne_self _),⟨⟨_,he⟩,hit⟩,fun c hc=>?_,q⟩
  have:s1.heap.objs.size≤c:=by
   rcases List.mem_cons.mp hc with rfl|hc
   ·exact Nat.le_succ _
   ·have:c=s1.heap.objs.size:=by simpa using hc
    exact Nat.le_of_eq this.symm
  exact I1.fpOk this (I1.hok.fresh this)
end
theorem afP:∀(ts:List T) (n i:Nat),(enT n ts)[i]?=ts[i]?.map fun t=>T.tup [.int ((n+i:Nat):Int),t]
 | [],n,i=>by simp[enT]
 | t::ts,n,0=>by simp[enT]
 | t::ts,n,i+1=>by
  have:=afP ts (n+1) i
  simp only[enT,List.getElem?_cons_succ,this]
  congr 1
  funext u
  have:n+1+i=n+(i+1):=by omega
  rw[this]
theorem adM:∀(ts:List T) (n:Nat),(enT n ts).length=ts.length
 | [],_=>rfl
 | t::ts,n=>by simp[enT,adM ts]
section
variable{G:Gx}{X:Cx}{C:Cf}{w w' w₀:Wo}{H H' H₀:Hp}{σ σ':Fr}{σV σV':St}{pos:Pos}
theorem ak0{js:List Nat}{b':List S}{D:Ends}{a:Addr}{vs:List V}{ts:List T}{s:Sto}(gd:Good G w₀ H₀ w H σ s σV)(SO:abg G w H true (.l a vs) ts)
  (h:aan G X w₀ H₀ w H σ σV (abr (.many js) (fun σ s=>exs C b' σ s) (enT 0 ts) σ s) D):
  ∃W:Nat→Nat→St→Hp→Prop,(∃m,W 0 m σV H)∧∀i m σV H,W i m σV H→
   ((Ite a).stop i H∧D.nx σV H)∨((Ite a).go i H∧∃N:St→Hp→Prop,(∀σ' H',N σ' H'→∃m',m'<m∧W (i+1) m' σ' H')∧∀x H',(Ite a).yld i H x H'→gTg G (.many js) x σV H' fun σ2 H2=>tSs G X C b' { D with nx:=N,ct:=N,bk:=D.nx } σ2 H2):=by
 refine⟨fun i m σV1 H1=>∃w1 σ1 s1,m=ts.length-i∧i≤ts.length∧Good G w₀ H₀ w1 H1 σ1 s1 σV1∧abg G w1 H1 true (.l a vs) ts∧aan G X w₀ H₀ w1 H1 σ1 σV1 (abr (.many js) (fun σ s=>exs C b' σ s) ((enT 0 ts).drop i) σ1 s1) D,
  ⟨ts.length,w,σ,s,rfl,Nat.zero_le _,gd,SO,h⟩,?_⟩
 rintro i m σV1 H1 ⟨w1,σ1,s1,hm,hi,g1,SO1,h1⟩
 by_cases hlt:i<ts.length
 ·refine .inr ?_
  have et:ts[i]?=some ts[i]:=List.getElem?_eq_getElem hlt
  have hl2:i<(enT 0 ts).length:=by rw[adM];exact hlt
  have ed:(enT 0 ts).drop i=T.tup [.int (i:Int),ts[i]]::(enT 0 ts).drop (i+1):=by
   rw[List.drop_eq_getElem_cons hl2]
   congr 1
   have:=afP ts 0 i
   rw[et,List.getElem?_eq_getElem hl2]at this
   simpa using this
  rw[ed]at h1
  obtain⟨σ2,hb,h1⟩:=abi (show aan G X w₀ H₀ w1 H1 σ1 σV1 (onS (aaq σ1 (.many js) (T.tup [.int (i:Int),ts[i]])) fun σ'=>(exs C b' σ' s1).bind fun σ2 s2=>abr (.many js) (fun σ s=>exs C b' σ s) ((enT 0 ts).drop (i+1)) σ2 s2) D from h1)
  obtain⟨r1,r2,r3,r4⟩:=id SO1
  obtain⟨v,ev,rv⟩:=r2.get et
  refine⟨⟨vs,v,r1,ev⟩,fun σV3 H3=>∃w3 σ3 s3,Good G w₀ H₀ w3 H3 σ3 s3 σV3∧abg G w3 H3 true (.l a vs) ts∧aan G X w₀ H₀ w3 H3 σ3 σV3 (abr (.many js) (fun σ s=>exs C b' σ s) ((enT 0 ts).drop (i+1)) σ3 s3) D,fun σV3 H3 ⟨w3,σ3,s3,q1,q2,q3⟩=>⟨ts.length-(i+1),by omega,w3,σ3,s3,rfl,hlt,q1,q2,q3⟩,fun x H' hy=>?_⟩
  obtain⟨T₁,v',ex,hn,rfl,hv⟩:=hy
  subst ex
  have:v'=v:=by
   have:=hv vs r1
   rw[ev]at this
   exact(Option.some.inj this).symm
  subst this
  have L1:Le w1 w1 H1 (L2.upd H1 T₁ (.tup [.int i,v'])):=Le.new hn _
  have S1:=g1.sto.new hn (.tup [.int i,v'])
  have g1':=g1.step L1 S1
  have rT:Rep G w1 (L2.upd H1 T₁ (.tup [.int i,v'])) (T.tup [.int (i:Int),ts[i]]) (.ref T₁):=⟨T₁,_,rfl,aax,⟨_,_,rfl,rfl,_,_,rfl,Rep.mono L1 g1.sto _ _ rv,rfl⟩⟩
  refine⟨w1,s1,_,σ1,σ2,S1,rT,hb,fun us hfr hl=>?_⟩
  have g2:Good G w₀ H₀ w1 (L2.upd H1 T₁ (.tup [.int i,v'])) σ2 s1 (abk σV1 js us):=⟨S1,hfr H₀ σV1 g1'.fr,g1'.ent⟩
  have l2:LeS w1 w1 H1 (L2.upd H1 T₁ (.tup [.int i,v'])) σ1 σ2 σV1 (abk σV1 js us):=(LeS.of L1).trans (LeS.puts (show puts σ1 js [.int (i:Int),ts[i]]=some σ2 from hb) hl)
  obtain⟨SO2,SF2⟩:=abg.monoS (src:=.l a vs) l2 g1.sto g1.fr (g1.fr.notOwnZ (r4 rfl)) SO1
  refine⟨w₀,H₀,w1,σ2,s1,g2,?_⟩
  cases hx:exs C b' σ2 s1 with
  | stuck=>rw[hx]at h1;exact h1
  | ret r s3=>rw[hx]at h1;exact h1
  | retO ts s3=>rw[hx]at h1;exact h1
  | exc d σ3 s3=>rw[hx]at h1;exact fun w3 H3 σV3 pins u sh g3 L3 T=>h1 w3 H3 σV3 pins u sh g3 (l2.trans L3) T
  | next σ3 s3=>
   rw[hx]at h1
   intro w3 H3 σV3 g3 L3
   obtain⟨SO3,SF3⟩:=abg.monoS (src:=.l a vs) L3 g2.sto g2.fr SF2 SO2
   exact⟨w3,σ3,s3,g3,SO3,aan.mono (l2.trans L3) h1⟩
 ·have ei:i=ts.length:=by omega
  subst ei
  have:(enT 0 ts).drop ts.length=[]:=List.drop_of_length_le (Nat.le_of_eq (adM ts 0))
  rw[this]at h1
  obtain⟨r1,r2,r3,r4⟩:=SO1
  exact .inl ⟨⟨vs,r1,by rw[r2.length];exact Nat.le_refl _⟩,h1 w1 H1 σV1 g1 LeS.refl⟩
theorem arf{es:List Expr}{k:Nat}{p p1 p2:Pos}{a:Expr}{a':E}{js:List Nat}{b:List Stmt}{b':List S}(hp:PassesOwn (model X.prog X.w) X.A X.env X.xe)(hc:X.calm=true)(hgl:Gl X "enumerate")(hmg:X.mg "enumerate"=none)(ha:PE X a (tV G X C a'))
  (hst:starEach [a] X.env=[(false,eval a X.env)]) (hg:PG X (.Tuple es k p1) (gTg G (.many js))) (hb:PSs X b (tSs G X C b')) (hs:∀x,foldedSetIterable (.Call (.Name "enumerate" p) [a] [] p2) X.env x=pure x):
  PS X (.For (.Tuple es k p1) (.Call (.Name "enumerate" p) [a] [] p2) b [] pos) (tS G X C (.for_ (.many js) (.enm a') b')):=by
 refine PS.imp (ahU hp hc (amC hgl hmg (aa5 ha abb hst) hst) hg hb hs) ?_
 rintro D σV H ⟨w₀,H₀,w,σ,s,gd,h⟩
 have h:aan G X w₀ H₀ w H σ σV (((ev C a' .v σ s).bind fun x s1=>onL x fun ts=>.ok (.val (.lst (enT 0 ts))) s1).st σ fun x s1=>onS x.lst? fun ts=>abr (.many js) (fun σ s=>exs C b' σ s) ts σ s1) D:=h
 refine⟨w₀,H₀,w,σ,s,gd,?_⟩
 cases he:ev C a' .v σ s with
 | stuck=>rw[he]at h;exact h.elim
 | exc c s1=>rw[he]at h;exact fun w1 H1 pins u sh L S T=>h w1 H1 σV pins u sh (gd.step L S) (LeS.of L) T
 | ok x s1=>
  rw[he]at h
  intro w1 H1 v L S R1
  match x,R1,h with
  | .val (.lst ts),⟨a,vs,e,z,r,q⟩,h=>
   subst e
   have h:aan G X w₀ H₀ w H σ σV (abr (.many js) (fun σ s=>exs C b' σ s) (enT 0 ts) σ s1) D:=h
   exact⟨a,rfl,⟨vs,r⟩,ak0 (gd.step L S) ⟨r,q,S.zLoc z,fun _=>z⟩ (aan.mono (LeS.of L) h)⟩
  | .val .non,_,h=>exact h.elim
  | .val (.bl _),_,h=>exact h.elim
  | .val (.str _),_,h=>exact h.elim
  | .val (.tup _),_,h=>exact h.elim
  | .val (.int _),_,h=>exact h.elim
  | .val (.loc _),_,h=>exact h.elim
  | .val (.exc _),_,h=>exact h.elim
  | .bor _,_,h=>exact h.elim
end
end IP
end
noncomputable section
namespace IP
open PySem PySem.Spec L2
def aut:V→List V→Hp→VK→Prop:=fun x vs H Q=>∃sep p ys xs,x=.str sep∧vs=[.ref p]∧Rd H p (.lst ys)∧ys=xs.map V.str∧(xs.map (·.length)).sum+xs.length*sep.length≤lim∧Q (.str (PySem.Str.join sep xs)) H
section
variable{G:Gx}{X:Cx}{C:Cf}{w w' w₀:Wo}{H H' H₀:Hp}{Q:VK}{a b e:Expr}{a' b' e':IP.E}{pos p p1 p2 cpos:Pos}{i:Nat}{x:Str}
theorem aeC:∀{xs:List Str}{its:List Value},Vals (xs.map V.str) its→∃l:List (Str×Tok),its=strValues l∧l.map (·.1)=xs
 | [],its,r=>by cases r;exact⟨[],rfl,rfl⟩
 | x::xs,its,r=>by
  cases r with
  | cons h q=>
   obtain⟨t,rfl⟩:=h
   obtain⟨l,rfl,rfl⟩:=aeC q
   exact⟨(x,t)::l,rfl,rfl⟩
theorem ajM{sep:Str}{xs:List Str}(h:(xs.map (·.length)).sum+xs.length*sep.length≤lim):JoinOk sep xs=true:=by
 unfold JoinOk
 rw[StrLaws.joinTotal]
 have:lim≤sizeLine:=by decide
 simp only[Builtin.Str.tooLong,Bool.not_eq_true',decide_eq_false_iff_not]
 omega
theorem amQ:MtR X "str.join" aut:=by
 intro pins s σ H x vs v us Q I rx rv h
 obtain⟨sep,p,ys,xs,rfl,rfl,hp,rfl,hz,q⟩:=h
 obtain⟨t,rfl⟩:=rx
 obtain⟨u,rfl,ru⟩:=rv.one
 cases ru
 obtain⟨its,r,e⟩:=aaN I hp
 obtain⟨l,rfl,hl⟩:=aeC r
 refine SC.join e hl (ajM hz) fun t' k=>⟨.str (PySem.Str.join sep xs),H,I.tok _,⟨t',?_⟩,q⟩
 rw[show Txt.join sep xs=PySem.Str.join sep xs from StrLaws.glued_eq_join sep xs]
theorem ad8:∀{ts:List T}{xs:List Str},ade ts=some xs→∀{vs:List V},aah G w H ts vs→vs=xs.map V.str
 | [],xs,h,vs,r=>by cases h;exact r
 | .str x::ts,xs,h,vs,⟨v,q,e,h1,h2⟩=>by
  obtain⟨ys,h3,rfl⟩:=map_some (show(ade ts).map (x::·)=some xs from h)
  subst e
  cases h1
  rw[ad8 h3 h2]
  rfl
theorem amy{sep:Str}{j:Nat}{sp:Pos}(hb:PE X b (tV G X C b'))
  (hfew:((backTo cpos (starEach [b] X.env)).all (fun x=>!x.1)&&(backToKw cpos (keywordEach [] X.env)).all (fun x=>x.1.isSome)&&decide ([b].length+([]:List Keyword).length+(if([]:List Keyword).isEmpty then 0 else 1)<30))=true)
  (hline:(p2.endLine==cpos.line)=true) (hst:starEach [b] X.env=[(false,eval b X.env)]):PE X (.Call (.Attribute (.Constant (.str sep) j sp) "join" p2) [b] [] cpos) (tV G X C (.join sep b')):=by
 refine PE.imp (ajk PySem.F.plainAttrs_str PySem.F.slot_str_join PySem.F.type_str_join amQ afa (aa5 hb abb hst) rfl hfew hline hst rfl) ?_
 rintro σV H Q ⟨w₀,H₀,w,σ,s,g,h⟩
 have h:aa4 G X σV w H ((ev C b' .v σ s).bind fun y s1=>.of (aff sep (y.dr s1)) s1) Q:=h
 refine⟨rfl,w₀,H₀,w,σ,s,g,(aa4.bind h).imp ?_⟩
 rintro v H1 ⟨w1,r1,s1,L1,S1,R1,h1⟩
 obtain⟨r,e,q⟩:=aa4.of h1
 unfold aff at e
 cases hs:(r1.dr s1).seq with
 | none=>rw[hs]at e;cases e
 | some ts=>
  rw[hs]at e
  cases hx:ade ts with
  | none=>simp[hx]at e
  | some xs=>
   simp only[hx,Option.bind_eq_bind,Option.bind_some]at e
   split at e
   ·rename_i hz
    cases e
    obtain⟨p,vs,rfl,hp,rp⟩:=acK.seq (s:=s1) (R1.dr S1) hs
    exact⟨sep,p,vs,xs,rfl,rfl,hp,ad8 hx rp,hz,q w1 H1 _ (Le.refl _ _) S1 rfl⟩
   ·cases e
theorem amu{y:Str}{j:Nat}(ha:PE X a (tV G X C a')):PE X (.JoinedStr [.FormattedValue a (-1) none p,.Constant (.str y) j p1] pos) (tV G X C (.bin .add a' (.cst (.str y)))):=by
 rintro pins s0 σV H Q I ⟨w₀,H₀,w,σ,s,g,h⟩
 have h:aa4 G X σV w H ((ev C a' .v σ s).bind fun x s1=>.of (opR .add x (.val (.str y))) s1) Q:=h
 refine PyProof.Rows.JoinedStr_many (PyProof.Rows.joinParts_cons (PyProof.Rows.FormattedValue_plain (thn (ha pins s0 σV H _ I ⟨w₀,H₀,w,σ,s,g,aa4.bind h⟩) ?_)))
 rintro v sh ⟨x,H1,I1,rx,w1,r1,s1,L1,S1,R1,h1⟩
 obtain⟨r,e,q⟩:=aa4.of h1
 have key:∃z,r1=.val (.str z)∧z.length+y.length≤lim∧r=.val (.str (z++y)):=by
  unfold opR at e
  split at e
  ·rename_i z;cases z
  ·rename_i z;cases z
  ·rename_i c d _ z
   cases z
   split at e
   ·rename_i hz;cases e;exact⟨c,rfl,hz,rfl⟩
   ·cases e
  ·rename_i z1 z2
   split at e
   ·rename_i xs ys e1 e2;cases e2
   ·cases e
  ·cases e
 obtain⟨z,rfl,hz,rfl⟩:=key
 cases R1
 obtain⟨t,rfl⟩:=rx
 have hl:lim≤sizeLine:=by decide
 have he:(Str.empty++z:Str)=z:=by
  cases z
  exact congrArg Str.mk (Array.empty_append)
 refine PyProof.Rows.formatField_str (fun t' tk=>?_) (by omega)
 show(Str.empty++z).length≤sizeLine∧_
 rw[he]
 refine⟨by omega,PyProof.Rows.joinParts_cons (thn (afa (x:=y) (j:=j) (pos:=p1) pins _ σV H1 (fun u H2=>u=.str y∧H2=H1) (I1.tok tk) ⟨rfl,rfl⟩) ?_)⟩
 rintro u s2 ⟨yv,H2,I2,ry,rfl,rfl⟩
 obtain⟨t2,rfl⟩:=ry
 have hn:(z++y).length≤sizeLine:=by
  rw[PySem.strLen_append]
  omega
 exact⟨hn,PyProof.Rows.joinParts_nil ⟨.str (z++y),_,I2.tok _,⟨_,rfl⟩,q w1 _ _ (Le.refl _ _) S1 rfl⟩ hn⟩
end
end IP
namespace IP
open PySem PySem.Spec L2
section
variable{G:Gx}{X:Cx}{C:Cf}{w w' w₀:Wo}{H H' H₀:Hp}{Q:VK}{a b e:Expr}{a' b' e':IP.E}{pos p p1 p2 cpos:Pos}{i:Nat}{x:Str}
theorem apk(hN:X.N[i]?=some x)(hv:Vis X.env.scope x)(hd:(x==("__debug__":Str))=false)(hcd:(x==("__classdict__":Str))=false)(he:PE X e (tO G X C e'))(hst:starEach [e] X.env=[(false,eval e X.env)])
  (hline:(p2.endLine==cpos.line)=true) (hbase:attributeBase (.Name x p1) "extend" X.env (eval (.Name x p1) X.env)=eval (.Name x p1) X.env)
  (hfew:((backTo cpos (starEach [e] X.env)).all (fun x=>!x.1)&&(backToKw cpos (keywordEach [] X.env)).all (fun x=>x.1.isSome)&&decide ([e].length+([]:List Keyword).length+(if([]:List Keyword).isEmpty then 0 else 1)<30))=true)
  (hs:swapsWith (.Call (.Attribute (.Name x p1) "extend" p2) [e] [] cpos) none pos.line X.env=pure false):
  PS X (.Expr (.Call (.Attribute (.Name x p1) "extend" p2) [e] [] cpos) pos) (tS G X C (.ext i e')):=by
 refine PS.imp (ael (ajk PySem.F.plainAttrs_list PySem.F.slot_list_extend PySem.F.type_list_extend ah3 (adu hN hv hd hcd) (aa5 he abb hst) hbase hfew hline hst rfl) hs) ?_
 rintro D σV H ⟨w₀,H₀,w,σ,s,g,h⟩
 obtain⟨ts,ho,h⟩:=abi (show aan G X w₀ H₀ w H σ σV (onS (ab5 σ i) fun ts=>(ev C e' .v σ s).st σ fun x s1=>onS x.lst? fun us=>if ts.length+us.length≤lim then .next (aai σ i (ts++us)) s1 else .stuck) D from h)
 have hi:=adf ho
 obtain⟨a,vs,h1,h2,h3,h4,h5,h6⟩:=g.fr.own i _ ts hi rfl
 refine⟨.ref a,h1,.inl ⟨rfl,vs,SqL.of h2⟩,w₀,H₀,w,σ,s,g,?_⟩
 cases hv:ev C e' .v σ s with
 | stuck=>rw[hv]at h;exact h
 | exc c s1=>rw[hv]at h;exact fun w1 H1 pins u sh L S T=>h w1 H1 σV pins u sh (g.step L S) (LeS.of L) T
 | ok r s1=>
  rw[hv]at h
  obtain⟨us,ht,q1⟩:=abi (show aan G X w₀ H₀ w H σ σV (onS r.lst? fun us=>if ts.length+us.length≤lim then .next (aai σ i (ts++us)) s1 else .stuck) D from h)
  have er:r=.val (.lst us):=by
   match r,ht with
   | .val (.lst _),ht=>cases ht;rfl
  subst er
  split at q1
  ·rename_i hlim
   intro w1 H1 b ws L1 S1 hb rb hn nz nl
   have g1:=g.step L1 S1
   have ha1:=L1.keep a _ h2 h6
   have r1:=aah.mono L1 g.sto ts vs h3
   refine⟨a,b,vs,ws,rfl,rfl,ha1,hb,by rw[←h3.length,←rb.length];have:=aez;omega,?_⟩
   obtain⟨g2,l2⟩:=g1.chg hi h1 ha1 (r1.append rb)
   exact q1 w1 _ σV g2 ((LeS.of L1).trans l2)
  ·exact q1.elim
end
end IP
end
noncomputable section
namespace IP
open PySem PySem.Spec L2
end IP
end
noncomputable section
namespace IP
open PySem PySem.Spec L2 PySem.Builtin PySem.Builtin.Str
section
variable{G:Gx}{X:Cx}{C:Cf}{w w' w₀:Wo}{H H' H₀:Hp}{Q:VK}{a b e:Expr}{a' b' e':IP.E}{pos p p1 p2 cpos:Pos}{i:Nat}{x:Str}
theorem aqW:aaA X (.type "int") (rB1 G aog):=by
 rintro pins s σ H xs us Q I rx ⟨v,rfl,w,st,x,r,S,R1,e,q⟩
 obtain⟨u,rfl,ru⟩:=rx.one
 unfold aog at e
 split at e
 ·split at e
  ·rename_i y hl
   obtain⟨n,hn,rfl⟩:=map_some e
   cases R1
   obtain⟨t,rfl⟩:=ru
   exact PySem.W.KIN.call_text hn hl ⟨.int n,H,I.tok _,⟨_,rfl⟩,q w H _ (Le.refl _ _) S rfl⟩
  ·cases e
 ·cases e
theorem ao5:aaA X (.builtin "len") (rB1 G ar2):=by
 rintro pins s σ H xs us Q I rx ⟨v,rfl,w,st,x,r,S,R1,e,q⟩
 obtain⟨u,rfl,ru⟩:=rx.one
 unfold ar2 at e
 split at e
 ·split at e
  ·rename_i y hl
   cases e
   cases R1
   obtain⟨t,rfl⟩:=ru
   refine PyProof.Rows.SBL.len ?_ ⟨.int y.length,H,I.tok _,⟨_,rfl⟩,q w H _ (Le.refl _ _) S rfl⟩
   have:lim≤1000000:=Nat.le_refl _
   omega
  ·cases e
 ·cases e
def aod:V→List V→Hp→VK→Prop:=fun x vs H Q=>∃y sep,x=.str y∧vs=[.str sep]∧(sep.length==0)=false∧y.length≤lim∧∀a,H a=none→Q (.ref a) (upd H a (.lst ((PySem.Txt.split y sep).map V.str)))
theorem aiT:∀l:List (Str×Tok),Vals ((l.map (·.1)).map V.str) (strValues l)
 | []=>.nil
 | (x,t)::l=>.cons ⟨t,rfl⟩ (aiT l)
theorem ajR:MtR X "str.split" aod:=by
 intro pins s σ H x vs v us Q I rx rv h
 obtain⟨y,sep,rfl,rfl,hy,hz,q⟩:=h
 obtain⟨t,rfl⟩:=rx
 obtain⟨u,rfl,ru⟩:=rv.one
 obtain⟨u,rfl⟩:=ru
 have hs:lim+2≤sizeLine:=by decide
 have fin:∀(l:List (Str×Tok)) (k:Nat),l.map (·.1)=PySem.Txt.split y sep→EP X pins σ Q (.ref s.heap.objs.size) { s with heap:=s.heap.push { cls:=.type "list",data:=.seq (strValues l).toArray },toks:=k }:=by
  intro l k e
  have hf:H s.heap.objs.size=none:=I.hok.fresh (Nat.le_refl _)
  refine⟨.ref s.heap.objs.size,upd H s.heap.objs.size (.lst ((PySem.Txt.split y sep).map V.str)),I.laid (t':=k) (fun b u e=>Heap.get?_push_of_some _ e) (Nat.le_refl _) ?_,rfl,q _ hf⟩
  refine⟨?_,strValues l,0,by rw[←e];exact aiT l,Heap.get?_push_size _ rfl⟩
  have:=PyProof.Rows.split_le y sep
  rw[List.length_map]
  omega
 have hl:=PyProof.Rows.split_le y sep
 have h2:y.length+2≤sizeLine:=by omega
 have hcut:(partsBetween y (occurrences y sep 0 y.length (y.length+1)) sep.length).length≤sizeLine:=by
  have:=PySem.StrLaws.occ_length_le y sep 0 y.length (y.length+1)
  rw[length_partsBetween];omega
 cases g1:(decide (y.length<sep.length)||decide (strKind y<strKind sep))with
 | true=>
  refine call_meets F.slot_str_split (typeIs_str _ _ _) F.entry_str_split (F.args_str_split_2 _ _) (meets_str_split_cannot_occur y sep t u g1) ?_
  exact fin [(y,t)] s.toks (if_pos g1).symm
 | false=>
  cases g2:(occurrences y sep 0 y.length (y.length+1)).isEmpty with
  | true=>
   refine call_meets F.slot_str_split (typeIs_str _ _ _) F.entry_str_split (F.args_str_split_2 _ _) (meets_str_split_not_found y sep t u g1 hy g2) ?_
   exact fin [(y,t)] s.toks ((if_neg (ne_true_of_eq_false g1)).trans (if_pos g2)).symm
  | false=>
   refine call_meets F.slot_str_split (typeIs_str _ _ _) F.entry_str_split (F.args_str_split_2 _ _) (meets_str_split_sep y sep t u g1 hy g2 (by omega) hcut) ?_
   have e:=strsFrom_eq s.toks (partsBetween y (occurrences y sep 0 y.length (y.length+1)) sep.length)
   have f:=fun k=>fin (numbered s.toks (partsBetween y (occurrences y sep 0 y.length (y.length+1)) sep.length)) k ((numbered_texts _ _).trans ((if_neg (ne_true_of_eq_false g1)).trans (if_neg (ne_true_of_eq_false g2))).symm)
   rw[←e]at f
   exact f _
end
end IP
end
noncomputable section
namespace IP
open PySem PySem.Spec L2
section
variable{G:Gx}{X:Cx}{C:Cf}{w w' w₀:Wo}{H H' H₀:Hp}{Q:VK}{a b e:Expr}{a' b' e':IP.E}{pos p p1 p2 cpos py:Pos}{i:Nat}{x y:Str}
theorem aeV{w:Wo}{H:Hp}:∀xs:List Str,aah G w H (xs.map T.str) (xs.map V.str)
 | []=>rfl
 | x::r=>⟨.str x,_,rfl,rfl,aeV r⟩
theorem amn{sep:Str}{j:Nat}{sp:Pos}(hsep:(sep.length==0)=false)(ha:PE X a (tV G X C a'))(hbase:attributeBase a "split" X.env (eval a X.env)=eval a X.env)
  (hfew:((backTo cpos (starEach [.Constant (.str sep) j sp] X.env)).all (fun x=>!x.1)&&(backToKw cpos (keywordEach [] X.env)).all (fun x=>x.1.isSome)&&decide ([Expr.Constant (.str sep) j sp].length+([]:List Keyword).length+(if([]:List Keyword).isEmpty then 0 else 1)<30))=true)
  (hline:(p2.endLine==cpos.line)=true) (hst:starEach [.Constant (.str sep) j sp] X.env=[(false,eval (.Constant (.str sep) j sp) X.env)]):PE X (.Call (.Attribute a "split" p2) [.Constant (.str sep) j sp] [] cpos) (tV G X C (.splt sep a')):=by
 refine PE.imp (ajk PySem.F.plainAttrs_str PySem.F.slot_str_split PySem.F.type_str_split ajR ha (aa5 afa abb hst) hbase hfew hline hst rfl) ?_
 rintro σV H Q ⟨w₀,H₀,w,σ,s,g,h⟩
 have h:aa4 G X σV w H ((ev C a' .v σ s).bind fun y s1=>.of (alO sep (y.dr s1)) s1) Q:=h
 refine⟨w₀,H₀,w,σ,s,g,(aa4.bind h).imp ?_⟩
 rintro v H1 ⟨w1,r1,s1,L1,S1,R1,h1⟩
 obtain⟨r,e,q⟩:=aa4.of h1
 have D:=R1.dr S1
 unfold alO at e
 split at e
 ·rename_i y hy
  split at e
  ·rename_i hz
   cases e
   rw[hy]at D
   cases D
   refine⟨rfl,y,sep,rfl,rfl,hsep,hz,?_⟩
   exact acj S1 (aeV _) fun w' H' v L S R=>q w' H' v L S R
  ·cases e
 ·cases e
end
theorem akH{G:Gx}{X:Cx}{C:Cf}{body:List Stmt}{b':List S}{h₀:ExceptHandler}{hs:List ExceptHandler}{pos:Pos}(hst:X.stack=X.env::X.outer∧X.env.frame=some X.env.locals)
  (hbody:∀(E:Value→Shared→Prop) (pn:List (Addr×Obj)),PassesOwn (model X.prog X.w) X.A X.env E→PSs (adx X E pn) body (tSs G (adx X E pn) C b')):PS X (.Try body (h₀::hs) [] [] pos) (tS G X C (.tryN b')):=by
 rintro pins s σV H D I ⟨w₀,H₀,w,σ,st,g,h⟩
 have h:aan G X w₀ H₀ w H σ σV (exs C b' σ st).nox D:=h
 rw[arm_exec_Try]
 refine wpAny_bind (wpAny_standAt (aeo ?_))
 generalize hE2:(fun(u:Value) (s₁:Shared)=>wpAny (model X.prog X.w) X.A (leaving X.env u) (fun _ s₃=>wpAny (model X.prog X.w) X.A (handleBy u X.env (h₀::hs)) (SP X pins D) X.xe s₃) X.xe s₁)=E2
 have hp:PassesOwn (model X.prog X.w) X.A X.env E2:=ab7 (X:=adx X E2 []) (Q:=fun u _ s₃=>wpAny (model X.prog X.w) X.A (handleBy u X.env (h₀::hs)) (SP X pins D) X.xe s₃) (E₁:=fun _=>X.xe) hE2.symm
 refine wpAny_mono (hbody E2 (X.pn++pins) hp [] s σV H D (aif I) ⟨w₀,H₀,w,σ,st,g,?_⟩) (fun f s₁ q=>?_) fun u s₁ q=>?_
 ·cases hx:exs C b' σ st with
  | stuck=>rw[hx]at h;exact h
  | next σ1 s1=>rw[hx]at h;exact h
  | ret r s1=>rw[hx]at h;exact h
  | retO ts s1=>rw[hx]at h;exact h
  | exc d σ1 s1=>rw[hx]at h;exact h.elim
 ·have q:=age q
  cases f with
  | next=>exact wpAny_execs_nil q
  | brk=>exact q
  | cont=>exact q
  | ret v=>exact q
 ·exact q
section
variable{G:Gx}{X:Cx}{C:Cf}{a b e:Expr}{a' b' e':IP.E}{pos p p2:Pos}
theorem amf{f:T→Sto→Res (Option T)}{m:Res R}{r:R}{s1:Sto}(h:(m.bind fun x s1=>onL x fun ts=>(aa0 f ts s1).bind fun q s2=>.ok (.val (.lst q)) s2)=.ok r s1):∃ts,r=.val (.lst ts):=by
 cases m with
 | stuck=>cases h
 | exc c s=>cases h
 | ok x s=>
  replace h:(onL x fun ts=>(aa0 f ts s).bind fun q s2=>.ok (.val (.lst q)) s2)=.ok r s1:=h
  unfold onL at h
  split at h
  ·rename_i ts
   replace h:((aa0 f ts s).bind fun q s2=>.ok (.val (.lst q)) s2)=.ok r s1:=h
   cases hm:aa0 f ts s with
   | stuck=>rw[hm]at h;cases h
   | exc c s=>rw[hm]at h;cases h
   | ok q s2=>rw[hm]at h;cases h;exact⟨q,rfl⟩
  ·cases h
theorem ahI{elt it:IP.E}{g:Tg}{σ:Fr}{s:Sto}{r:R}{s1:Sto}(h:ev C (.comp elt g it) .v σ s=.ok r s1):∃ts,r=.val (.lst ts):=amf h
variable{i:Nat}{x:Str}{pos':Pos}
end
def nth{α:Type}:List α→α→Nat→α
 | [],z,_=>z
 | a::_,_,0=>a
 | _::r,z,n+1=>nth r z n
theorem ap5{G:Gx}{P:Program}{w:World}{K:PySem.W.Frag}{mg:Str→Option Value}{base:Heap}{k:Nat}{f:Addr}{fd:FuncData}{ps:List Str}{sp:Sp}(F:FnOk P w K mg base (CXE G P w base) k f fd ps sp):FnOk P w K mg base CX0 k f fd ps (fun vs H Q _=>sp vs H Q fun _ _ _=>False):=by
 refine⟨fun vs H Q E h=>F.len vs H Q _ h,fun A outer s H args us vs Q E hr e0 hb hv h=>codeAny_mono (F.run A outer s H args us vs Q (fun _ _ _=>False) hr e0 hb hv h) fun r s' q=>?_⟩
 cases r with
 | ok fl=>
  cases fl with
  | ret u=>exact q
  | next=>exact q
  | brk=>exact q
  | cont=>exact q
 | error e=>
  obtain⟨a,cls,t,H',h,B,_,_,_,_,_,_,_,_,z⟩:=q
  exact z
section
variable{G:Gx}{X:Cx}{C:Cf}
@[irreducible] def HE (X:Cx) (e:Expr) (t:TE):Prop:=PE X e t
theorem afQ{a:Expr}{a':IP.E}(ha:HE X a (tO G X C a')):HE X a (tV G X C (.cell a')):=by
 unfold HE at *
 exact ahC ha
end
theorem ao1{G:Gx}{P:Program}{w:World}{K:PySem.W.Frag}{mg:Str→Option Value}{base:Heap}{fs:List Fn}{sub:Nat→Nat→Bool}{k fi:Nat}{x qual:Str}{st:Stmt}{f:Addr}{fd:FuncData}{N ps:List Str}{F:Fn}(Fu:FunD K x qual st f fd)(S:FnScope N ps (defScope st))(hF:fs[fi]?=some F)(hp:F.pars=ps.length)(hs:F.size=N.length)
  (hbody:∀(cdv:Value) (A:Around) (outer:List Env) (s:Shared) (H:Hp) (E:XK),Room (2*k+1) (A.deeper (PyProof.Rows.envOfC qual (defScope st) s.heap.objs.size f cdv))→(A.deeper (PyProof.Rows.envOfC qual (defScope st) s.heap.objs.size f cdv)).units+9<cLine→
   PassesOwn (model P w) (A.deeper (PyProof.Rows.envOfC qual (defScope st) s.heap.objs.size f cdv)) (PyProof.Rows.envOfC qual (defScope st) s.heap.objs.size f cdv) (aen (CXE G P w base) P w K mg base N qual (defScope st) f cdv A outer s H E).xe→
   PSs (aen (CXE G P w base) P w K mg base N qual (defScope st) f cdv A outer s H E) (defBody st) (tSs G (aen (CXE G P w base) P w K mg base N qual (defScope st) f cdv A outer s H E) (cfX fs sub k) F.body)):
  FnOk P w K mg base (CXE G P w base) (2*(k+1)) f fd ps (spG G (run true fs sub aad (k+1)) (adK fs) fi):=
 aqN Fu S hF hp hs fun cdv A outer s H E hr=>hbody cdv A outer s H E hr (Nat.lt_of_le_of_lt (Nat.add_le_add_left (by decide:9≤64) _) hr.units) (ab7 (X:=aen (CXE G P w base) P w K mg base N qual (defScope st) f cdv A outer s H E) rfl)
def arN:Nat→(List Value→Prop)→Prop
 | 0,p=>p []
 | n+1,p=>∀a,arN n fun us=>p (a::us)
theorem ast:∀(n:Nat) {p:List Value→Prop},arN n p→∀us,us.length=n→p us
 | 0,p,h,us,hl=>by rw[List.length_eq_zero_iff.mp hl];exact h
 | n+1,p,h,us,hl=>by
  cases us with
  | nil=>cases hl
  | cons a us=>exact ast n (h a) us (Nat.succ.inj hl)
theorem lenB{K:PySem.W.Frag}{fd:FuncData}{ps:List Str}{ds:List Value}(n:Nat)(h:arN n fun us=>∀s:Shared,K.In s.heap→BindsTo s fd ⟨us,[]⟩ (ps.zip (us++ds)))(hn:n+ds.length=ps.length):Binds K fd ps ds:=fun s us X hl=>ast n (p:=fun us=>∀s:Shared,K.In s.heap→BindsTo s fd ⟨us,[]⟩ (ps.zip (us++ds))) h us (by rw[List.length_append]at hl;omega) s X
structure PV where
 (oc:Value) (od:Option Addr) (kV dc pm:Value) (an:Option Addr) (cd ct:Value) (sl:Array (Option Value))
structure FH(K:PySem.W.Frag)(x q:Str)(st:Stmt)(dv:Value)(f:Addr)(v:PV):Prop where
 a:PySem.W.nsIn K mainGlobals x=some (some (.ref f))
 l:K.lookup f=some ⟨v.oc,v.od,.func (PySem.W.fnOf x q (defArgs st) (defBody st) (defScope st) dv v.kV v.dc v.pm v.an v.cd v.ct),v.sl⟩
 c:PySem.W.codeIn K v.cd q=true
 k:PySem.W.keepIn K (.ref f)=true
structure FM(K:PySem.W.Frag)(C:Addr)(x q:Str)(st:Stmt)(dv:Value)(f:Addr)(v:PV):Prop where
 a:PySem.W.findIn K (.ref C) x=some (some (.ref f))
 i:PySem.W.isFn K (.ref f)=true
 l:K.lookup f=some ⟨v.oc,v.od,.func (PySem.W.fnOf x q (defArgs st) (defBody st) (defScope st) dv v.kV v.dc v.pm v.an v.cd v.ct),v.sl⟩
 c:PySem.W.codeIn K v.cd q=true
 k:PySem.W.keepIn K (.ref f)=true
theorem FH.of{K:PySem.W.Frag}{x q:Str}{st:Stmt}{dv:Value}{f:Addr}{oc:Value}{od:Option Addr}{kV dc pm:Value}{an:Option Addr}{cd ct:Value}{sl:Array (Option Value)}(a:PySem.W.nsIn K mainGlobals x=some (some (.ref f)))
  (l:K.lookup f=some ⟨oc,od,.func (PySem.W.fnOf x q (defArgs st) (defBody st) (defScope st) dv kV dc pm an cd ct),sl⟩) (c:PySem.W.codeIn K cd q=true) (k:PySem.W.keepIn K (.ref f)=true):FH K x q st dv f ⟨oc,od,kV,dc,pm,an,cd,ct,sl⟩:=⟨a,l,c,k⟩
theorem FM.of{K:PySem.W.Frag}{C:Addr}{x q:Str}{st:Stmt}{dv:Value}{f:Addr}{oc:Value}{od:Option Addr}{kV dc pm:Value}{an:Option Addr}{cd ct:Value}{sl:Array (Option Value)}(a:PySem.W.findIn K (.ref C) x=some (some (.ref f)))(i:PySem.W.isFn K (.ref f)=true)
  (l:K.lookup f=some ⟨oc,od,.func (PySem.W.fnOf x q (defArgs st) (defBody st) (defScope st) dv kV dc pm an cd ct),sl⟩) (c:PySem.W.codeIn K cd q=true) (k:PySem.W.keepIn K (.ref f)=true):FM K C x q st dv f ⟨oc,od,kV,dc,pm,an,cd,ct,sl⟩:=⟨a,i,l,c,k⟩
structure FD(K:PySem.W.Frag)(x q:Str)(st:Stmt)(ps:List Str)(E:Addr→Prop)where
 f:Addr
 d:FuncData
 t:FunD K x q st f d
 b:Binds K d ps []
 e:E f
abbrev Vv(G:Gx)(fs:List Fn)(sub:Nat→Nat→Bool)(k:Nat)(X:Cx)(e:Expr)(a:IP.E):Prop:=PE X e (tV G X (cfX fs sub k) a)
abbrev Vo(G:Gx)(fs:List Fn)(sub:Nat→Nat→Bool)(k:Nat)(X:Cx)(e:Expr)(a:IP.E):Prop:=PE X e (tO G X (cfX fs sub k) a)
abbrev Vt(G:Gx)(fs:List Fn)(sub:Nat→Nat→Bool)(k:Nat)(X:Cx)(e:Expr)(a:IP.E):Prop:=PT X e (tT G X (cfX fs sub k) a)
abbrev Vs(G:Gx)(fs:List Fn)(sub:Nat→Nat→Bool)(k:Nat)(X:Cx)(e:Stmt)(a:S):Prop:=PS X e (tS G X (cfX fs sub k) a)
abbrev Vz(G:Gx)(fs:List Fn)(sub:Nat→Nat→Bool)(k:Nat)(X:Cx)(e:List Stmt)(a:List S):Prop:=PSs X e (tSs G X (cfX fs sub k) a)
theorem nt{p:Prop}(h:false=true):p:=(Bool.false_ne_true h).elim
def keq(x y:Str):Bool:=x.cps.toList==y.cps.toList
theorem abc{x y:Str}(h:keq x y=true):x=y:=by
 cases x;cases y
 exact congrArg _ (Array.toList_inj.mp (eq_of_beq h))
theorem afi{x:Str}:keq x x=true:=beq_self_eq_true _
theorem acX{x y:Str}:(x==y)=keq x y:=by
 cases h:keq x y with
 | true=>rw[abc h];exact beq_self_eq_true _
 | false=>exact beq_false_of_ne fun e=>by rw[e,afi]at h;cases h
def lk{α:Type}:List (Str×α)→Str→Option α
 | [],_=>none
 | (y,a)::r,x=>bif keq x y then some a else lk r x
theorem aeY{α:Type}:∀(l:List (Str×α)) (x:Str),l.lookup x=lk l x
 | [],_=>rfl
 | (y,a)::r,x=>by
  rw[List.lookup_cons,lk,acX,aeY r x]
  cases keq x y<;>rfl
theorem aeA{α:Type}:∀{l:List (Str×α)}{x:Str}{a:α},lk l x=some a→(x,a)∈l
 | (y,b)::r,x,a,h=>by
  rw[lk]at h
  cases hk:keq x y with
  | true=>rw[hk]at h;cases h;rw[abc hk];exact List.mem_cons_self
  | false=>rw[hk]at h;exact List.mem_cons_of_mem _ (aeA h)
def isK(o:Option NameKind)(k:NameKind):Bool:=match o with|some q=>decide (q=k)|none=>false
theorem ab9{o:Option NameKind}{k:NameKind}(h:isK o k=true):o=some k:=by
 cases o with
 | none=>cases h
 | some q=>rw[of_decide_eq_true h]
def ifS{α:Type}(o:Option α)(f:α→Bool):Bool:=match o with|some a=>f a|none=>false
theorem aaO{α:Type}{o:Option α}{f:α→Bool}(h:ifS o f=true):∃a,o=some a∧f a=true:=by
 cases o with
 | none=>cases h
 | some a=>exact⟨a,rfl,h⟩
theorem aac{a b:Bool}(h:(a&&b)=true):a=true∧b=true:=by
 rw[Bool.and_eq_true]at h;exact h
inductive Gk where
 | blt|fn (i:Nat)|cls (c i:Nat)|exc (c:Nat)|int (i:Int)
structure Tab where
 g:List (Str×Gk)
 m:List (Str×Nat×Nat)
 d:List (Nat×List (List T))
 nm:List (List Str)
 rs:List Nat
 ct:List Nat
 ix:List Nat
 ib:List Nat
structure InsK(K:PySem.W.Frag)(D:Addr):Prop where
 ca:PySem.W.findIn K (.ref D) "__class__"=some (some (.builtin "object.__class__"))
 sp:PySem.W.specialIn K (.builtin "object.__class__") "__get__"=some (some (.builtin "getset_descriptor.__get__"))
 tk:PySem.W.takesIn K (.builtin "object.__class__")=some true
 mo:PySem.W.mroIn K D (.type "object")=some true
def dfl(tb:Tab)(i:Nat):List (List T):=match tb.d.lookup i with|some l=>l|none=>[]
def anK:T→T→Bool
 | .non,.non=>true
 | .bl a,.bl b=>a==b
 | .int a,.int b=>decide (a=b)
 | .str a,.str b=>keq a b
 | _,_=>false
theorem afp{a b:T}(h:anK a b=true):a=b:=by
 cases a<;>cases b<;>first|(cases h;done)|rfl|(rw[eq_of_beq (h:(_==_)=true)];done)|(rw[of_decide_eq_true (h:decide (_=_)=true)];done)|(rw[abc h];done)
def an4:List T→List T→Bool
 | [],[]=>true
 | a::r,b::q=>anK a b&&an4 r q
 | _,_=>false
theorem agv:∀{a b:List T},an4 a b=true→a=b
 | [],[],_=>rfl
 | a::r,b::q,h=>by rw[afp (aac h).1,agv (aac h).2]
def ak1:List (List T)→List T→Bool
 | [],_=>false
 | a::r,b=>an4 a b||ak1 r b
theorem aeR:∀{l:List (List T)}{b:List T},ak1 l b=true→b∈l
 | a::r,b,h=>by
  rw[ak1,Bool.or_eq_true]at h
  rcases h with h|h
  ·rw[agv h];exact List.mem_cons_self
  ·exact List.mem_cons_of_mem _ (aeR h)
def awP(P:Program)(w:World)(K:PySem.W.Frag)(mg:Str→Option Value)(base:Heap)(G:Gx)(fs:List Fn)(sub:Nat→Nat→Bool)(k:Nat)(tb:Tab)(i:Nat)(fa:Addr):Prop:=
 ∃fd ps,FnOk P w K mg base (CXE G P w base) (2*k) fa fd ps (spG G (cfX fs sub k).cf (cfX fs sub k).fr i)∧∀ts,ts=[]∨ts∈dfl tb i→∃(dvs:List V) (ds:List Value),ts.mapM cstV=some dvs∧Vals dvs ds∧Binds K fd ps ds
section
variable(K:PySem.W.Frag)(mg:Str→Option Value)(G:Gx)(sub:Nat→Nat→Bool)(tb:Tab)(F:Nat→Addr→Prop)
def avP(x:Str):Gk→Prop
 | .blt=>mg x=none
 | .fn i=>∃fa,mg x=some (.ref fa)∧PySem.W.keepIn K (.ref fa)=true∧F i fa
 | .cls c i=>mg x=some (.ref (G.iA c))∧∃fa,Mk K (G.iA c) fa∧F i fa
 | .exc c=>mg x=some (.ref (G.cA c))
 | .int i=>∃t,mg x=some (.int i t)
set_option genInjectivity false in
set_option genSizeOf false in
structure Hy:Prop where
 g:∀x q,lk tb.g x=some q→avP K mg G F x q
 db:∀x q,lk tb.g x=some q→(x==("__debug__":Str))=false
 m:∀x c i,lk tb.m x=some (c,i)→Cls K (G.iA c)∧∃fa,Meth K (G.iA c) x fa∧x∉G.nm c∧F i fa
 nm:∀c l,tb.nm[c]?=some l→G.nm c=l∧Cls K (G.iA c)∧l.Nodup∧l.length≤100∧∀x∈l,abl K (G.iA c) x
 rs:∀c∈tb.rs,PySem.W.excIn K (G.cA c) [.type "ValueError",.type "Exception",.type "BaseException",.type "object"] "ValueError.__new__"=true
 ct:∀c∈tb.ct,∀d,PySem.W.exmOne K (.ref (G.cA d)) (.ref (G.cA c))=some (sub d c)
 ix:∀c∈tb.ix,(∀d,ExcK K (G.cA d))∧∀d,PySem.W.kitOne K (.ref (G.cA d)) (.ref (G.cA c))=some (sub d c)
 ib:∀c∈tb.ib,InsK K (G.iA c)
variable{K mg G sub tb F}
theorem Hy.mono{F':Nat→Addr→Prop}(h:Hy K mg G sub tb F)(H:∀i fa,F i fa→F' i fa):Hy K mg G sub tb F':=
 ⟨fun x q e=>by
  have z:=h.g x q e
  cases q with
  | fn i=>obtain⟨fa,a,b,c⟩:=z;exact⟨fa,a,b,H i fa c⟩
  | cls c i=>obtain⟨a,fa,b,d⟩:=z;exact⟨a,fa,b,H i fa d⟩
  | _=>exact z,h.db,fun x c i e=>let ⟨a,fa,b,c,d⟩:=h.m x c i e;⟨a,fa,b,c,H i fa d⟩,h.nm,h.rs,h.ct,h.ix,h.ib⟩
end
structure Ga where
 N:List Str
 sc:List (Str×NameKind)
 fl:Bool
 calm:Bool
 top:Bool
set_option genInjectivity false in
set_option genSizeOf false in
structure In(G:Gx)(fs:List Fn)(sub:Nat→Nat→Bool)(k:Nat)(tb:Tab)(X:Cx)(g:Ga):Prop where
 N:X.N=g.N
 nd:g.N.Nodup
 dn:∀x∈g.N,(x==("__debug__":Str))=false∧(x==("__classdict__":Str))=false
 sc:X.env.scope.names=g.sc
 kd:X.env.scope.kind=.function
 fl:g.fl=true→∀x,X.fn x=true
 cm:g.calm=true→X.calm=true
 hu:X.A.units+9<cLine
 hr:g.calm=true→Room (2*k+1) X.A
 fr:afL X
 hp:g.top=true→PassesOwn (model X.prog X.w) X.A X.env X.xe
 st:g.top=true→X.stack=X.env::X.outer∧X.env.frame=some X.env.locals
 ex:g.top=true→X.ex=[]
 hy:Hy X.K X.mg G sub tb (awP X.prog X.w X.K X.mg X.base G fs sub k tb)
def agI(f:Str→Pos→Bool):Expr→Bool | .Name x p=>f x p | _=>false
theorem abA{e:Expr}{f:Str→Pos→Bool}(h:agI f e=true):∃x p,e=.Name x p∧f x p=true:=by cases e<;>first|exact⟨_,_,rfl,h⟩|exact nt h
def amq(f:Const→Nat→Pos→Bool):Expr→Bool | .Constant c j p=>f c j p | _=>false
theorem afh{e:Expr}{f:Const→Nat→Pos→Bool}(h:amq f e=true):∃c j p,e=.Constant c j p∧f c j p=true:=by cases e<;>first|exact⟨_,_,_,rfl,h⟩|exact nt h
def aor(f:Expr→Operator→Expr→Pos→Bool):Expr→Bool | .BinOp l o r p=>f l o r p | _=>false
theorem ahY{e:Expr}{f:Expr→Operator→Expr→Pos→Bool}(h:aor f e=true):∃l o r p,e=.BinOp l o r p∧f l o r p=true:=by cases e<;>first|exact⟨_,_,_,_,rfl,h⟩|exact nt h
def aud(f:UnaryOp→Expr→Pos→Bool):Expr→Bool | .UnaryOp o l p=>f o l p | _=>false
theorem aiq{e:Expr}{f:UnaryOp→Expr→Pos→Bool}(h:aud f e=true):∃o l p,e=.UnaryOp o l p∧f o l p=true:=by cases e<;>first|exact⟨_,_,_,rfl,h⟩|exact nt h
def avM(f:Expr→List CmpOp→List Expr→Pos→Bool):Expr→Bool | .Compare l o r p=>f l o r p | _=>false
theorem aqp{e:Expr}{f:Expr→List CmpOp→List Expr→Pos→Bool}(h:avM f e=true):∃l o r p,e=.Compare l o r p∧f l o r p=true:=by cases e<;>first|exact⟨_,_,_,_,rfl,h⟩|exact nt h
def awE(f:BoolOp→List Expr→Pos→Bool):Expr→Bool | .BoolOp o l p=>f o l p | _=>false
theorem alc{e:Expr}{f:BoolOp→List Expr→Pos→Bool}(h:awE f e=true):∃o l p,e=.BoolOp o l p∧f o l p=true:=by cases e<;>first|exact⟨_,_,_,rfl,h⟩|exact nt h
def axn(f:Expr→Expr→Expr→Pos→Bool):Expr→Bool | .IfExp c a b p=>f c a b p | _=>false
theorem arc{e:Expr}{f:Expr→Expr→Expr→Pos→Bool}(h:axn f e=true):∃c a b p,e=.IfExp c a b p∧f c a b p=true:=by cases e<;>first|exact⟨_,_,_,_,rfl,h⟩|exact nt h
def anF(f:List Expr→Nat→Pos→Bool):Expr→Bool | .Tuple l j p=>f l j p | _=>false
theorem ag1{e:Expr}{f:List Expr→Nat→Pos→Bool}(h:anF f e=true):∃l j p,e=.Tuple l j p∧f l j p=true:=by cases e<;>first|exact⟨_,_,_,rfl,h⟩|exact nt h
def avl(f:List Expr→Pos→Bool):Expr→Bool | .List l p=>f l p | _=>false
theorem aoG{e:Expr}{f:List Expr→Pos→Bool}(h:avl f e=true):∃l p,e=.List l p∧f l p=true:=by cases e<;>first|exact⟨_,_,rfl,h⟩|exact nt h
def arT(f:Expr→Expr→Pos→Bool):Expr→Bool | .Subscript a b p=>f a b p | _=>false
theorem ah2{e:Expr}{f:Expr→Expr→Pos→Bool}(h:arT f e=true):∃a b p,e=.Subscript a b p∧f a b p=true:=by cases e<;>first|exact⟨_,_,_,rfl,h⟩|exact nt h
def awQ(f:Option Expr→Option Expr→Option Expr→Pos→Bool):Expr→Bool | .Slice a b c p=>f a b c p | _=>false
theorem ar5{e:Expr}{f:Option Expr→Option Expr→Option Expr→Pos→Bool}(h:awQ f e=true):∃a b c p,e=.Slice a b c p∧f a b c p=true:=by cases e<;>first|exact⟨_,_,_,_,rfl,h⟩|exact nt h
def asf(f:Expr→List Expr→List Keyword→Pos→Bool):Expr→Bool | .Call d l m p=>f d l m p | _=>false
theorem al6{e:Expr}{f:Expr→List Expr→List Keyword→Pos→Bool}(h:asf f e=true):∃d l m p,e=.Call d l m p∧f d l m p=true:=by cases e<;>first|exact⟨_,_,_,_,rfl,h⟩|exact nt h
def ar7(f:Expr→Str→Pos→Bool):Expr→Bool | .Attribute a x p=>f a x p | _=>false
theorem aiu{e:Expr}{f:Expr→Str→Pos→Bool}(h:ar7 f e=true):∃a x p,e=.Attribute a x p∧f a x p=true:=by cases e<;>first|exact⟨_,_,_,rfl,h⟩|exact nt h
def apJ(f:Expr→List Comprehension→Scope→Pos→Bool):Expr→Bool | .ListComp a l s p=>f a l s p | _=>false
theorem ajf{e:Expr}{f:Expr→List Comprehension→Scope→Pos→Bool}(h:apJ f e=true):∃a l s p,e=.ListComp a l s p∧f a l s p=true:=by cases e<;>first|exact⟨_,_,_,_,rfl,h⟩|exact nt h
def on1{α:Type}(f:α→Bool):List α→Bool | [x]=>f x | _=>false
theorem abY{α:Type}{l:List α}{f:α→Bool}(h:on1 f l=true):∃x,l=[x]∧f x=true:=by
 cases l with
 | nil=>exact nt h
 | cons x l=>cases l with
  | nil=>exact⟨x,rfl,h⟩
  | cons y l=>exact nt h
def on2{α:Type}(f:α→α→Bool):List α→Bool | [x,y]=>f x y | _=>false
theorem amt{α:Type}{l:List α}{f:α→α→Bool}(h:on2 f l=true):∃x y,l=[x,y]∧f x y=true:=by
 cases l with
 | nil=>exact nt h
 | cons x l=>cases l with
  | nil=>exact nt h
  | cons y l=>cases l with
   | nil=>exact⟨x,y,rfl,h⟩
   | cons z l=>exact nt h
theorem adj{α:Type}{o:Option α}(h:o.isNone=true):o=none:=by cases o with
 | none=>rfl
 | some a=>exact nt h
theorem acO{α:Type}{l:List α}(h:l.isEmpty=true):l=[]:=by cases l with
 | nil=>rfl
 | cons a l=>exact nt h
def aaB:Expr→Bool | .Starred _ _=>false | _=>true
theorem aar{e:Expr}{r:List Expr}{v:Env}(h:aaB e=true):starEach (e::r) v=(false,eval e v)::starEach r v:=by cases e<;>first|rfl|exact(Bool.false_ne_true h.symm).elim|exact nt h
theorem acC{pos:Pos}{v:Env}:∀{es:List Expr},es.all aaB=true→(backTo pos (starEach es v)).any (·.1)=false
 | [],_=>rfl
 | e::r,h=>by
  rw[List.all_cons]at h
  rw[aar (aac h).1]
  exact acC (aac h).2
section
variable{G:Gx}{fs:List Fn}{sub:Nat→Nat→Bool}{k:Nat}{tb:Tab}{X:Cx}{g:Ga}
def aec(g:Ga)(x:Str):Bool:=match lk g.sc x with|some .local=>true|some .cell=>true|some .free=>true | _=>false
def aku(g:Ga)(x:Str):Bool:=match lk g.sc x with|some .local=>true|some .cell=>g.fl | _=>false
def at? (g:Ga)(i:Nat)(x:Str):Bool:=match g.N[i]? with|some y=>keq y x|none=>false
section
variable(I:In G fs sub k tb X g)
include I
theorem aeZ{i:Nat}{x:Str}(h:at? g i x=true):X.N[i]?=some x:=by
 rw[I.N]
 unfold at? at h
 cases e:g.N[i]? with
 | none=>rw[e]at h;cases h
 | some y=>rw[e]at h;rw[abc h]
theorem adn{i:Nat}{x:Str}(h:X.N[i]?=some x):(x==("__debug__":Str))=false∧(x==("__classdict__":Str))=false:=by
 rw[I.N]at h
 exact I.dn x (List.mem_of_getElem? h)
theorem acW{x:Str}:X.env.scope.names.lookup x=lk g.sc x:=by rw[I.sc,aeY]
theorem ae3{x:Str}(h:aec g x=true):Vis X.env.scope x:=by
 unfold Vis
 rw[acW I]
 unfold aec at h
 split at h<;>first|exact .inl ‹_› | exact .inr (.inl ‹_›)|exact .inr (.inr ‹_›)|cases h
theorem alu{x:Str}(h:aku g x=true):L2.Loc X.env.scope x∧(X.fn x=true∨X.env.scope.names.lookup x=some .local):=by
 unfold L2.Loc
 rw[acW I]
 unfold aku at h
 split at h
 ·exact⟨.inl ‹_›,.inr ‹_›⟩
 ·exact⟨.inr ‹_›,.inl (I.fl h x)⟩
 ·cases h
def ajD(tb:Tab)(g:Ga)(x:Str):Option Gk:=bif isK (lk g.sc x) .globalImplicit then lk tb.g x else none
theorem aeO{x:Str}{q:Gk}(h:ajD tb g x=some q):Gl X x∧avP X.K X.mg G (awP X.prog X.w X.K X.mg X.base G fs sub k tb) x q∧(x==("__debug__":Str))=false:=by
 unfold ajD at h
 cases hk:isK (lk g.sc x) .globalImplicit with
 | false=>rw[hk]at h;cases h
 | true=>
  rw[hk]at h
  exact⟨by unfold Gl Env.kindOf;rw[acW I,ab9 hk],I.hy.g x q h,I.hy.db x q h⟩
def isB(tb:Tab)(g:Ga)(x:Str):Bool:=match ajD tb g x with|some .blt=>true | _=>false
theorem afZ{x:Str}(h:isB tb g x=true):Gl X x∧X.mg x=none:=by
 unfold isB at h
 split at h
 ·rename_i e;exact⟨(aeO I e).1,(aeO I e).2.1⟩
 ·cases h
end
end
structure Rc where
 v:Ga→Expr→E→Bool
 t:Ga→Expr→E→Bool
 o:Ga→Expr→E→Bool
 s:Ga→List Stmt→List S→Bool
structure Sd(G:Gx)(fs:List Fn)(sub:Nat→Nat→Bool)(k:Nat)(tb:Tab)(r:Rc):Prop where
 v:∀{X g e e'},In G fs sub k tb X g→r.v g e e'=true→Vv G fs sub k X e e'
 t:∀{X g e e'},In G fs sub k tb X g→r.t g e e'=true→Vt G fs sub k X e e'
 o:∀{X g e e'},In G fs sub k tb X g→r.o g e e'=true→Vo G fs sub k X e e'
 s:∀{X g e e'},In G fs sub k tb X g→r.s g e e'=true→Vz G fs sub k X e e'
section
variable{G:Gx}{fs:List Fn}{sub:Nat→Nat→Bool}{k:Nat}{tb:Tab}{X:Cx}{g:Ga}{r:Rc}{e:Expr}{es:List Expr}
variable{a b c d:IP.E}{as:List IP.E}
def arS(g:Ga)(e:Expr)(i:Nat):Bool:=agI (fun x _=>at? g i x&&aec g x) e
section
variable(I:In G fs sub k tb X g)
include I
theorem ayw{C:Cf}{i:Nat}(h:arS g e i=true):PE X e (tV G X C (.var i)):=by
 obtain⟨x,p,rfl,h⟩:=abA h
 have q:=aeZ I (aac h).1
 exact aoC q (ae3 I (aac h).2) (adn I q).1 (adn I q).2
def kCs:Const→T→Bool
 | .int i,t=>anK (.int i) t
 | .bool i,t=>anK (.bl i) t
 | .none,t=>anK .non t
 | .str i,t=>anK (.str i) t
 | _,_=>false
def anN(e:Expr)(t:T):Bool:=amq (fun c _ _=>kCs c t) e
end
theorem axE{C:Cf}{t:T}(h:anN e t=true):PE X e (tV G X C (.cst t)):=by
 obtain⟨c,j,p,rfl,h⟩:=afh h
 cases c<;>first|exact nt h|cases afp h
 ·exact aox
 ·exact avb
 ·exact aoB
 ·exact aof
def isInt(i:Int):Option Gk→Bool|some (.int j)=>decide (j=i) | _=>false
theorem am8{i:Int}{o:Option Gk}(h:isInt i o=true):o=some (.int i):=by
 cases o with
 | none=>exact nt h
 | some q=>cases q<;>first|exact nt h|rw[of_decide_eq_true h]
def avf(tb:Tab)(g:Ga)(e:Expr)(x:Str)(i:Int):Bool:=agI (fun y _=>keq x y&&isInt i (ajD tb g y)) e
section
variable(I:In G fs sub k tb X g)
include I
theorem ayg{C:Cf}{x:Str}{i:Int}(h:avf tb g e x i=true):PE X e (tV G X C (.glb x i)):=by
 obtain⟨y,p,rfl,h⟩:=abA h
 cases abc (aac h).1
 obtain⟨z1,⟨t,z2⟩,z3⟩:=aeO I (am8 (aac h).2)
 exact apf z1 z2 z3
end
def arP(r:Rc)(g:Ga)(e:Expr)(o:Op)(a b:IP.E):Bool:=aor (fun l p q _=>decide (p=anL o)&&(r.v g l a&&r.v g q b)) e
section
variable(R:Sd G fs sub k tb r)(I:In G fs sub k tb X g)
include R I
theorem ax7{o:Op}(h:arP r g e o a b=true):Vv G fs sub k X e (.bin o a b):=by
 obtain⟨l,p,q,_,rfl,h⟩:=ahY h
 rw[of_decide_eq_true (aac h).1]
 exact art o (R.v I (aac (aac h).2).1) (R.v I (aac (aac h).2).2)
def av4(r:Rc)(g:Ga)(e:Expr)(a:IP.E):Bool:=aud (fun o l _=>decide (o=.USub)&&r.v g l a) e
theorem aym(h:av4 r g e a=true):Vv G fs sub k X e (.neg a):=by
 obtain⟨o,l,_,rfl,h⟩:=aiq h
 rw[of_decide_eq_true (aac h).1]
 exact apN (R.v I (aac h).2)
def arB(f:Expr→Bool)(e:Expr):Bool:=aud (fun o l _=>decide (o=.Not)&&f l) e
theorem ayD(h:arB (fun l=>r.v g l a) e=true):Vv G fs sub k X e (.not a):=by
 obtain⟨o,l,_,rfl,h⟩:=aiq h
 rw[of_decide_eq_true (aac h).1]
 exact aoY (R.v I (aac h).2)
theorem auj(h:arB (fun l=>r.t g l a) e=true):Vt G fs sub k X e (.not a):=by
 obtain⟨o,l,_,rfl,h⟩:=aiq h
 rw[of_decide_eq_true (aac h).1]
 exact aqV (R.t I (aac h).2)
def aoh(r:Rc)(g:Ga)(e:Expr)(c:Cm)(a b:IP.E):Bool:=avM (fun l o q _=>on1 (fun o=>decide (o=aks c)) o&&on1 (fun q=>!behindInMarks (aks c) q&&(r.v g l a&&r.v g q b)) q) e
end
theorem agE{c:Cm}(h:aoh r g e c a b=true):∃l q p,e=.Compare l [aks c] [q] p∧behindInMarks (aks c) q=false∧r.v g l a=true∧r.v g q b=true:=by
 obtain⟨l,o,q,p,rfl,h⟩:=aqp h
 obtain⟨o,rfl,h1⟩:=abY (aac h).1
 obtain⟨q,rfl,h2⟩:=abY (aac h).2
 rw[of_decide_eq_true h1]
 exact⟨l,q,p,rfl,(Bool.not_eq_true' _).mp (aac h2).1,aac (aac h2).2⟩
section
variable(R:Sd G fs sub k tb r)(I:In G fs sub k tb X g)
include R I
theorem ayz{c:Cm}(h:aoh r g e c a b=true):Vv G fs sub k X e (.cmp c a b):=by
 obtain⟨l,q,p,rfl,hm,h1,h2⟩:=agE h
 exact apR I.hu c (R.v I h1) (R.v I h2) hm
theorem asZ{c:Cm}(h:aoh r g e c a b=true):Vt G fs sub k X e (.cmp c a b):=by
 obtain⟨l,q,p,rfl,hm,h1,h2⟩:=agE h
 exact aqw I.hu c (R.v I h1) (R.v I h2) hm
end
section
variable(R:Sd G fs sub k tb r)(I:In G fs sub k tb X g)
include R I
def kBo(f:Expr→IP.E→Bool)(op:BoolOp):List Expr→IP.E→Bool
 | [],_=>false
 | x::q,e'=>match q with
  | []=>f x e'
  | _::_=>match e' with
   | .and a b=>decide (op=.And)&&(f x a&&kBo f op q b)
   | .or a b=>decide (op=.Or)&&(f x a&&kBo f op q b)
   | _=>false
theorem ayH{op:BoolOp}{pos:Pos}(es:List Expr):∀(e':IP.E),kBo (r.v g) op es e'=true→Vv G fs sub k X (.BoolOp op es pos) e':=by
 induction es with
 | nil=>exact fun _ h=>nt h
 | cons x q ih=>
  intro e' h
  cases q with
  | nil=>exact apC (R.v I h)
  | cons y q=>
   cases e'<;>first|exact nt h|(obtain⟨h1,h2⟩:=aac h;cases of_decide_eq_true h1)
   ·exact aoz (R.v I (aac h2).1) (ih _ (aac h2).2)
   ·exact au5 (R.v I (aac h2).1) (ih _ (aac h2).2)
theorem aya{op:BoolOp}{pos:Pos}(es:List Expr):∀(e':IP.E),kBo (r.t g) op es e'=true→PTb X op es pos (tT G X (cfX fs sub k) e'):=by
 induction es with
 | nil=>exact fun _ h=>nt h
 | cons x q ih=>
  intro e' h
  cases q with
  | nil=>
   cases op
   ·exact afW (R.t I h)
   ·exact ahh (R.t I h)
  | cons y q=>
   cases e'<;>first|exact nt h|(obtain⟨h1,h2⟩:=aac h;cases of_decide_eq_true h1)
   ·exact ans (R.t I (aac h2).1) (ih _ (aac h2).2)
   ·exact apg (R.t I (aac h2).1) (ih _ (aac h2).2)
def anU(f:Expr→IP.E→Bool)(e:Expr)(e':IP.E):Bool:=awE (fun op l _=>kBo f op l e') e
theorem rBo{e':IP.E}(h:anU (r.v g) e e'=true):Vv G fs sub k X e e':=by
 obtain⟨op,l,p,rfl,z⟩:=alc h
 exact ayH R I l e' z
theorem awt{e':IP.E}(h:anU (r.t g) e e'=true):Vt G fs sub k X e e':=by
 obtain⟨op,l,p,rfl,z⟩:=alc h
 exact PW.pt (aya R I l e' z)
def avx(r:Rc)(g:Ga)(e:Expr)(c a b:IP.E):Bool:=axn (fun x y z _=>r.t g x c&&(r.v g y a&&r.v g z b)) e
theorem ayv(h:avx r g e c a b=true):Vv G fs sub k X e (.ife c a b):=by
 obtain⟨x,y,z,p,rfl,h⟩:=arc h
 exact aqX (R.t I (aac h).1) (R.v I (aac (aac h).2).1) (R.v I (aac (aac h).2).2)
end
def alA:Expr→Bool | .UnaryOp .Not _ _=>false | .BoolOp _ _ _=>false | .IfExp _ _ _ _=>false | .Compare _ _ _ _=>false | _=>true
def aiz:IP.E→Bool | .not _=>false | .and _ _=>false | .or _ _=>false | .rng1 _=>false | .rng2 _ _=>false | .enm _=>false | .zip _ _=>false | .sok _ _ _=>false | _=>true
section
variable(R:Sd G fs sub k tb r)(I:In G fs sub k tb X g)
include R I
theorem ax2{e':IP.E}(h:(alA e&&aiz e'&&r.v g e e')=true):Vt G fs sub k X e e':=by
 obtain⟨h1,h⟩:=aac h
 obtain⟨h1,h2⟩:=aac h1
 refine akD (R.v I h) ?_ ?_
 ·intro w
  cases e with
  | UnaryOp o _ _=>cases o<;>first|rfl|exact nt h1
  | _=>first|rfl|exact nt h1
 ·intro σ s
  cases e'<;>first|rfl|exact nt h2
end
def kA(f:Expr→IP.E→Bool):List Expr→List IP.E→Bool
 | [],[]=>true
 | x::q,a::p=>aaB x&&(f x a&&kA f q p)
 | _,_=>false
theorem aef{f:Expr→IP.E→Bool}:∀{es:List Expr}{as:List IP.E},kA f es as=true→es.all aaB=true
 | [],_,_=>rfl
 | x::q,a::p,h=>by
  obtain⟨h1,h⟩:=aac h
  rw[List.all_cons,h1,aef (aac h).2];rfl
section
variable(R:Sd G fs sub k tb r)(I:In G fs sub k tb X g)
include R I
theorem as1:∀(es:List Expr) (as:List IP.E),kA (r.v g) es as=true→PA X es (tA G X (cfX fs sub k) as)
 | [],[],_=>aq5
 | x::q,a::p,h=>by
  obtain⟨h1,h⟩:=aac h
  exact amr (R.v I (aac h).1) (as1 q p (aac h).2) (aar h1)
theorem ar8:∀(es:List Expr) (as:List IP.E),kA (r.v g) es as=true→PA X es (tR G X (cfX fs sub k) as)
 | [],[],_=>apL
 | x::q,a::p,h=>by
  obtain⟨h1,h⟩:=aac h
  exact an9 (R.v I (aac h).1) (ar8 q p (aac h).2) (aar h1)
def avh(r:Rc)(g:Ga)(e:Expr)(as:List IP.E):Bool:=anF (fun l _ _=>decide (as.length≤1000)&&kA (r.v g) l as) e
theorem ay1(h:avh r g e as=true):Vv G fs sub k X e (.tup as):=by
 obtain⟨l,_,_,rfl,h⟩:=ag1 h
 exact aqL (as1 R I _ _ (aac h).2) (Nat.le_trans (of_decide_eq_true (aac h).1) (by decide))
def aqF(r:Rc)(g:Ga)(e:Expr)(as:List IP.E):Bool:=avl (fun l _=>decide (as.length≤1000)&&kA (r.v g) l as) e
theorem akZ(h:aqF r g e as=true):∃l p,e=.List l p∧PA X l (tA G X (cfX fs sub k) as)∧as.length≤sizeLine:=by
 obtain⟨l,p,rfl,h⟩:=aoG h
 exact⟨l,p,rfl,as1 R I _ _ (aac h).2,Nat.le_trans (of_decide_eq_true (aac h).1) (by decide)⟩
theorem ayu(h:aqF r g e as=true):Vv G fs sub k X e (.lst as):=by
 obtain⟨l,p,rfl,z1,z2⟩:=akZ R I h
 exact apM z1 z2
theorem auY(h:aqF r g e as=true):Vo G fs sub k X e (.lst as):=by
 obtain⟨l,p,rfl,z1,z2⟩:=akZ R I h
 exact aqe z1 z2
end
def acN:Expr→Bool | .Slice _ _ _ _=>false | .Constant _ _ _=>true | .Name _ _=>true | .BinOp _ _ _ _=>true | .UnaryOp _ _ _=>true | .Subscript _ _ _=>true | .Call _ _ _ _=>true | .Attribute _ _ _=>true | _=>false
theorem ahd(h:acN e=true):afu e:=by cases e<;>first|exact nt h|exact fun _ _=>rfl
def awi(r:Rc)(g:Ga)(e:Expr)(a b:IP.E):Bool:=arT (fun x y _=>acN y&&(r.v g x a&&r.v g y b)) e
section
variable(R:Sd G fs sub k tb r)(I:In G fs sub k tb X g)
include R I
theorem awn(h:awi r g e a b=true):Vv G fs sub k X e (.sub a b):=by
 obtain⟨x,y,_,rfl,h⟩:=ah2 h
 exact apr (R.v I (aac (aac h).2).1) (R.v I (aac (aac h).2).2) (ahd (aac h).1)
def auC(e:Expr)(f:Expr→Option Expr→Option Expr→Option Expr→Bool):Bool:=arT (fun x y _=>awQ (fun l u s _=>f x l u s) y) e
end
theorem alb{f:Expr→Option Expr→Option Expr→Option Expr→Bool}(h:auC e f=true):∃x l u s p q,e=.Subscript x (.Slice l u s p) q∧f x l u s=true:=by
 obtain⟨x,y,q,rfl,h⟩:=ah2 h
 obtain⟨l,u,s,p,rfl,h⟩:=ar5 h
 exact⟨x,l,u,s,p,q,rfl,h⟩
def aqg(r:Rc)(g:Ga)(e:Expr)(a b:IP.E):Bool:=auC e fun x l u s=>u.isNone&&s.isNone&&ifS l fun y=>r.v g x a&&r.v g y b
section
variable(R:Sd G fs sub k tb r)(I:In G fs sub k tb X g)
include R I
theorem atx(h:aqg r g e a b=true):Vv G fs sub k X e (.cutL a b):=by
 obtain⟨x,l,u,s,p,q,rfl,z⟩:=alb h
 clear h
 cases adj (aac (aac z).1).1;cases adj (aac (aac z).1).2
 obtain⟨y,rfl,z1⟩:=aaO (aac z).2
 exact anh (R.v I (aac z1).1) (R.v I (aac z1).2)
def apD(r:Rc)(g:Ga)(e:Expr)(a b:IP.E):Bool:=auC e fun x l u s=>l.isNone&&s.isNone&&ifS u fun y=>r.v g x a&&r.v g y b
theorem aup(h:apD r g e a b=true):Vv G fs sub k X e (.cutU a b):=by
 obtain⟨x,l,u,s,p,q,rfl,z⟩:=alb h
 clear h
 cases adj (aac (aac z).1).1;cases adj (aac (aac z).1).2
 obtain⟨y,rfl,z1⟩:=aaO (aac z).2
 exact aml (R.v I (aac z1).1) (R.v I (aac z1).2)
theorem asC(h:arP r g e .add a b=true):Vo G fs sub k X e (.bin .add a b):=by
 obtain⟨l,p,q,_,rfl,h⟩:=ahY h
 rw[of_decide_eq_true (aac h).1]
 exact apY (R.v I (aac (aac h).2).1) (R.v I (aac (aac h).2).2)
end
def afq(f:Str→List Expr→Bool)(e:Expr):Bool:=asf (fun d l m _=>m.isEmpty&&agI (fun x _=>f x l) d) e
theorem acr{f:Str→List Expr→Bool}(h:afq f e=true):∃x p l q,e=.Call (.Name x p) l [] q∧f x l=true:=by
 obtain⟨d,l,m,q,rfl,h⟩:=al6 h
 obtain⟨x,p,rfl,z⟩:=abA (aac h).2
 cases acO (aac h).1
 exact⟨x,p,l,q,rfl,z⟩
def kB1(r:Rc)(tb:Tab)(g:Ga)(n:Str)(e:Expr)(a:IP.E):Bool:=afq (fun x l=>keq x n&&isB tb g x&&on1 (fun x=>aaB x&&r.v g x a) l) e
section
variable(R:Sd G fs sub k tb r)(I:In G fs sub k tb X g)
include R I
theorem aaR{n:Str}(h:kB1 r tb g n e a=true):∃x p q,e=.Call (.Name n p) [x] [] q∧Vv G fs sub k X x a∧Gl X n∧X.mg n=none∧starEach [x] X.env=[(false,eval x X.env)]:=by
 obtain⟨y,p,l,q,rfl,h⟩:=acr h
 obtain⟨h,h3⟩:=aac h
 obtain⟨h,h2⟩:=aac h
 cases abc h
 obtain⟨z1,z2⟩:=afZ I h2
 obtain⟨x,rfl,h3⟩:=abY h3
 exact⟨x,p,q,rfl,R.v I (aac h3).2,z1,z2,aar (aac h3).1⟩
theorem axR(h:kB1 r tb g "len" e a=true):Vv G fs sub k X e (.b1 .len a):=by
 obtain⟨x,p,q,rfl,z,hg,hm,hs⟩:=aaR R I h
 exact sB1 auB hg hm (by rfl) (by decide) (by decide) z hs fun _ _=>rfl
theorem axI(h:kB1 r tb g "abs" e a=true):Vv G fs sub k X e (.b1 .abs a):=by
 obtain⟨x,p,q,rfl,z,hg,hm,hs⟩:=aaR R I h
 exact sB1 at3 hg hm (by rfl) (by decide) (by decide) z hs fun _ _=>rfl
theorem ay9(h:kB1 r tb g "int" e a=true):Vv G fs sub k X e (.b1 .int a):=by
 obtain⟨x,p,q,rfl,z,hg,hm,hs⟩:=aaR R I h
 exact aqY ash hg hm (by rfl) (by decide) (by decide) z hs fun _ _=>rfl
theorem at2(h:kB1 r tb g "list" e a=true):Vv G fs sub k X e (.b1 .list a):=by
 obtain⟨x,p,q,rfl,z,hg,hm,hs⟩:=aaR R I h
 exact aqY aoZ hg hm (by rfl) (by decide) (by decide) z hs fun _ _=>rfl
theorem apZ(h:kB1 r tb g "list" e a=true):Vo G fs sub k X e (.b1 .list a):=by
 obtain⟨x,p,q,rfl,z,hg,hm,hs⟩:=aaR R I h
 exact anr hg hm z hs
theorem ao9(h:kB1 r tb g "tuple" e a=true):Vv G fs sub k X e (.b1 .tuple a):=by
 obtain⟨x,p,q,rfl,z,hg,hm,hs⟩:=aaR R I h
 exact aqY alP hg hm (by rfl) (by decide) (by decide) z hs fun _ _=>rfl
theorem ay5(h:(g.calm&&kB1 r tb g "any" e a)=true):Vv G fs sub k X e (.b1 .any a):=by
 obtain⟨x,p,q,rfl,z,hg,hm,hs⟩:=aaR R I (aac h).2
 exact sB1 (asw (I.cm (aac h).1)) hg hm (by rfl) (by decide) (by decide) z hs fun _ _=>rfl
theorem axP(h:(g.calm&&kB1 r tb g "all" e a)=true):Vv G fs sub k X e (.b1 .all a):=by
 obtain⟨x,p,q,rfl,z,hg,hm,hs⟩:=aaR R I (aac h).2
 exact sB1 (aux (I.cm (aac h).1)) hg hm (by rfl) (by decide) (by decide) z hs fun _ _=>rfl
def kB2(r:Rc)(tb:Tab)(g:Ga)(n:Str)(e:Expr)(a b:IP.E):Bool:=afq (fun x l=>keq x n&&isB tb g x&&on2 (fun x y=>aaB x&&aaB y&&(r.v g x a&&r.v g y b)) l) e
theorem alI{n:Str}(h:kB2 r tb g n e a b=true):∃x y p q,e=.Call (.Name n p) [x,y] [] q∧Vv G fs sub k X x a∧Vv G fs sub k X y b∧Gl X n∧X.mg n=none∧starEach [x,y] X.env=[(false,eval x X.env),(false,eval y X.env)]∧starEach [y] X.env=[(false,eval y X.env)]:=by
 obtain⟨y,p,l,q,rfl,h⟩:=acr h
 obtain⟨h,h3⟩:=aac h
 obtain⟨h,h2⟩:=aac h
 cases abc h
 obtain⟨z1,z2⟩:=afZ I h2
 obtain⟨x,y,rfl,h3⟩:=amt h3
 obtain⟨n,v⟩:=aac h3
 exact⟨x,y,p,q,rfl,R.v I (aac v).1,R.v I (aac v).2,z1,z2,(aar (aac n).1).trans (congrArg _ (aar (aac n).2)),aar (aac n).2⟩
end
end
def acz:Expr→Bool | .Call _ _ _ _=>false | _=>true
theorem abM{o:Expr}{m:Str}{v:Env}{t:Sem Value}(h:acz o=true):attributeBase o m v t=t:=by
 cases o<;>first|rfl|exact nt h
theorem agj{pos:Pos}{v:Env}:∀{es:List Expr},es.all aaB=true→(backTo pos (starEach es v)).all (fun x=>!x.1)=true
 | [],_=>rfl
 | e::r,h=>by
  rw[List.all_cons]at h
  rw[aar (aac h).1]
  exact agj (aac h).2
theorem ah9{pos:Pos}{v:Env}{es:List Expr}(h:es.all aaB=true)(hl:es.length<30):methodCallForm (es.length+([]:List Keyword).length) (backTo pos (starEach es v)) (backToKw pos (keywordEach [] v))=true:=by
 unfold methodCallForm
 rw[agj h]
 exact decide_eq_true hl
theorem ant{o:Expr}{m:Str}{v:Env}{es:List Expr}{apos pos:Pos}(h0:acz o=true)(h:es.all aaB=true)(hl:es.length<30)(hp:(apos.endLine==pos.line)=true):
  eval (.Call (.Attribute o m apos) es [] pos) v=(do
   let ov ←eval o v
   standAt apos.atName
   let (f,first) ←holding [ov] (getMethod ov m (do return (←importBound o v).getD true))
   callWith pos f first (backTo pos (starEach es v)) (backToKw pos (keywordEach [] v))):=by
 show(do
  let ov ←attributeBase o m v (eval o v)
  standAt apos.atName
  methodCall o m apos pos v ov (es.length+([]:List Keyword).length) (backTo pos (starEach es v)) (backToKw pos (keywordEach [] v)))=_
 rw[abM h0]
 unfold methodCall
 rw[ah9 h hl]
 unfold methodCallPos
 rw[hp]
 rfl
section
variable{G:Gx}{fs:List Fn}{sub:Nat→Nat→Bool}{k:Nat}{tb:Tab}{X:Cx}{g:Ga}{r:Rc}{e:Expr}{es:List Expr}
variable{a b c d:IP.E}{as:List IP.E}
def okD(tb:Tab)(i:Nat)(ds:List T):Bool:=ds.isEmpty||ak1 (dfl tb i) ds
theorem amL{i:Nat}{ds:List T}(h:okD tb i ds=true):ds=[]∨ds∈dfl tb i:=by
 rcases(Bool.or_eq_true _ _).mp h with h|h
 ·exact .inl (acO h)
 ·exact .inr (aeR h)
def isFn(i:Nat):Option Gk→Bool|some (.fn j)=>decide (j=i) | _=>false
theorem apF{i:Nat}{o:Option Gk}(h:isFn i o=true):o=some (.fn i):=by
 cases o with
 | none=>exact nt h
 | some q=>cases q<;>first|exact nt h|rw[of_decide_eq_true h]
def kFn(r:Rc)(tb:Tab)(g:Ga)(e:Expr)(i:Nat)(as:List IP.E)(ds:List T):Bool:=g.calm&&(okD tb i ds&&afq (fun x l=>isFn i (ajD tb g x)&&!as.isEmpty&&kA (r.v g) l as) e)
section
variable(R:Sd G fs sub k tb r)(I:In G fs sub k tb X g)
include R I
theorem aoL{i:Nat}{ds:List T}(h:kFn r tb g e i as ds=true):
  ∃x p e₀ l q fa fd ps dvs dss,e=.Call (.Name x p) (e₀::l) [] q∧FnOk X.prog X.w X.K X.mg X.base (CXE G X.prog X.w X.base) (2*k) fa fd ps (spG G (cfX fs sub k).cf (cfX fs sub k).fr i)∧Room (2*k) X.A∧Gl X x∧X.mg x=some (.ref fa)∧PySem.W.keepIn X.K (.ref fa)=true∧
   Binds X.K fd ps dss∧Vals dvs dss∧ds.mapM cstV=some dvs∧PA X (e₀::l) (tR G X (cfX fs sub k) as)∧(x==("__debug__":Str))=false∧starEach (e₀::l) X.env=(false,eval e₀ X.env)::starEach l X.env∧(backTo q (starEach l X.env)).any (·.1)=false:=by
 obtain⟨h0,h⟩:=aac h
 obtain⟨h1,h⟩:=aac h
 obtain⟨x,p,l,q,rfl,h2⟩:=acr h
 obtain⟨h2,h4⟩:=aac h2
 obtain⟨h2,h3⟩:=aac h2
 obtain⟨z1,⟨fa,z2,z3,fd,ps,F,B⟩,z4⟩:=aeO I (apF h2)
 obtain⟨dvs,dss,b1,b2,b3⟩:=B ds (amL h1)
 have st:=aef h4
 have ra:=ar8 R I l as h4
 cases l with
 | nil=>cases as with
  | nil=>exact nt h3
  | cons a as=>exact nt h4
 | cons e₀ l=>
  rw[List.all_cons]at st
  exact⟨x,p,e₀,l,q,fa,fd,ps,dvs,dss,rfl,F,(I.hr h0).mono (Nat.le_succ _),z1,z2,z3,b3,b2,b1,ra,z4,aar (aac st).1,acC (aac st).2⟩
theorem rFn{i:Nat}{ds:List T}(h:kFn r tb g e i as ds=true):Vv G fs sub k X e (.call i as ds):=by
 obtain⟨x,p,e₀,l,q,fa,fd,ps,dvs,dss,rfl,F,hr,z1,z2,z3,b3,b2,b1,ra,z4,s1,s2⟩:=aoL R I h
 cases hf:adK fs i with
 | false=>exact akw hf F hr z1 z2 z3 b3 b2 b1 ra z4 s1 s2
 | true=>exact ajm hf (akK hf k) F hr z1 z2 z3 b3 b2 b1 ra z4 s1 s2
theorem ax6{i:Nat}{ds:List T}(h:(adK fs i&&kFn r tb g e i as ds)=true):Vo G fs sub k X e (.call i as ds):=by
 obtain⟨x,p,e₀,l,q,fa,fd,ps,dvs,dss,rfl,F,hr,z1,z2,z3,b3,b2,b1,ra,z4,s1,s2⟩:=aoL R I (aac h).2
 exact agf (aac h).1 F hr z1 z2 z3 b3 b2 b1 ra z4 s1 s2
def anC(f:Expr→Str→Pos→List Expr→Pos→Bool)(e:Expr):Bool:=asf (fun d l m q=>m.isEmpty&&ar7 (fun o x p=>f o x p l q) d) e
end
theorem aeK{f:Expr→Str→Pos→List Expr→Pos→Bool}(h:anC f e=true):∃o x p l q,e=.Call (.Attribute o x p) l [] q∧f o x p l q=true:=by
 obtain⟨d,l,m,q,rfl,h⟩:=al6 h
 obtain⟨o,x,p,rfl,z⟩:=aiu (aac h).2
 cases acO (aac h).1
 exact⟨o,x,p,l,q,rfl,z⟩
def aw9(c i:Nat):Option (Nat×Nat)→Bool|some q=>decide (q=(c,i))|none=>false
theorem aoV{c i:Nat}{o:Option (Nat×Nat)}(h:aw9 c i o=true):o=some (c,i):=by
 cases o with
 | none=>exact nt h
 | some q=>rw[of_decide_eq_true h]
def aoQ(r:Rc)(fs:List Fn)(tb:Tab)(g:Ga)(e:Expr)(a:IP.E)(c i:Nat)(as:List IP.E)(ds:List T):Bool:=g.calm&&!adK fs i&&(okD tb i ds&&anC (fun o m p l q=>aw9 c i (lk tb.m m)&&acz o&&(p.endLine==q.line)&&decide (l.length<30)&&(r.v g o a&&kA (r.v g) l as)) e)
section
variable(R:Sd G fs sub k tb r)(I:In G fs sub k tb X g)
include R I
theorem atP{c i:Nat}{ds:List T}(h:aoQ r fs tb g e a c i as ds=true):Vv G fs sub k X e (.meth a c i as ds):=by
 obtain⟨h0,h⟩:=aac h
 obtain⟨h1,h⟩:=aac h
 obtain⟨o,m,p,l,q,rfl,h2⟩:=aeK h
 obtain⟨h2,hh⟩:=aac h2
 obtain⟨h7,h8⟩:=aac hh
 obtain⟨h2,h6⟩:=aac h2
 obtain⟨h2,h5⟩:=aac h2
 obtain⟨h2,h4⟩:=aac h2
 obtain⟨hcl,fa,hmt,hnm,fd,ps,F,B⟩:=I.hy.m m c i (aoV h2)
 obtain⟨dvs,dss,b1,b2,b3⟩:=B ds (amL h1)
 have st:=aef h8
 have ra:=ar8 R I l as h8
 have hf:adK fs i=false:=(Bool.not_eq_true' _).mp (aac h0).2
 have hr:=(I.hr (aac h0).1).mono (Nat.le_succ _)
 have me:=ant (v:=X.env) (m:=m) h4 st (of_decide_eq_true h6) h5
 cases l with
 | nil=>cases as with
  | nil=>exact aiA hf hcl hmt hnm F hr b3 b2 b1 (R.v I h7) me
  | cons a as=>exact nt h8
 | cons e₀ l=>
  rw[List.all_cons]at st
  exact akb hf hcl hmt hnm F hr b3 b2 b1 (R.v I h7) ra (aar (aac st).1) (acC (aac st).2) me
def aoT(c i:Nat):Option Gk→Bool|some (.cls d j)=>decide (d=c)&&decide (j=i) | _=>false
end
theorem amh{c i:Nat}{o:Option Gk}(h:aoT c i o=true):o=some (.cls c i):=by
 cases o with
 | none=>exact nt h
 | some q=>cases q<;>first|exact nt h|rw[of_decide_eq_true (aac h).1,of_decide_eq_true (aac h).2]
def awD(r:Rc)(fs:List Fn)(tb:Tab)(g:Ga)(e:Expr)(c i:Nat)(as:List IP.E)(ds:List T):Bool:=g.calm&&!adK fs i&&(okD tb i ds&&afq (fun x l=>aoT c i (ajD tb g x)&&kA (r.v g) l as) e)
section
variable(R:Sd G fs sub k tb r)(I:In G fs sub k tb X g)
include R I
theorem axW{c i n:Nat}{ds:List T}(h:awD r fs tb g e c i as ds=true):Vv G fs sub k X e (.new c i n as ds):=by
 obtain⟨h0,h⟩:=aac h
 obtain⟨h1,h⟩:=aac h
 obtain⟨x,p,l,q,rfl,h2⟩:=acr h
 obtain⟨h2,h4⟩:=aac h2
 obtain⟨z1,⟨z2,fa,M,fd,ps,F,B⟩,z4⟩:=aeO I (amh h2)
 obtain⟨dvs,dss,b1,b2,b3⟩:=B ds (amL h1)
 have st:=aef h4
 have ra:=ar8 R I l as h4
 have hf:adK fs i=false:=(Bool.not_eq_true' _).mp (aac h0).2
 have hr:=I.hr (aac h0).1
 cases l with
 | nil=>cases as with
  | nil=>exact ajT hf M F hr z1 z2 b3 b2 b1 z4
  | cons a as=>exact nt h4
 | cons e₀ l=>
  rw[List.all_cons]at st
  exact alW hf M F hr z1 z2 b3 b2 b1 ra z4 (aar (aac st).1) (acC (aac st).2)
end
def alF(tb:Tab)(c f:Nat)(x:Str):Bool:=ifS tb.nm[c]? fun l=>ifS l[f]? fun y=>keq y x
section
variable(I:In G fs sub k tb X g)
include I
theorem ahO{c f:Nat}{x:Str}(h:alF tb c f x=true):Cls X.K (G.iA c)∧(G.nm c)[f]?=some x∧abl X.K (G.iA c) x∧(G.nm c).Nodup∧(G.nm c).length≤100:=by
 obtain⟨l,h1,h⟩:=aaO h
 obtain⟨y,h2,h⟩:=aaO h
 cases abc h
 obtain⟨e,q1,q2,q3,q4⟩:=I.hy.nm c l h1
 rw[e]
 exact⟨q1,h2,q4 _ (List.mem_of_getElem? h2),q2,q3⟩
def avn(r:Rc)(tb:Tab)(g:Ga)(e:Expr)(a:IP.E)(c f:Nat):Bool:=ar7 (fun o x _=>alF tb c f x&&acz o&&r.v g o a) e
end
section
variable(R:Sd G fs sub k tb r)(I:In G fs sub k tb X g)
include R I
theorem axK{c f:Nat}(h:avn r tb g e a c f=true):Vv G fs sub k X e (.fld a c f):=by
 obtain⟨o,x,p,rfl,h⟩:=aiu h
 obtain⟨q1,q2,q3,_⟩:=ahO I (aac (aac h).1).1
 exact arj q1 q2 q3 (R.v I (aac h).2) (abM (aac (aac h).1).2)
theorem aun(h:r.o g e a=true):Vv G fs sub k X e (.cell a):=ahC (R.o I h)
end
def tyN:Ty→Option Str | .int=>some "int" | .bool=>some "bool" | .tuple=>some "tuple" | .list=>some "list" | .str=>some "str" | .cls _=>none
def as6(r:Rc)(tb:Tab)(g:Ga)(e:Expr)(a:IP.E)(f:Str→Bool):Bool:=afq (fun x l=>keq x "isinstance"&&isB tb g x&&on2 (fun x y=>aaB x&&r.v g x a&&agI (fun z _=>f z) y) l) e
section
variable(R:Sd G fs sub k tb r)(I:In G fs sub k tb X g)
include R I
theorem alD{f:Str→Bool}(h:as6 r tb g e a f=true):∃x y py p q,e=.Call (.Name "isinstance" p) [x,.Name y py] [] q∧Vv G fs sub k X x a∧f y=true∧Gl X "isinstance"∧X.mg "isinstance"=none∧starEach [x,.Name y py] X.env=[(false,eval x X.env),(false,eval (.Name y py) X.env)]:=by
 obtain⟨y,p,l,q,rfl,h⟩:=acr h
 obtain⟨h,h3⟩:=aac h
 obtain⟨h,h2⟩:=aac h
 cases abc h
 obtain⟨z1,z2⟩:=afZ I h2
 obtain⟨x,y,rfl,h3⟩:=amt h3
 obtain⟨y,py,rfl,h4⟩:=abA (aac h3).2
 exact⟨x,y,py,p,q,rfl,R.v I (aac (aac h3).1).2,h4,z1,z2,aar (aac (aac h3).1).1⟩
def aq6(r:Rc)(tb:Tab)(g:Ga)(e:Expr)(a:IP.E)(c:Ty):Bool:=ifS (tyN c) fun n=>as6 r tb g e a fun y=>keq y n&&isB tb g y
theorem awG{c:Ty}(h:aq6 r tb g e a c=true):Vv G fs sub k X e (.isi a c):=by
 obtain⟨n,hn,h⟩:=aaO h
 obtain⟨x,y,py,p,q,rfl,v,h1,hg,hm,st⟩:=alD R I h
 obtain⟨h1,h2⟩:=aac h1
 cases abc h1
 obtain⟨z1,z2⟩:=afZ I h2
 cases c<;>cases hn
 ·exact aeQ (n:="int") rfl hg hm z1 z2 (by rfl) (by decide) (by decide) v st
 ·exact aeQ (n:="bool") rfl hg hm z1 z2 (by rfl) (by decide) (by decide) v st
 ·exact aeQ (n:="tuple") rfl hg hm z1 z2 (by rfl) (by decide) (by decide) v st
 ·exact aeQ (n:="list") rfl hg hm z1 z2 (by rfl) (by decide) (by decide) v st
 ·exact aeQ (n:="str") rfl hg hm z1 z2 (by rfl) (by decide) (by decide) v st
def alL(c:Nat):Option Gk→Bool|some (.exc d)=>decide (d=c) | _=>false
end
theorem ain{c:Nat}{o:Option Gk}(h:alL c o=true):o=some (.exc c):=by
 cases o with
 | none=>exact nt h
 | some q=>cases q<;>first|exact nt h|rw[of_decide_eq_true h]
section
variable(R:Sd G fs sub k tb r)(I:In G fs sub k tb X g)
include R I
end
end
def aiH:Expr→Bool | .Set _ _ _=>false | _=>true
theorem aeJ{e:Expr}{v:Env}(h:aiH e=true):∀x,foldedSetIterable e v x=pure x:=by
 intro x
 cases e<;>first|rfl|exact nt h
def akm{α β:Type}(f:α→β→Bool):List α→List β→Bool
 | [],[]=>true
 | x::q,y::p=>f x y&&akm f q p
 | _,_=>false
section
variable{G:Gx}{fs:List Fn}{sub:Nat→Nat→Bool}{k:Nat}{tb:Tab}{X:Cx}{g:Ga}{r:Rc}{e:Expr}{es:List Expr}
variable{a b c d:IP.E}{as:List IP.E}
def kNm(g:Ga)(e:Expr)(i:Nat):Bool:=agI (fun x _=>at? g i x&&aku g x) e
section
variable(I:In G fs sub k tb X g)
include I
theorem ap9{i:Nat}(h:kNm g e i=true):∃x p,e=.Name x p∧X.N.Nodup∧X.N[i]?=some x∧L2.Loc X.env.scope x∧(X.fn x=true∨X.env.scope.names.lookup x=some .local):=by
 obtain⟨x,p,rfl,h⟩:=abA h
 exact⟨x,p,rfl,by rw[I.N];exact I.nd,aeZ I (aac h).1,alu I (aac h).2⟩
theorem aiN:∀(es:List Expr) (js:List Nat),akm (kNm g) es js=true→PGs X es (agO js)∧(assignEach es X.env).length=js.length∧(assignEach es X.env).findIdx? (·.1)=none
 | [],[],_=>⟨aoM,rfl,rfl⟩
 | e::es,j::js,h=>by
  obtain⟨x,p,rfl,h1,h2,h3,h4⟩:=ap9 I (aac h).1
  obtain⟨q1,q2,q3⟩:=aiN es js (aac h).2
  refine⟨amz h1 h2 h3 h4 q1,congrArg (·+1) q2,?_⟩
  show List.findIdx? (·.1) ((false,assign (.Name x p) X.env)::assignEach es X.env)=none
  rw[List.findIdx?_cons,q3]
  rfl
def kTg(g:Ga)(e:Expr):Tg→Bool
 | .one i=>kNm g e i
 | .many js=>g.calm&&anF (fun l _ _=>akm (kNm g) l js) e
theorem aqB{t:Tg}(h:kTg g e t=true):PG X e (gTg G t):=by
 cases t with
 | one i=>
  obtain⟨x,p,rfl,h1,h2,h3,h4⟩:=ap9 I h
  exact aoe h1 h2 h3 h4
 | many js=>
  obtain⟨l,j,p,rfl,z⟩:=ag1 (aac h).2
  obtain⟨q1,q2,q3⟩:=aiN I l js z
  exact ahJ (I.cm (aac h).1) q1 q2 q3
end
def ai6:IP.E→Bool | .rng1 _=>false | .rng2 _ _=>false | .enm _=>false | .zip _ _=>false | .sok _ _ _=>false | _=>true
theorem akf{C:Cf}(h:ai6 a=true)(σ:Fr)(s:Sto):ev C a .i σ s=fin .i (ev C a .v σ s):=by cases a<;>first|rfl|exact nt h
theorem akq{C:Cf}(h:ai6 a=true)(σ:Fr)(s:Sto):ev C a .j σ s=fin .j (ev C a .v σ s):=by cases a<;>first|rfl|exact nt h
def kIt(r:Rc)(tb:Tab)(g:Ga)(e:Expr)(a:IP.E):Bool:=(ai6 a&&r.v g e a)||match a with
 | .rng1 a=>kB1 r tb g "range" e a
 | .rng2 a b=>kB2 r tb g "range" e a b
 | _=>false
section
variable(R:Sd G fs sub k tb r)(I:In G fs sub k tb X g)
include R I
theorem anl{tg:Expr}{m:Md}{z:Bool}(hm:m=.i∧z=false∨m=.j∧z=true)(h:kIt r tb g e a=true):PI X tg e (tI G X (cfX fs sub k) a m z):=by
 have hm':m=.i∨m=.j:=hm.elim (fun q=>.inl q.1) fun q=>.inr q.1
 rcases(Bool.or_eq_true _ _).mp h with h|h
 ·refine ajZ (R.v I (aac h).2) hm ?_
  rcases hm' with rfl|rfl
  ·exact akf (aac h).1
  ·exact akq (aac h).1
 ·cases a<;>first|exact nt h|skip
  ·obtain⟨x,p,q,rfl,v,hg,hmg,hs⟩:=aaR R I h
   exact amO hm' hg hmg v hs
  ·obtain⟨x,y,p,q,rfl,va,vb,hg,hmg,hs,hs2⟩:=alI R I h
   exact alR hm' hg hmg va vb hs hs2
end
def arC(sc:List (Str×NameKind))(x:Str×NameKind):Str×NameKind:=bif decide (x.2=.free)&&isK (lk sc x.1) .cell then(x.1,.cell)else x
theorem ajw{o:Option NameKind}{q:NameKind}:(o==some q)=isK o q:=by
 cases o with
 | none=>rfl
 | some p=>cases p<;>cases q<;>rfl
section
variable(I:In G fs sub k tb X g)
include I
theorem ali{scope:Scope}:(relabel scope X.env).names=scope.names.map (arC g.sc):=by
 unfold relabel Env.kindOf
 rw[I.kd,I.sc]
 refine List.map_congr_left fun x _=>?_
 obtain⟨n,q⟩:=x
 unfold arC
 simp only[aeY,ajw]
 cases hq:isK (lk g.sc n) .cell<;>cases q<;>simp[hq]
def at1(l:List (Str×NameKind))(x:Str):Bool:=isK (lk l x) .local||isK (lk l x) .cell||isK (lk l x) .free
def ckS(js:List Nat)(rel names:List (Str×NameKind)):Nat→List Str→List Str→Bool
 | _,[],[]=>true
 | i,x::p,y::q=>(js.contains i||!at1 rel x||(keq y x&&isK (lk names x) .free&&(isK (lk rel x) .cell||isK (lk rel x) .free)))&&ckS js rel names (i+1) p q
 | _,_,_=>false
end
theorem arh{o:Option NameKind}{q:NameKind}(h:o=some q):isK o q=true:=by rw[h];exact decide_eq_true rfl
theorem alo{js:List Nat}{rel names:List (Str×NameKind)}:∀(p q:List Str) (i:Nat),ckS js rel names i p q=true→p.length=q.length∧∀(n:Nat) (x:Str),p[n]?=some x→i+n∉js→(lk rel x=some .local∨lk rel x=some .cell∨lk rel x=some .free)→q[n]?=some x∧(x,NameKind.free)∈names∧(lk rel x=some .cell∨lk rel x=some .free)
 | [],[],i,_=>⟨rfl,fun n x h=>by simp at h⟩
 | x::p,y::q,i,h=>by
  obtain⟨h1,h2⟩:=aac h
  obtain⟨q1,q2⟩:=alo p q (i+1) h2
  refine⟨congrArg (·+1) q1,fun n z hz hj hv=>?_⟩
  cases n with
  | succ n=>exact q2 n z (by simpa using hz) (by rw[Nat.add_assoc,Nat.add_comm 1];exact hj) hv
  | zero=>
   cases(Option.some.inj hz:x=z)
   rcases(Bool.or_eq_true _ _).mp h1 with h1|h1
   ·rcases(Bool.or_eq_true _ _).mp h1 with h1|h1
    ·exact absurd (List.contains_iff_mem.mp h1) hj
    ·have:at1 rel x=true:=by
      unfold at1
      rcases hv with v|v|v<;>rw[arh v]<;>simp
     rw[this]at h1
     exact nt h1
   ·obtain⟨h1,h3⟩:=aac h1
    cases abc (aac h1).1
    refine⟨rfl,aeA (ab9 (aac h1).2),?_⟩
    rcases(Bool.or_eq_true _ _).mp h3 with v|v
    ·exact .inl (ab9 v)
    ·exact .inr (ab9 v)
def ndB:List Str→Bool
 | []=>true
 | x::q=>!q.any (keq x)&&ndB q
theorem agz:∀{l:List Str},ndB l=true→l.Nodup
 | [],_=>List.nodup_nil
 | x::q,h=>by
  obtain⟨h1,h2⟩:=aac h
  refine List.nodup_cons.mpr ⟨fun m=>?_,agz h2⟩
  have:q.any (keq x)=true:=List.any_eq_true.mpr ⟨x,m,afi⟩
  rw[this]at h1
  exact nt h1
def okN(x:Str):Bool:=!keq x "__debug__"&&!keq x "__classdict__"
theorem alw{l:List Str}(h:l.all okN=true):∀x∈l,(x==("__debug__":Str))=false∧(x==("__classdict__":Str))=false:=fun x hx=>by
 obtain⟨h1,h2⟩:=aac (List.all_eq_true.mp h x hx)
 rw[acX,acX]
 exact⟨(Bool.not_eq_true' _).mp h1,(Bool.not_eq_true' _).mp h2⟩
def ckN(g:Ga)(sc:Scope)(N':List Str)(js:List Nat):Bool:=
 decide (sc.kind=.function)&&(sc.names.all fun x=>!decide (x.2=.cell)&&(!decide (x.2=.free)||isK (lk g.sc x.1) .cell||isK (lk g.sc x.1) .free)&&(!decide (x.2=.local)||isK (lk sc.names x.1) .local)) &&
 (ndB N'&&N'.all okN&&ckS js (sc.names.map (arC g.sc)) sc.names 0 N' g.N)
section
variable(I:In G fs sub k tb X g)
include I
theorem apy{sc:Scope}{N':List Str}{js:List Nat}(h:ckN g sc N' js=true):CompN X sc N' js∧N'.Nodup∧N'.all okN=true:=by
 obtain⟨h1,h2⟩:=aac h
 obtain⟨h0,h1⟩:=aac h1
 obtain⟨h3,h2⟩:=aac h2
 obtain⟨h3,h4⟩:=aac h3
 obtain⟨q1,q2⟩:=alo _ _ _ h2
 have q3:=agz h3
 have al:=List.all_eq_true.mp h1
 have no:∀{b c:Bool}{p:Prop} [Decidable p],p→(!decide p||b)=true→b=true:=fun hp hb=>by
  rw[decide_eq_true hp]at hb
  exact hb
 refine⟨⟨of_decide_eq_true h0,fun x hx e=>?_,fun x hx e=>?_,by rw[I.N];exact q1,q3,fun i x hx hj hv=>?_,fun x hx e=>?_⟩,q3,h4⟩
 ·have z:=(aac (aac (al x hx)).1).1
  rw[decide_eq_true e]at z
  exact nt z
 ·have z:=(aac (aac (al x hx)).1).2
  unfold Env.kindOf
  rw[acW I]
  rw[Bool.or_assoc]at z
  rcases(Bool.or_eq_true _ _).mp (no (c:=true) e z)with z|z
  ·exact .inl (ab9 z)
  ·exact .inr (ab9 z)
 ·unfold Vis at hv
  rw[ali I,aeY]at hv ⊢
  rw[I.N]
  exact q2 i x hx (by rw[Nat.zero_add];exact hj) hv
 ·rw[aeY]
  exact ab9 (no (c:=true) e (aac (al x hx)).2)
def nmO:Expr→Option Str | .Name x _=>some x | _=>none
def tgN:Expr→List Str | .Name x _=>[x] | .Tuple l _ _=>l.filterMap nmO | _=>[]
def hid(tn:List Str):Nat→List Str→List Str
 | _,[]=>[]
 | i,x::q=>(bif tn.any (keq x)then⟨#[1,i]⟩else x)::hid tn (i+1) q
def awM:List Str→List Nat→List Str→List Str
 | N,j::js,x::xs=>awM (N.set j x) js xs
 | N,_,_=>N
def gaC(g:Ga)(sc:Scope)(tg:Expr)(js:List Nat):Ga:=⟨awM (hid (tgN tg) 0 g.N) js (tgN tg),sc.names.map (arC g.sc),false,g.calm,false⟩
def aoc(g:Ga)(e:Expr)(t:Tg)(f:Ga→Expr→Expr→List Expr→Expr→Bool):Bool:=g.calm&&apJ (fun elt gens sc _=>on1 (fun c=>decide (c.is_async=0)&&aiH c.iter&&decide ((slots t).Nodup) &&
 (ckN g sc (gaC g sc c.target (slots t)).N (slots t)&&kTg (gaC g sc c.target (slots t)) c.target t&&f (gaC g sc c.target (slots t)) elt c.iter c.ifs c.target)) gens) e
theorem aiU{t:Tg}{f:Ga→Expr→Expr→List Expr→Expr→Bool}(h:aoc g e t f=true):X.calm=true∧∃elt tgx it ifs sc pos g2 N',e=.ListComp elt [⟨tgx,it,ifs,0⟩] sc pos∧CompN X sc N' (slots t)∧(slots t).Nodup∧(∀x,foldedSetIterable it X.env x=pure x)∧
  (∀A fp s2 H2 xe,In G fs sub k tb (cxC X N' sc A fp s2 H2 xe) g2)∧(∀A fp s2 H2 xe,PG (cxC X N' sc A fp s2 H2 xe) tgx (gTg G t))∧f g2 elt it ifs tgx=true:=by
 obtain⟨h0,h⟩:=aac h
 obtain⟨elt,gens,sc,pos,rfl,h⟩:=ajf h
 obtain⟨⟨tgx,it,ifs,ia⟩,rfl,h⟩:=abY h
 obtain⟨h1,h2⟩:=aac h
 obtain⟨h1,h3⟩:=aac h1
 obtain⟨h1,h4⟩:=aac h1
 obtain⟨h2,h5⟩:=aac h2
 obtain⟨h2,h6⟩:=aac h2
 cases(of_decide_eq_true h1:ia=0)
 obtain⟨q1,q2,q3⟩:=apy I h2
 have J:∀A fp s2 H2 xe,In G fs sub k tb (cxC X (gaC g sc tgx (slots t)).N sc A fp s2 H2 xe) (gaC g sc tgx (slots t)):=fun A fp s2 H2 xe=>
  ⟨rfl,q2,alw q3,ali I,q1.kind,fun z=>nt z,I.cm,I.hu,I.hr,I.fr,fun z=>nt z,fun z=>nt z,fun z=>nt z,I.hy⟩
 exact⟨I.cm h0,elt,tgx,it,ifs,sc,pos,gaC g sc tgx (slots t),(gaC g sc tgx (slots t)).N,rfl,q1,of_decide_eq_true h3,aeJ h4,J,fun A fp s2 H2 xe=>aqB (J A fp s2 H2 xe) h6,h5⟩
def aey(r:Rc)(tb:Tab)(g:Ga)(e:Expr)(a:IP.E)(t:Tg)(b:IP.E):Bool:=aoc g e t fun g2 elt it ifs _=>ifs.isEmpty&&kIt r tb g it b&&r.v g2 elt a
end
section
variable(R:Sd G fs sub k tb r)(I:In G fs sub k tb X g)
include R I
theorem al5{t:Tg}(h:aey r tb g e a t b=true):Vo G fs sub k X e (.comp a t b):=by
 obtain⟨hc,elt,tgx,it,ifs,sc,pos,g2,N',rfl,q1,q2,q3,J,q4,h⟩:=aiU I h
 obtain⟨h,h1⟩:=aac h
 cases acO (aac h).1
 exact akg (f:=fun σ st=>one (ev (cfX fs sub k) a .v σ st)) hc q1 q2 (anl R I (.inl ⟨rfl,rfl⟩) (aac h).2) q4 (fun A fp s2 H2 xe=>aic (R.v (J A fp s2 H2 xe) h1)) q3 (fun _ _=>rfl) I.fr
theorem atG{t:Tg}(h:aey r tb g e a t b=true):Vv G fs sub k X e (.comp a t b):=ao3 (al5 R I h) fun _ _ _ _ h=>ahI h
end
end
def ar4(f:List Expr→Expr→Pos→Bool):Stmt→Bool | .Assign l v p=>f l v p | _=>false
theorem agG{e:Stmt}{f:List Expr→Expr→Pos→Bool}(h:ar4 f e=true):∃l v p,e=.Assign l v p∧f l v p=true:=by cases e<;>first|exact⟨_,_,_,rfl,h⟩|exact nt h
def awH(f:Option Expr→Pos→Bool):Stmt→Bool | .Return v p=>f v p | _=>false
theorem ajv{e:Stmt}{f:Option Expr→Pos→Bool}(h:awH f e=true):∃v p,e=.Return v p∧f v p=true:=by cases e<;>first|exact⟨_,_,rfl,h⟩|exact nt h
def ap6(f:Expr→Pos→Bool):Stmt→Bool | .Expr v p=>f v p | _=>false
theorem aiB{e:Stmt}{f:Expr→Pos→Bool}(h:ap6 f e=true):∃v p,e=.Expr v p∧f v p=true:=by cases e<;>first|exact⟨_,_,rfl,h⟩|exact nt h
def alE(f:Expr→List Stmt→List Stmt→Pos→Bool):Stmt→Bool | .If c a b p=>f c a b p | _=>false
theorem an2{e:Stmt}{f:Expr→List Stmt→List Stmt→Pos→Bool}(h:alE f e=true):∃c a b p,e=.If c a b p∧f c a b p=true:=by cases e<;>first|exact⟨_,_,_,_,rfl,h⟩|exact nt h
def au3(f:Expr→List Stmt→List Stmt→Pos→Bool):Stmt→Bool | .While c a b p=>f c a b p | _=>false
theorem ao7{e:Stmt}{f:Expr→List Stmt→List Stmt→Pos→Bool}(h:au3 f e=true):∃c a b p,e=.While c a b p∧f c a b p=true:=by cases e<;>first|exact⟨_,_,_,_,rfl,h⟩|exact nt h
def avp(f:Expr→Expr→List Stmt→List Stmt→Pos→Bool):Stmt→Bool | .For t c a b p=>f t c a b p | _=>false
theorem arm{e:Stmt}{f:Expr→Expr→List Stmt→List Stmt→Pos→Bool}(h:avp f e=true):∃t c a b p,e=.For t c a b p∧f t c a b p=true:=by cases e<;>first|exact⟨_,_,_,_,_,rfl,h⟩|exact nt h
def avX(f:Option Expr→Option Expr→Pos→Bool):Stmt→Bool | .Raise a b p=>f a b p | _=>false
theorem aoi{e:Stmt}{f:Option Expr→Option Expr→Pos→Bool}(h:avX f e=true):∃a b p,e=.Raise a b p∧f a b p=true:=by cases e<;>first|exact⟨_,_,_,rfl,h⟩|exact nt h
def atm(f:List Stmt→List ExceptHandler→List Stmt→List Stmt→Pos→Bool):Stmt→Bool | .Try a d b c p=>f a d b c p | _=>false
theorem akY{e:Stmt}{f:List Stmt→List ExceptHandler→List Stmt→List Stmt→Pos→Bool}(h:atm f e=true):∃a d b c p,e=.Try a d b c p∧f a d b c p=true:=by cases e<;>first|exact⟨_,_,_,_,_,rfl,h⟩|exact nt h
def agX:Expr→Bool | .ListComp _ _ _ _=>false | .SetComp _ _ _ _=>false | .DictComp _ _ _ _ _=>false | _=>true
theorem aoE{e:Expr}{t:Option Expr}{l:Nat}{v:Env}(h:agX e=true):swapsWith e t l v=pure false:=by
 cases e<;>first|rfl|exact nt h
theorem aum{e o:Expr}{x:Str}{p:Pos}{l:Nat}{v:Env}:swapsWith e (some (.Attribute o x p)) l v=pure false:=by cases e<;>rfl
theorem auZ{e o j:Expr}{p:Pos}{l:Nat}{v:Env}:swapsWithSole [.Subscript o j p] e l v=pure false:=by cases e<;>rfl
theorem asR{e o j:Expr}{p:Pos}{v:Env}:swappedStores [.Subscript o j p] e v=pure none:=by cases e<;>rfl
theorem auR{e:Expr}{es:List Expr}{k:Nat}{p:Pos}{l:Nat}{v:Env}:swapsWithSole [.Tuple es k p] e l v=pure false:=by cases e<;>rfl
def ao0:Expr→Bool | .Tuple _ _ _=>false | _=>true
theorem auu{e:Expr}{es:List Expr}{k:Nat}{p:Pos}{v:Env}(h:ao0 e=true):swappedStores [.Tuple es k p] e v=pure none:=by
 cases e<;>first|rfl|exact nt h
theorem asp{o j:Expr}{p:Pos}{v:Env}(h:acN j=true)(x:Value):assign (.Subscript o j p) v x=(do
   let ov ←holding [x] (eval o v)
   let iv ←holding [x,ov] (eval j v)
   standAt p
   holding [x,ov,iv] (setItem ov iv x)
   release [x,ov,iv] []):=by cases j<;>first|rfl|exact nt h
section
variable{G:Gx}{fs:List Fn}{sub:Nat→Nat→Bool}{k:Nat}{tb:Tab}{X:Cx}{g:Ga}{r:Rc}{st:Stmt}{sts:List Stmt}
variable{a b c d:IP.E}{as:List IP.E}{i:Nat}
def atL(q:NameKind):Bool:=decide (q=.local)||decide (q=.cell)
def swB(g:Ga)(t:Str)(tp:Pos)(e:Expr):Bool:=apJ (fun _ _ sc vp=>isK (lk g.sc t) .local&&decide (tp.line=vp.line)&&!(sc.names.any fun x=>keq x.1 t&&atL x.2)) e
theorem aoj{t:Str}{tp:Pos}{e:Expr}{l:Nat}(I:In G fs sub k tb X g)(h:agX e=false→apJ (fun _ _ _ _=>true) e=true):swapsWith e (some (.Name t tp)) l X.env=pure (swB g t tp e):=by
 cases hc:agX e with
 | true=>
  rw[aoE hc]
  cases e<;>first|rfl|exact nt hc
 | false=>
  obtain⟨elt,gens,sc,vp,rfl,_⟩:=ajf (h hc)
  show(pure (X.env.blockKind==.function&&X.env.kindOf t==some .local&&tp.line==vp.line&&!(sc.names.any fun x=>x.1==t&&(x.2==.local||x.2==.cell))):Sem Bool)=pure (isK (lk g.sc t) .local&&decide (tp.line=vp.line)&&!(sc.names.any fun x=>keq x.1 t&&atL x.2))
  have e1:(sc.names.any fun x=>x.1==t&&(x.2==.local||x.2==.cell))=sc.names.any fun x=>keq x.1 t&&atL x.2:=by
   refine congrArg (sc.names.any) (funext fun x=>?_)
   rw[acX]
   obtain⟨n,q⟩:=x
   cases q<;>rfl
  have e2:(X.env.blockKind==ScopeKind.function)=true:=by
   unfold Env.blockKind
   rw[I.kd]
   rfl
  rw[e1,e2]
  unfold Env.kindOf
  rw[I.sc,aeY,ajw]
  rfl
def atk(g:Ga)(x:Str)(tp:Pos)(v:Expr):Bool:=agX v||apJ (fun _ _ _ _=>true) v
theorem aru{x:Str}{tp:Pos}{v:Expr}{l:Nat}(I:In G fs sub k tb X g)(h:atk g x tp v=true):swapsWith v (some (.Name x tp)) l X.env=pure (swB g x tp v):=aoj I fun z=>by
 unfold atk at h
 rw[z]at h
 exact h
end
structure Rs extends Rc where
 w:Ga→Expr→E→Bool
structure Ss(G:Gx)(fs:List Fn)(sub:Nat→Nat→Bool)(k:Nat)(tb:Tab)(r:Rs):Prop extends Sd G fs sub k tb r.toRc where
 w:∀{X g e e'},In G fs sub k tb X g→r.w g e e'=true→(∀(y:Str) (py spos:Pos) (i:Nat),X.N[i]?=some y→X.env.scope.names.lookup y=some .local→swapsWith e (some (.Name y py)) spos.line X.env=pure true→
  PS X (.Assign [.Name y py] e spos) (fun D σV H=>tO G X (cfX fs sub k) e' σV H fun v H1=>D.nx (σV.set i (some v)) H1))∧∀σ s r s1,ev (cfX fs sub k) e' .v σ s=.ok r s1→∃ts,r=.val (.lst ts)
section
variable{G:Gx}{fs:List Fn}{sub:Nat→Nat→Bool}{k:Nat}{tb:Tab}{X:Cx}{g:Ga}{r:Rs}{st:Stmt}{sts:List Stmt}{e:Expr}
variable{a b c d:IP.E}{as:List IP.E}{i:Nat}
section
variable(R:Sd G fs sub k tb r.toRc)(I:In G fs sub k tb X g)
include R I
theorem asI{t:Tg}(h:aey r.toRc tb g e a t b=true):(∀(y:Str) (py spos:Pos) (i:Nat),X.N[i]?=some y→X.env.scope.names.lookup y=some .local→swapsWith e (some (.Name y py)) spos.line X.env=pure true→
  PS X (.Assign [.Name y py] e spos) (fun D σV H=>tO G X (cfX fs sub k) (.comp a t b) σV H fun v H1=>D.nx (σV.set i (some v)) H1))∧∀σ s r s1,ev (cfX fs sub k) (.comp a t b) .v σ s=.ok r s1→∃ts,r=.val (.lst ts):=by
 refine⟨fun y py spos i hi hy hs=>?_,fun _ _ _ _ h=>ahI h⟩
 obtain⟨hc,elt,tgx,it,ifs,sc,pos,g2,N',rfl,q1,q2,q3,J,q4,z⟩:=aiU I h
 obtain⟨z,h1⟩:=aac z
 cases acO (aac z).1
 exact ajG (f:=fun σ st=>one (ev (cfX fs sub k) a .v σ st)) hc q1 q2 (anl R I (.inl ⟨rfl,rfl⟩) (aac z).2) q4 (fun A fp s2 H2 xe=>aic (R.v (J A fp s2 H2 xe) h1)) q3 (fun _ _=>rfl) hs (by rw[I.N];exact I.nd) hi hy I.fr
end
def kAs(g:Ga)(st:Stmt)(i:Nat)(f:Expr→Bool)(w:Expr→Bool):Bool:=ar4 (fun l v _=>on1 (fun t=>agI (fun x tp=>at? g i x&&aku g x&&atk g x tp v&&(bif swB g x tp v then w v else f v)) t) l) st
section
variable(I:In G fs sub k tb X g)
include I
theorem aqa{f w:Expr→Bool}(h:kAs g st i f w=true):∃x tp v p,st=.Assign [.Name x tp] v p∧X.N.Nodup∧X.N[i]?=some x∧L2.Loc X.env.scope x∧(X.fn x=true∨X.env.scope.names.lookup x=some .local)∧
  ((f v=true∧swapsWith v (some (.Name x tp)) p.line X.env=pure false)∨(w v=true∧swapsWith v (some (.Name x tp)) p.line X.env=pure true∧X.env.scope.names.lookup x=some .local)):=by
 obtain⟨l,v,p,rfl,h⟩:=agG h
 obtain⟨t,rfl,h⟩:=abY h
 obtain⟨x,tp,rfl,h⟩:=abA h
 obtain⟨h,h4⟩:=aac h
 obtain⟨h,h3⟩:=aac h
 obtain⟨h1,h2⟩:=aac h
 obtain⟨q1,q2⟩:=alu I h2
 refine⟨x,tp,v,p,rfl,by rw[I.N];exact I.nd,aeZ I h1,q1,q2,?_⟩
 rw[aru I h3]
 cases hs:swB g x tp v with
 | false=>rw[hs]at h4;exact .inl ⟨h4,rfl⟩
 | true=>
  rw[hs]at h4
  refine .inr ⟨h4,rfl,?_⟩
  obtain⟨_,_,sc,vp,rfl,z⟩:=ajf hs
  rw[I.sc,aeY]
  exact ab9 (aac (aac z).1).1
def awa(r:Rs)(g:Ga)(st:Stmt)(i:Nat)(a:IP.E):Bool:=kAs g st i (fun v=>r.v g v a) fun v=>r.w g v a
end
section
variable(R:Ss G fs sub k tb r)(I:In G fs sub k tb X g)
include R I
theorem axw(h:awa r g st i a=true):Vs G fs sub k X st (.asg i a):=by
 obtain⟨x,tp,v,p,rfl,nd,hi,hl,hf,⟨q1,q2⟩|⟨q1,q2,q3⟩⟩:=aqa I h
 ·exact aq2 nd hi hl (R.v I q1) q2 hf
 ·obtain⟨z1,z2⟩:=R.w I q1
  exact afg z2 (z1 x tp p i hi q3 q2)
def kMk(r:Rs)(g:Ga)(st:Stmt)(i:Nat)(a:IP.E):Bool:=kAs g st i (fun v=>r.o g v a) fun v=>r.w g v a
theorem rMk(h:kMk r g st i a=true):Vs G fs sub k X st (.mk i a):=by
 obtain⟨x,tp,v,p,rfl,nd,hi,hl,hf,⟨q1,q2⟩|⟨q1,q2,q3⟩⟩:=aqa I h
 ·exact atO nd hi hl (R.o I q1) q2 hf
 ·obtain⟨z1,z2⟩:=R.w I q1
  exact ahu (z1 x tp p i hi q3 q2)
def axh(r:Rs)(g:Ga)(st:Stmt)(js:List Nat)(a:IP.E):Bool:=g.calm&&ar4 (fun l v _=>on1 (fun t=>anF (fun es _ _=>akm (kNm g) es js&&ao0 v&&r.v g v a) t) l) st
theorem ay4{js:List Nat}(h:axh r g st js a=true):Vs G fs sub k X st (.asgT js a):=by
 obtain⟨h0,h⟩:=aac h
 obtain⟨l,v,p,rfl,h⟩:=agG h
 obtain⟨t,rfl,h⟩:=abY h
 obtain⟨es,_,_,rfl,h⟩:=ag1 h
 obtain⟨q1,q2,q3⟩:=aiN I es js (aac (aac h).1).1
 exact am7 (I.cm h0) (R.v I (aac h).2) q1 q2 q3 auR (auu (aac (aac h).1).2) rfl
end
section
variable(R:Ss G fs sub k tb r)(I:In G fs sub k tb X g)
include R I
def atM(f:Expr→Expr→Expr→Bool)(st:Stmt):Bool:=ar4 (fun l v _=>on1 (fun t=>arT (fun o j _=>acN j&&f o j v) t) l) st
end
theorem aqI{f:Expr→Expr→Expr→Bool}(h:atM f st=true):∃o j q v p,st=.Assign [.Subscript o j q] v p∧acN j=true∧f o j v=true:=by
 obtain⟨l,v,p,rfl,h⟩:=agG h
 obtain⟨t,rfl,h⟩:=abY h
 obtain⟨o,j,q,rfl,h⟩:=ah2 h
 exact⟨o,j,q,v,p,rfl,aac h⟩
section
variable(R:Ss G fs sub k tb r)(I:In G fs sub k tb X g)
include R I
theorem au8(h:atM (fun o j v=>r.v g o a&&(r.v g j b&&r.v g v c)) st=true):Vs G fs sub k X st (.putL a b c):=by
 obtain⟨o,j,q,v,p,rfl,hj,h⟩:=aqI h
 exact anc (R.v I (aac (aac h).2).2) (R.v I (aac h).1) (R.v I (aac (aac h).2).1) auZ asR rfl (asp hj)
def arz(f:Expr→Expr→Bool)(st:Stmt):Bool:=ap6 (fun e _=>anC (fun o m p l q=>keq m "append"&&acz o&&(p.endLine==q.line)&&on1 (fun v=>aaB v&&f o v) l) e) st
end
theorem aqD{v:Expr}{q:Pos}{w:Env}(h:aaB v=true):((backTo q (starEach [v] w)).all (fun x=>!x.1)&&(backToKw q (keywordEach [] w)).all (fun x=>x.1.isSome)&&decide ([v].length+([]:List Keyword).length+(if([]:List Keyword).isEmpty then 0 else 1)<30))=true:=by
 rw[aar h]
 rfl
theorem alt{f:Expr→Expr→Bool}(h:arz f st=true):∃o p v q pos,st=.Expr (.Call (.Attribute o "append" p) [v] [] q) pos∧acz o=true∧(p.endLine==q.line)=true∧aaB v=true∧f o v=true:=by
 obtain⟨e,pos,rfl,h⟩:=aiB h
 obtain⟨o,m,p,l,q,rfl,h⟩:=aeK h
 obtain⟨h,h4⟩:=aac h
 obtain⟨h,h3⟩:=aac h
 obtain⟨h1,h2⟩:=aac h
 cases abc h1
 obtain⟨v,rfl,h4⟩:=abY h4
 exact⟨o,p,v,q,pos,rfl,h2,h3,aac h4⟩
section
variable(R:Ss G fs sub k tb r)(I:In G fs sub k tb X g)
include R I
theorem axL(h:arz (fun o v=>agI (fun x _=>at? g i x&&aec g x) o&&r.v g v a) st=true):Vs G fs sub k X st (.app i a):=by
 obtain⟨o,p,v,q,pos,rfl,h1,h2,h3,h4⟩:=alt h
 obtain⟨h4,h5⟩:=aac h4
 obtain⟨x,xp,rfl,z⟩:=abA h4
 have hi:=aeZ I (aac z).1
 exact apS hi (ae3 I (aac z).2) (adn I hi).1 (adn I hi).2 (R.v I h5) (aar h3) h2 (abM h1) (aqD h3) (aoE rfl)
theorem auc(h:arz (fun o v=>r.v g o a&&r.v g v b) st=true):Vs G fs sub k X st (.appL a b):=by
 obtain⟨o,p,v,q,pos,rfl,h1,h2,h3,h4⟩:=alt h
 exact alY (R.v I (aac h4).1) (R.v I (aac h4).2) (aar h3) h2 (abM h1) (aqD h3) (aoE rfl)
end
section
variable(I:In G fs sub k tb X g)
include I
def aqS(r:Rs)(tb:Tab)(g:Ga)(st:Stmt)(a:IP.E)(c f:Nat)(b:IP.E):Bool:=ar4 (fun l v _=>on1 (fun t=>ar7 (fun o x _=>alF tb c f x&&(r.v g o a&&r.v g v b)) t) l) st
end
section
variable(R:Ss G fs sub k tb r)(I:In G fs sub k tb X g)
include R I
theorem auI{c f:Nat}(h:aqS r tb g st a c f b=true):Vs G fs sub k X st (.setF a c f b):=by
 obtain⟨l,v,p,rfl,h⟩:=agG h
 obtain⟨t,rfl,h⟩:=abY h
 obtain⟨o,x,q,rfl,h⟩:=aiu h
 obtain⟨h1,h2⟩:=aac h
 obtain⟨q1,q2,q3,q4,q5⟩:=ahO I h1
 exact ane q1 q2 q4 q5 q3 (R.v I (aac h2).1) (R.v I (aac h2).2) aum
end
def anE(f:Expr→Bool)(st:Stmt):Bool:=awH (fun v _=>ifS v f) st
section
variable(R:Ss G fs sub k tb r)(I:In G fs sub k tb X g)
include R I
theorem ax3(h:anE (fun v=>r.v g v a) st=true):Vs G fs sub k X st (.ret a):=by
 obtain⟨v,p,rfl,h⟩:=ajv h
 obtain⟨v,rfl,h⟩:=aaO h
 exact arp (R.v I h)
theorem atb(h:anE (fun v=>r.o g v a) st=true):Vs G fs sub k X st (.retO a):=by
 obtain⟨v,p,rfl,h⟩:=ajv h
 obtain⟨v,rfl,h⟩:=aaO h
 exact amY (R.o I h)
end
section
variable(I:In G fs sub k tb X g)
include I
theorem asQ{C:Cf}(h:anE (fun v=>agI (fun x _=>at? g i x&&aec g x) v) st=true):PS X st (tS G X C (.retV i)):=by
 obtain⟨v,p,rfl,h⟩:=ajv h
 obtain⟨v,rfl,h⟩:=aaO h
 obtain⟨x,xp,rfl,z⟩:=abA h
 have hi:=aeZ I (aac z).1
 exact amg hi (ae3 I (aac z).2) (adn I hi).1 (adn I hi).2
end
section
variable(R:Ss G fs sub k tb r)(I:In G fs sub k tb X g)
include R I
theorem axX(h:ap6 (fun v _=>agX v&&r.v g v a) st=true):Vs G fs sub k X st (.exp a):=by
 obtain⟨v,p,rfl,h⟩:=aiB h
 exact aqo (R.v I (aac h).2) (aoE (aac h).1)
theorem ays{as bs:List S}(h:alE (fun x p q _=>r.t g x c&&(r.s g p as&&r.s g q bs)) st=true):Vs G fs sub k X st (.ifs c as bs):=by
 obtain⟨x,p,q,_,rfl,h⟩:=an2 h
 exact apV (R.t I (aac h).1) (R.s I (aac (aac h).2).1) (R.s I (aac (aac h).2).2)
theorem aye{as:List S}(h:(g.top&&au3 (fun x p q _=>q.isEmpty&&(r.t g x c&&r.s g p as)) st)=true):Vs G fs sub k X st (.whl c as):=by
 obtain⟨h0,h⟩:=aac h
 obtain⟨x,p,q,_,rfl,h⟩:=ao7 h
 obtain⟨y0,y1⟩:=aac h
 obtain⟨y2,y3⟩:=aac y1
 cases acO y0
 exact aoP rfl (I.hp h0) (R.t I y2) (R.s I y3)
def an0(r:Rs)(g:Ga)(st:Stmt)(t:Tg)(as:List S)(f:Expr→Expr→Bool):Bool:=g.top&&g.calm&&avp (fun x e p q _=>q.isEmpty&&aiH e&&(kTg g x t&&r.s g p as&&f x e)) st
theorem aiG{t:Tg}{as:List S}{f:Expr→Expr→Bool}(h:an0 r g st t as f=true):X.calm=true∧PassesOwn (model X.prog X.w) X.A X.env X.xe∧∃x e p q,st=.For x e p [] q∧(∀y,foldedSetIterable e X.env y=pure y)∧PG X x (gTg G t)∧Vz G fs sub k X p as∧f x e=true:=by
 obtain⟨h0,h⟩:=aac h
 obtain⟨x,e,p,q,ps,rfl,h⟩:=arm h
 obtain⟨h1,h2⟩:=aac h
 obtain⟨h2,h3⟩:=aac h2
 cases acO (aac h1).1
 exact⟨I.cm (aac h0).2,I.hp (aac h0).1,x,e,p,ps,rfl,aeJ (aac h1).2,aqB I (aac h2).1,R.s I (aac h2).2,h3⟩
def alv:IP.E→Bool | .var _=>false | _=>true
theorem axQ{t:Tg}{as:List S}(h:an0 r g st t as (fun _ e=>alv a&&kIt r.toRc tb g e a)=true):Vs G fs sub k X st (.for_ t a as):=by
 obtain⟨hc,hp,x,e,p,q,rfl,h1,h2,h3,h4⟩:=aiG R I h
 refine are hp hc (anl R.toSd I (.inr ⟨rfl,rfl⟩) (aac h4).2) h2 h3 h1 fun i z=>?_
 have z2:=(aac h4).1
 rw[z]at z2
 exact nt z2
theorem ato{t:Tg}{as:List S}(h:an0 r g st t as (fun _ e=>arS g e i)=true):Vs G fs sub k X st (.for_ t (.var i) as):=by
 obtain⟨hc,hp,x,e,p,q,rfl,h1,h2,h3,h4⟩:=aiG R I h
 obtain⟨y,yp,rfl,z⟩:=abA h4
 have hi:=aeZ I (aac z).1
 exact an7 hp hc hi (ae3 I (aac z).2) (adn I hi).1 (adn I hi).2 h2 h3 h1
theorem ayl{js:List Nat}{as:List S}(h:an0 r g st (.many js) as (fun x e=>kB1 r.toRc tb g "enumerate" e a&&anF (fun _ _ _=>true) x)=true):Vs G fs sub k X st (.for_ (.many js) (.enm a) as):=by
 obtain⟨hc,hp,x,e,p,q,rfl,h1,h2,h3,h4⟩:=aiG R I h
 obtain⟨es,kk,pp,rfl,_⟩:=ag1 (aac h4).2
 obtain⟨y,yp,q,rfl,v,hg,hm,hs⟩:=aaR R.toSd I (aac h4).1
 exact arf hp hc hg hm v hs h2 h3 h1
end
def alk(tb:Tab)(g:Ga)(st:Stmt)(c:Nat):Bool:=g.calm&&tb.rs.contains c&&avX (fun e f _=>f.isNone&&ifS e (afq fun x l=>alL c (ajD tb g x)&&on1 (amq fun s _ _=>match s with | .str _=>true | _=>false) l)) st
section
variable(I:In G fs sub k tb X g)
include I
theorem anY{C:Cf}{c:Nat}(h:alk tb g st c=true):PS X st (tS G X C (.raise c)):=by
 obtain⟨h0,h⟩:=aac h
 obtain⟨e,f,p,rfl,y⟩:=aoi h
 obtain⟨y0,y1⟩:=aac y
 obtain⟨e,rfl,y2⟩:=aaO y1
 obtain⟨x,xp,l,q,rfl,y3⟩:=acr y2
 obtain⟨h1,h2⟩:=aac y3
 obtain⟨s,rfl,h3⟩:=abY h2
 obtain⟨s,j,p,rfl,h4⟩:=afh h3
 obtain⟨z1,z2,z3⟩:=aeO I (ain h1)
 cases adj y0
 cases s<;>first|exact nt h4|exact aki (I.cm (aac h0).1) z1 z2 (I.hy.rs c (List.contains_iff_mem.mp (aac h0).2)) PySem.F.excBase_ValueError z3 rfl
def ayc(f:Option Expr→Option Str→List Stmt→Bool):ExceptHandler→Bool | .ExceptHandler t n b _=>f t n b
def aqP(r:Rs)(tb:Tab)(g:Ga)(st:Stmt)(as bs:List S)(c:Nat)(f:Option Str→Bool):Bool:=g.top&&tb.ct.contains c&&atm (fun p d q z _=>q.isEmpty&&z.isEmpty&&r.s g p as&&on1 (ayc fun t n u=>f n&&ifS t (agI fun x _=>alL c (ajD tb g x))&&!u.isEmpty&&r.s { g with calm:=false,top:=false } u bs) d) st
end
section
variable(R:Ss G fs sub k tb r)(I:In G fs sub k tb X g)
include R I
theorem alz{as bs:List S}{c:Nat}{f:Option Str→Bool}(h:aqP r tb g st as bs c f=true):∃body x xp n b₀ suite hp pos,st=.Try body [.ExceptHandler (some (.Name x xp)) n (b₀::suite) hp] [] [] pos∧f n=true∧
  (X.stack=X.env::X.outer∧X.env.frame=some X.env.locals)∧X.ex=[]∧Gl X x∧X.mg x=some (.ref (G.cA c))∧(x==("__debug__":Str))=false∧(∀d,PySem.W.exmOne X.K (.ref (G.cA d)) (.ref (G.cA c))=some ((cfX fs sub k).sub d c))∧
  (∀(E:Value→Shared→Prop) (pn:List (Addr×Obj)),PassesOwn (model X.prog X.w) X.A X.env E→PSs (adx X E pn) body (tSs G (adx X E pn) (cfX fs sub k) as))∧(∀e,PSs (hnd X e) (b₀::suite) (tSs G (hnd X e) (cfX fs sub k) bs)):=by
 obtain⟨h0,h⟩:=aac h
 obtain⟨body,d,q,z,pos,rfl,y⟩:=akY h
 obtain⟨y1,y2⟩:=aac y
 obtain⟨y3,h3⟩:=aac y1
 obtain⟨y4,y5⟩:=aac y3
 obtain⟨⟨t,n,u,hp⟩,rfl,y6⟩:=abY y2
 obtain⟨y7,h4⟩:=aac y6
 obtain⟨y8,h5⟩:=aac y7
 obtain⟨h2,y9⟩:=aac y8
 obtain⟨t,rfl,ya⟩:=aaO y9
 obtain⟨x,xp,rfl,yb⟩:=abA ya
 obtain⟨z1,z2,z3⟩:=aeO I (ain yb)
 cases acO y4
 cases acO y5
 cases u with
 | nil=>exact nt h5
 | cons b₀ suite=>
  refine⟨body,x,xp,n,b₀,suite,hp,pos,rfl,h2,I.st (aac h0).1,I.ex (aac h0).1,z1,z2,z3,I.hy.ct c (List.contains_iff_mem.mp (aac h0).2),fun E pn hE=>R.s (X:=adx X E pn) ?_ h3,fun e=>R.s (X:=hnd X e) ?_ h4⟩
  ·exact⟨I.N,I.nd,I.dn,I.sc,I.kd,I.fl,I.cm,I.hu,I.hr,I.fr,fun _=>hE,I.st,I.ex,I.hy⟩
  ·exact⟨I.N,I.nd,I.dn,I.sc,I.kd,I.fl,fun z=>nt z,I.hu,fun z=>nt z,I.fr,fun z=>nt z,fun z=>nt z,fun z=>nt z,I.hy⟩
theorem at0{as bs:List S}{c:Nat}(h:aqP r tb g st as bs c (fun n=>n.isNone)=true):Vs G fs sub k X st (.try_ as c none bs):=by
 obtain⟨body,x,xp,n,b₀,suite,hp,pos,rfl,h1,h2,h3,h4,h5,h6,h7,h8,h9⟩:=alz R I h
 cases adj h1
 exact am4 h2 h4 h5 h6 h7 h8 h9
theorem atN{as bs:List S}{c:Nat}(h:aqP r tb g st as bs c (fun n=>ifS n fun y=>at? g i y&&isK (lk g.sc y) .local)=true):Vs G fs sub k X st (.try_ as c (some i) bs):=by
 obtain⟨body,x,xp,n,b₀,suite,hp,pos,rfl,h1,h2,h3,h4,h5,h6,h7,h8,h9⟩:=alz R I h
 obtain⟨y,rfl,h1⟩:=aaO h1
 exact am2 h2 h3 (by rw[I.N];exact I.nd) (aeZ I (aac h1).1) (by rw[acW I];exact ab9 (aac h1).2) h4 h5 h6 h7 h8 h9
end
def kSs(f:Ga→Stmt→S→Bool)(g:Ga):List Stmt→List S→Bool
 | [],[]=>true
 | sts,.frz _::as=>kSs f g sts as
 | st::sts,a::as=>f g st a&&kSs f g sts as
 | _,_=>false
theorem alQ{C:Cf}{f:Ga→Stmt→S→Bool}(H:∀st a,f g st a=true→PS X st (tS G X C a)):∀(as:List S) (sts:List Stmt),kSs f g sts as=true→PSs X sts (tSs G X C as)
 | [],[],_=>amK
 | [],_::_,h=>nt h
 | a::as,sts,h=>by
  cases a with
  | frz i=>cases sts<;>exact ann (alQ H as _ h)
  | _=>
   cases sts with
   | nil=>exact nt h
   | cons st sts=>exact akt (H _ _ (aac h).1) (alQ H as sts (aac h).2)
end
structure DI where
 st:Stmt
 x:Str
 q:Str
 N:List Str
 ps:List Str
def Df(K:PySem.W.Frag)(tb:Tab)(dis:List DI)(i:Nat)(fa:Addr):Prop:=
 ∃fd d,dis[i]?=some d∧FunD K d.x d.q d.st fa fd∧∀ts,ts=[]∨ts∈dfl tb i→∃(dvs:List V) (ds:List Value),ts.mapM cstV=some dvs∧Vals dvs ds∧Binds K fd d.ps ds
def pre?:List Str→List Str→Bool
 | [],_=>true
 | x::p,y::q=>keq x y&&pre? p q
 | _,_=>false
theorem akV:∀{p q:List Str},pre? p q=true→q.take p.length=p
 | [],q,_=>by simp
 | x::p,y::q,h=>by
  rw[List.length_cons,List.take_succ_cons,abc (aac h).1,akV (aac h).2]
def ga0(d:DI):Ga:=⟨d.N,(defScope d.st).names,true,true,true⟩
def ckF(d:DI):Bool:=decide ((defScope d.st).kind=.function)&&!(defScope d.st).isCoroutine&&!(defScope d.st).isGenerator&&(ndB d.N&&d.N.all okN&&pre? d.ps d.N) &&
 (d.ps.all (fun x=>isK (lk (defScope d.st).names x) .local||isK (lk (defScope d.st).names x) .cell))&&(defScope d.st).names.all fun y=>!decide (y.2=.free)
theorem aqK{d:DI}(h:ckF d=true):FnScope d.N d.ps (defScope d.st)∧d.N.all okN=true:=by
 obtain⟨h,h6⟩:=aac h
 obtain⟨h,h5⟩:=aac h
 obtain⟨h,h4⟩:=aac h
 obtain⟨h,h3⟩:=aac h
 obtain⟨h1,h2⟩:=aac h
 obtain⟨h7,h8⟩:=aac h4
 obtain⟨h7,h9⟩:=aac h7
 refine⟨⟨of_decide_eq_true h1,(Bool.not_eq_true' _).mp h2,(Bool.not_eq_true' _).mp h3,agz h7,akV h8,fun x hx=>?_,fun y hy e=>?_⟩,h9⟩
 ·rw[aeY]
  exact((Bool.or_eq_true _ _).mp (List.all_eq_true.mp h5 x hx)).imp ab9 ab9
 ·have z:=List.all_eq_true.mp h6 y hy
  rw[decide_eq_true e]at z
  exact nt z
def ck1(r:Rs)(d:DI)(F:Fn):Bool:=ckF d&&decide (F.pars=d.ps.length)&&decide (F.size=d.N.length)&&r.s (ga0 d) (defBody d.st) F.body
def ajg(r:Rs):List DI→List Fn→Bool
 | [],[]=>true
 | d::ds,F::fs=>ck1 r d F&&ajg r ds fs
 | _,_=>false
theorem agy{r:Rs}:∀{ds:List DI}{fs:List Fn},ajg r ds fs=true→∀(i:Nat) (d:DI),ds[i]?=some d→∃F,fs[i]?=some F∧ck1 r d F=true
 | [],[],_,i,d,e=>by simp at e
 | d::ds,F::fs,h,0,d',e=>by cases e;exact⟨F,rfl,(aac h).1⟩
 | d::ds,F::fs,h,i+1,d',e=>agy (aac h).2 i d' e
section
variable{P:Program}{w:World}{K:PySem.W.Frag}{mg:Str→Option Value}{base:Heap}{G:Gx}{fs:List Fn}{sub:Nat→Nat→Bool}{tb:Tab}{dis:List DI}{r:Rs}
theorem aik(R:∀k,Ss G fs sub k tb r)(T:Hy K mg G sub tb (Df K tb dis))(h:ajg r dis fs=true):∀(k i:Nat) (d:DI) (fa:Addr) (fd:FuncData),dis[i]?=some d→FunD K d.x d.q d.st fa fd→FnOk P w K mg base (CXE G P w base) (2*k) fa fd d.ps (spG G (cfX fs sub k).cf (cfX fs sub k).fr i)
 | 0,i,d,fa,fd,_,_=>afS (sub:=sub)
 | k+1,i,d,fa,fd,hd,Fu=>by
  obtain⟨F,hF,h1⟩:=agy h i d hd
  obtain⟨h1,h5⟩:=aac h1
  obtain⟨h1,h4⟩:=aac h1
  obtain⟨h2,h3⟩:=aac h1
  obtain⟨S,no⟩:=aqK h2
  refine ao1 Fu S hF (of_decide_eq_true h3) (of_decide_eq_true h4) fun cdv A outer s H E hr hu hp=>(R k).s ?_ h5
  exact⟨rfl,S.nd,alw no,rfl,S.kind,fun _ _=>rfl,fun _=>rfl,hu,fun _=>hr,⟨_,_,_,rfl,rfl,rfl⟩,fun _=>hp,fun _=>⟨rfl,rfl⟩,fun _=>rfl,
   T.mono fun i fa ⟨fd,d,e,f,b⟩=>⟨fd,d.ps,aik R T h k i d fa fd e f,b⟩⟩
end
def afd{α:Type}(p:α→Prop):List α→Prop
 | []=>True
 | a::r=>p a∧afd p r
theorem abp{α:Type}{p:α→Prop}:∀{l:List α},afd p l→∀a∈l,p a
 | _::_,h,_,.head _=>h.1
 | _::_,h,_,.tail _ m=>abp h.2 _ m
def bad:Rs:=⟨⟨fun _ _ _=>false,fun _ _ _=>false,fun _ _ _=>false,fun _ _ _=>false⟩,fun _ _ _=>false⟩
theorem aoS{G:Gx}{fs:List Fn}{sub:Nat→Nat→Bool}{k:Nat}{tb:Tab}:Ss G fs sub k tb bad:=
 ⟨⟨fun _ h=>nt h,fun _ h=>nt h,fun _ h=>nt h,fun _ h=>nt h⟩,fun _ h=>nt h⟩
def awc(rows:List (List Bool))(d c:Nat):Bool:=nth (nth rows (rows.headD []) d) false c
abbrev nE(el:List Addr):Nat→Addr:=nth el (el.headD 0)
section
variable(K:PySem.W.Frag)(el il:List Addr)(tb:Tab)(dis:List DI)
def GkK:Str×Gk→Prop
 | (x,.blt)=>PySem.W.nsIn K mainGlobals x=some none
 | (x,.int i)=>∃t,PySem.W.nsIn K mainGlobals x=some (some (.int i t))
 | (x,.exc c)=>PySem.W.nsIn K mainGlobals x=some (some (.ref (nE el c)))
 | (x,.cls c i)=>PySem.W.nsIn K mainGlobals x=some (some (.ref (nE il c)))∧PySem.W.makesIn K (nE il c)=true∧PySem.W.keepIn K (.ref (nE il c))=true∧∃fa,PySem.W.findIn K (.ref (nE il c)) "__init__"=some (some (.ref fa))∧PySem.W.isFn K (.ref fa)=true∧Df K tb dis i fa
 | (x,.fn i)=>∃fa,PySem.W.nsIn K mainGlobals x=some (some (.ref fa))∧PySem.W.keepIn K (.ref fa)=true∧Df K tb dis i fa
def MkK(q:Str×Nat×Nat):Prop:=∃fa,PySem.W.findIn K (.ref (nE il q.2.1)) q.1=some (some (.ref fa))∧PySem.W.isFn K (.ref fa)=true∧PySem.W.keepIn K (.ref fa)=true∧Df K tb dis q.2.2 fa
def ClL:List Addr→List (List Str)→Prop
 | a::as,l::ls=>(Cls K a∧afd (abl K a) l)∧ClL as ls
 | [],[]=>True
 | _,_=>False
def anj{α β:Type}(p:α→β→Prop):List α→List β→Prop
 | a::as,b::bs=>p a b∧anj p as bs
 | [],[]=>True
 | _,_=>False
end
section
variable{K:PySem.W.Frag}{el il:List Addr}{tb:Tab}{dis:List DI}{rows:List (List Bool)}
theorem allP_cons{α:Type}{p:α→Prop}{a:α}{r:List α}(h:p a)(q:afd p r):afd p (a::r):=⟨h,q⟩
theorem AllZ_cons{α β:Type}{p:α→β→Prop}{a:α}{r:List α}{b:β}{s:List β}(h:p a b)(q:anj p r s):anj p (a::r) (b::s):=⟨h,q⟩
theorem ah7{α β:Type}{p:α→β→Prop}{a0:α}{b0:β}(h0:p a0 b0):∀{as:List α}{bs:List β},anj p as bs→∀d,p (nth as a0 d) (nth bs b0 d)
 | [],[],_,_=>h0
 | a::as,b::bs,h,0=>h.1
 | a::as,b::bs,h,d+1=>ah7 h0 h.2 d
theorem aix{a b:Nat}{p:Addr→List Bool→Prop}(h:anj p el rows)(ne:el≠[]):∀d,p (nE el d) (nth rows (rows.headD []) d):=by
 cases el with
 | nil=>exact absurd rfl ne
 | cons e er=>cases rows with
  | nil=>exact h.elim
  | cons r rr=>exact ah7 h.1 h
theorem as2{p:Addr→Prop}(ne:el≠[])(h:afd p el)(d:Nat):p (nE el d):=by
 cases el with
 | nil=>exact absurd rfl ne
 | cons e er=>
  have:∀(as:List Addr),afd p as→∀d,p (nth as e d):=by
   intro as
   induction as with
   | nil=>exact fun _ _=>h.1
   | cons a as ih=>exact fun q d=>by cases d with
    | zero=>exact q.1
    | succ d=>exact ih q.2 d
  exact this _ h d
theorem aja:∀{il:List Addr}{nm:List (List Str)}{z:Addr},ClL K il nm→∀(c:Nat) (l:List Str),nm[c]?=some l→nth nm [] c=l∧Cls K (nth il z c)∧afd (abl K (nth il z c)) l
 | [],[],_,_,c,l,e=>by simp at e
 | a::as,l::ls,z,h,0,l',e=>by cases e;exact⟨rfl,h.1⟩
 | a::as,l::ls,z,h,c+1,l',e=>aja (il:=as) (nm:=ls) h.2 c l' e
def ckT(tb:Tab):Bool:=tb.g.all (fun x=>!keq x.1 "__debug__")&&tb.nm.all (fun l=>ndB l&&decide (l.length≤100))&&tb.m.all fun q=>decide (q.2.1<tb.nm.length)&&!(nth tb.nm [] q.2.1).any (keq q.1)
def HyA(K:PySem.W.Frag)(el il:List Addr)(rows:List (List Bool))(tb:Tab)(dis:List DI):Prop:=
 afd (GkK K el il tb dis) tb.g∧afd (MkK K il tb dis) tb.m∧ClL K il tb.nm∧afd (fun c=>PySem.W.excIn K (nE el c) [.type "ValueError",.type "Exception",.type "BaseException",.type "object"] "ValueError.__new__"=true) tb.rs∧
  afd (fun c=>el≠[]∧anj (fun e row=>PySem.W.exmOne K (.ref e) (.ref (nE el c))=some (nth row false c)) el rows) tb.ct∧
  afd (fun c=>(el≠[]∧afd (ExcK K) el)∧anj (fun e row=>PySem.W.kitOne K (.ref e) (.ref (nE el c))=some (nth row false c)) el rows) tb.ix∧
  afd (fun c=>InsK K (nE il c)) tb.ib
theorem hy_mk{h:Heap}{mg:Str→Option Value}(X:K.In h)(Gn:h.Ns mainGlobals mg)(hT:ckT tb=true)(hA:HyA K el il rows tb dis):∃G,G.K=K∧
  Hy K mg G (awc rows) tb (Df K tb dis):=by
 obtain⟨hg,hm,hc,hr,ht,hx,hi⟩:=hA
 refine⟨⟨K,nE el,nE il,nth tb.nm []⟩,rfl,?_⟩
 obtain⟨t1,t3⟩:=aac hT
 obtain⟨t1,t2⟩:=aac t1
 have hcl:∀(c:Nat) (l:List Str),tb.nm[c]?=some l→nth tb.nm [] c=l∧Cls K (nE il c)∧afd (abl K (nE il c)) l:=aja hc
 refine⟨fun x q e=>?_,fun x q e=>?_,fun x c i e=>?_,fun c l e=>?_,abp hr,fun c m d=>?_,fun c m=>?_,abp hi⟩
 ·have z:=abp hg _ (aeA e)
  cases q with
  | blt=>exact PySem.W.mg_none_of X Gn z
  | fn i=>obtain⟨fa,a,b,c⟩:=z;exact⟨fa,PySem.W.mg_of X Gn a,b,c⟩
  | cls c i=>obtain⟨a,b,kc,fa,d,f,k⟩:=z;exact⟨PySem.W.mg_of X Gn a,fa,⟨b,d,f,kc⟩,k⟩
  | exc c=>exact PySem.W.mg_of X Gn z
  | int i=>obtain⟨t,a⟩:=z;exact⟨t,PySem.W.mg_of X Gn a⟩
 ·rw[acX]
  exact(Bool.not_eq_true' _).mp (List.all_eq_true.mp t1 _ (aeA e))
 ·have m:=aeA e
  obtain⟨fa,a,b,k,d⟩:=abp hm _ m
  obtain⟨q1,q2⟩:=aac (List.all_eq_true.mp t3 _ m)
  have hl:c<tb.nm.length:=of_decide_eq_true q1
  obtain⟨y1,y2,_⟩:=hcl c _ (List.getElem?_eq_getElem hl)
  refine⟨y2,fa,⟨a,b,k⟩,fun hx=>?_,d⟩
  have:(nth tb.nm [] c).any (keq x)=true:=List.any_eq_true.mpr ⟨x,hx,afi⟩
  rw[this]at q2
  exact nt q2
 ·obtain⟨y1,y2,y3⟩:=hcl c l e
  obtain⟨q1,q2⟩:=aac (List.all_eq_true.mp t2 _ (List.mem_of_getElem? e))
  exact⟨y1,y2,agz q1,of_decide_eq_true q2,abp y3⟩
 ·obtain⟨ne,z⟩:=abp ht c m
  exact aix (a:=0) (b:=0) z ne d
 ·obtain⟨⟨ne,z1⟩,z⟩:=abp hx c m
  exact⟨as2 ne z1,aix (a:=0) (b:=0) z ne⟩
theorem df_mk{i:Nat}{d:DI}{f:Addr}{oc dv kV dc pm cd ct:Value}{od an:Option Addr}{sl:Array (Option Value)}(hd:dis[i]?=some d)(l:K.lookup f=some ⟨oc,od,.func (PySem.W.fnOf d.x d.q (defArgs d.st) (defBody d.st) (defScope d.st) dv kV dc pm an cd ct),sl⟩)
  (c:PySem.W.codeIn K cd d.q=true) (k:PySem.W.keepIn K (.ref f)=true) (hb:∀ts,ts=[]∨ts∈dfl tb i→∃(dvs:List V) (ds:List Value),ts.mapM cstV=some dvs∧Vals dvs ds∧Binds K (PySem.W.fnOf d.x d.q (defArgs d.st) (defBody d.st) (defScope d.st) dv kV dc pm an cd ct) d.ps ds):Df K tb dis i f:=
 ⟨_,d,hd,aiD l c k,hb⟩
theorem bd0{fd:FuncData}{ps:List Str}{i:Nat}(h0:dfl tb i=[])(h:arN ps.length fun us=>bindArgs fd ⟨us,[]⟩=pure (ps.zip us)):∀ts,ts=[]∨ts∈dfl tb i→∃(dvs:List V) (ds:List Value),ts.mapM cstV=some dvs∧Vals dvs ds∧Binds K fd ps ds:=fun ts z=>by
 rcases z with rfl|z
 ·exact⟨[],[],rfl,.nil,.all (ast _ h)⟩
 ·rw[h0]at z;cases z
theorem g_blt{x:Str}(h:PySem.W.nsIn K mainGlobals x=some none):GkK K el il tb dis (x,.blt):=h
theorem g_int{x:Str}{i:Int}{t:Tok}(h:PySem.W.nsIn K mainGlobals x=some (some (.int i t))):GkK K el il tb dis (x,.int i):=⟨t,h⟩
theorem g_exc{x:Str}{c:Nat}{a:Addr}(e:nE el c=a)(h:PySem.W.nsIn K mainGlobals x=some (some (.ref a))):GkK K el il tb dis (x,.exc c):=by subst e;exact h
theorem g_cls{x:Str}{c i:Nat}{a fa:Addr}(e:nE il c=a)(h:PySem.W.nsIn K mainGlobals x=some (some (.ref a)))(h1:PySem.W.makesIn K a=true)(h2:PySem.W.keepIn K (.ref a)=true)(h3:PySem.W.findIn K (.ref a) "__init__"=some (some (.ref fa)))(h4:PySem.W.isFn K (.ref fa)=true)(h5:Df K tb dis i fa):GkK K el il tb dis (x,.cls c i):=by
 subst e
 exact⟨h,h1,h2,fa,h3,h4,h5⟩
theorem g_fn{x:Str}{i:Nat}{fa:Addr}(h:PySem.W.nsIn K mainGlobals x=some (some (.ref fa)))(h1:PySem.W.keepIn K (.ref fa)=true)(h2:Df K tb dis i fa):GkK K el il tb dis (x,.fn i):=⟨fa,h,h1,h2⟩
theorem g_na{C:Addr}{x:Str}(h:PySem.W.findIn K (.ref C) x=some none):abl K C x:=h
theorem g_rs{c:Nat}{a:Addr}(e:nE el c=a)(h:PySem.W.excIn K a [.type "ValueError",.type "Exception",.type "BaseException",.type "object"] "ValueError.__new__"=true):PySem.W.excIn K (nE el c) [.type "ValueError",.type "Exception",.type "BaseException",.type "object"] "ValueError.__new__"=true:=by rw[e];exact h
theorem g_ct{c:Nat}{a x:Addr}{row:List Bool}{b:Bool}(e:nE el c=a)(eb:nth row false c=b)(h:PySem.W.exmOne K (.ref x) (.ref a)=some b):PySem.W.exmOne K (.ref x) (.ref (nE el c))=some (nth row false c):=by rw[e,eb];exact h
theorem g_m{x:Str}{c i:Nat}{a fa:Addr}(e:nE il c=a)(h:PySem.W.findIn K (.ref a) x=some (some (.ref fa)))(h1:PySem.W.isFn K (.ref fa)=true)(h2:PySem.W.keepIn K (.ref fa)=true)(h3:Df K tb dis i fa):MkK K il tb dis (x,c,i):=by
 subst e
 exact⟨fa,h,h1,h2,h3⟩
end
theorem ag0:∀{K:List (Addr×Obj)}{a:Addr}{o:Obj},K.lookup a=some o→(a,o)∈K
 | [],a,o,h=>by cases h
 | (b,u)::r,a,o,h=>by
  rw[List.lookup_cons]at h
  split at h
  ·rename_i hb
   cases h
   rw[beq_iff_eq.mp hb]
   exact List.mem_cons_self
  ·exact List.mem_cons_of_mem _ (ag0 h)
def aoy(K:PySem.W.Frag):Bool:=K.all fun p=>match p.2.cls with | .type n=>n != "list" | _=>true
theorem ak6{K:PySem.W.Frag}(h:aoy K=true){a:Addr}{o:Obj}(e:K.lookup a=some o)(hc:o.cls=.type "list"):False:=by
 have hm:=ag0 e
 have q:=List.all_eq_true.mp h _ hm
 rw[show(a,o).2.cls=.type "list" from hc]at q
 simp at q
theorem aqJ{G:Gx}{w:Wo}{H:Hp}:∀ns:List Int,aah G w H (ns.map T.int) (ns.map V.int)
 | []=>rfl
 | n::r=>⟨.int n,_,rfl,rfl,aqJ r⟩
def aqx(fs:List Fn)(sub:Nat→Nat→Bool)(D li:Nat):Prop:=∀ns:List Int,ns.length≤63→∃s,run true fs sub aad D li [.val (.lst (ns.map .int))] []=.ok (.val (.bl true)) s
def GoF(sub:Nat→Nat→Bool)(tb:Tab)(dis:List DI)(dl:DI)(par:Str)(K:PySem.W.Frag)(mg:Str→Option Value)(fa:Addr):Prop:=
 ∃(fd:FuncData) (G:Gx),(∀(s:Shared) (u:Value),BindsTo s fd ⟨[u],[]⟩ [(par,u)])∧FunD K dl.x dl.q dl.st fa fd∧Hy K mg G sub tb (Df K tb dis)
theorem go_mk{sub:Nat→Nat→Bool}{tb:Tab}{dis:List DI}{dl:DI}{par:Str}{K:PySem.W.Frag}{mg:Str→Option Value}{h:Heap}{f fa:Addr}{oc dv kV dc pm cd ct:Value}{od an:Option Addr}{sl:Array (Option Value)}(X:K.In h)(Gn:h.Ns mainGlobals mg)(hmg:mg dl.x=some (.ref fa))
  (a:PySem.W.nsIn K mainGlobals dl.x=some (some (.ref f))) (l:K.lookup f=some ⟨oc,od,.func (PySem.W.fnOf dl.x dl.q (defArgs dl.st) (defBody dl.st) (defScope dl.st) dv kV dc pm an cd ct),sl⟩) (c:PySem.W.codeIn K cd dl.q=true) (k:PySem.W.keepIn K (.ref f)=true)
  (hb:∀u:Value,bindArgs (PySem.W.fnOf dl.x dl.q (defArgs dl.st) (defBody dl.st) (defScope dl.st) dv kV dc pm an cd ct) ⟨[u],[]⟩=pure [(par,u)]) (T:∃G:Gx,G.K=K∧Hy K mg G sub tb (Df K tb dis)):GoF sub tb dis dl par K mg fa:=by
 have e:=hmg.symm.trans (PySem.W.mg_of X Gn a)
 cases e
 obtain⟨G,_,T⟩:=T
 exact⟨_,G,fun s u=>.of_eq (hb u),aiD l c k,T⟩
theorem walk{fs:List Fn}{sub:Nat→Nat→Bool}{tb:Tab}{dis:List DI}{r:Rs}{D li:Nat}{par:Str}{dl:DI}(M:aqx fs sub D li)(R:∀(G:Gx) k,Ss G fs sub k tb r)(hck:ajg r dis fs=true)(hdl:dis[li]?=some dl)(hps:dl.ps=[par])(hfr:adK fs li=false)
  {l:PySem.W.OpenLaw}{q:Program}{loose:List Str}{XP:(Str→Option Value)→Heap→Prop}{YP:World→Heap→Prop}{d:DefRec}{K:Params→PySem.W.Frag} (hn:l.most=some 63) (hdf:d.params.defaults=[]) (hroom:Room (2*D) callerA)
  (hY:∀(w:World) (h:Heap),YP w h→(K w.params).In h) (hK:∀w:World,aoy (K w.params)=true)
  (F:∀(w:World) (mg:Str→Option Value) (fa:Addr) (h:Heap),(K w.params).In h→h.Ns mainGlobals mg→mg d.name=some (.ref fa)→GoF sub tb dis dl par (K w.params) mg fa):
  PySem.W.WalkO q loose XP YP l.row.toRowW d [] (fun f vs=>PySem.call f vs):=by
 refine L2.walk_of (n:=63) (k:=2*D) (x:=par) (CX:=fun _=>CX0) (sp:=fun w=>fun vs H Q E=>∃(a:Addr) (ns:List Int),vs=[.ref a]∧ns.length≤63∧Rd H a (.lst (ns.map V.int))∧∀H',Q (.bl true) H') hn (by decide) hdf hroom hY (fun w mg fa h a b c=>?_) (fun w H a ns hl hO hS=>?_) fun _ _ _ _ _ z=>z
 ·obtain⟨fd,G,hb,Fu,T⟩:=F w mg fa h a b c
  refine⟨fd,hb,fun base kb nb=>?_⟩
  have hf:=ap5 (aik (P:=l.prog) (w:=w) (base:=base) (R G) T hck D li dl fa fd hdl Fu)
  rw[hps]at hf
  refine⟨fun vs H Q E ⟨a,ns,e,_⟩=>by subst e;rfl,fun A outer s H args us vs Q E hr e0 hb hv ⟨a,ns,e,hl,hR,hq⟩=>hf.run A outer s H args us vs Q E hr e0 hb hv ?_⟩
  subst e
  obtain⟨st,e⟩:=M ns hl
  refine⟨⟨0,fun _=>0,fun b=>b=a⟩,[],[.val (.lst (ns.map .int))],⟨rfl,fun l m h=>absurd h (Nat.not_lt_zero _),fun l h=>absurd h (Nat.not_lt_zero _),fun l c h=>by simp at h,fun b hb=>⟨ns.map V.int,by have hb:b=a:=hb;subst hb;exact hR⟩⟩,⟨.ref a,[],rfl,⟨a,_,rfl,rfl,hR,aqJ ns⟩,rfl⟩,?_⟩
  rw[show(cfX fs sub D).cf=run true fs sub aad D from rfl,e]
  exact⟨fun _ w' H' v _ _ r=>by cases r;exact hq _,fun z=>by rw[show(cfX fs sub D).fr li=adK fs li from rfl,hfr]at z;cases z⟩
 ·have hR:Rd H a (.lst (ns.map V.int)):=hS.elim id fun⟨o,_,_,e,hc,_⟩=>(ak6 (hK w) e hc).elim
  exact⟨a,ns,rfl,hl,hR,fun _=>rfl⟩
def axq(f:List Expr→Pos→Bool):Expr→Bool | .JoinedStr l p=>f l p | _=>false
theorem apd{e:Expr}{f:List Expr→Pos→Bool}(h:axq f e=true):∃l p,e=.JoinedStr l p∧f l p=true:=by cases e<;>first|exact⟨_,_,rfl,h⟩|exact nt h
def avO(f:Expr→Int→Option Expr→Pos→Bool):Expr→Bool | .FormattedValue a i b p=>f a i b p | _=>false
theorem apW{e:Expr}{f:Expr→Int→Option Expr→Pos→Bool}(h:avO f e=true):∃a i b p,e=.FormattedValue a i b p∧f a i b p=true:=by cases e<;>first|exact⟨_,_,_,_,rfl,h⟩|exact nt h
section
variable{G:Gx}{fs:List Fn}{sub:Nat→Nat→Bool}{k:Nat}{tb:Tab}{X:Cx}{g:Ga}{r:Rc}{e:Expr}{a b c d:IP.E}
theorem aiM{e:Expr}{x:Str}(h:anN e (.str x)=true):∃j p,e=.Constant (.str x) j p:=by
 obtain⟨c,j,p,rfl,h⟩:=afh h
 cases c<;>first|exact nt h|(cases afp (a:=.str _) (b:=.str x) h;exact⟨j,p,rfl⟩)
theorem ax0(R:Sd G fs sub k tb r)(I:In G fs sub k tb X g)(h:kB1 r tb g "str" e a=true):Vv G fs sub k X e (.b1 .str a):=by
 obtain⟨x,p,q,rfl,z,hg,hm,hs⟩:=aaR R I h
 exact aqY ati hg hm (by rfl) (by decide) (by decide) z hs fun _ _=>rfl
def aqk(r:Rc)(g:Ga)(e:Expr)(x:Str)(b:IP.E):Bool:=anC (fun o m p l q=>keq m "join"&&anN o (.str x)&&(p.endLine==q.line)&&on1 (fun v=>aaB v&&r.v g v b) l) e
theorem aqq{x:Str}(R:Sd G fs sub k tb r)(I:In G fs sub k tb X g)(h:aqk r g e x b=true):Vv G fs sub k X e (.join x b):=by
 obtain⟨o,m,p,l,q,rfl,h⟩:=aeK h
 obtain⟨h1,h4⟩:=aac h
 obtain⟨h2,h3⟩:=aac h1
 obtain⟨v,rfl,h5⟩:=abY h4
 obtain⟨j,sp,rfl⟩:=aiM (aac h2).2
 cases abc (aac h2).1
 exact amy (R.v I (aac h5).2) (aqD (aac h5).1) h3 (aar (aac h5).1)
def ao6(r:Rc)(g:Ga)(e:Expr)(a:IP.E)(y:Str):Bool:=axq (fun l _=>on2 (fun v c=>avO (fun v i s _=>decide (i=-1)&&s.isNone&&r.v g v a) v&&anN c (.str y)) l) e
theorem atY{y:Str}(R:Sd G fs sub k tb r)(I:In G fs sub k tb X g)(h:ao6 r g e a y=true):Vv G fs sub k X e (.bin .add a (.cst (.str y))):=by
 obtain⟨l,p,rfl,h⟩:=apd h
 obtain⟨v,c,rfl,h⟩:=amt h
 obtain⟨h1,h2⟩:=aac h
 obtain⟨v,i,s,q,rfl,h3⟩:=apW h1
 obtain⟨j,sp,rfl⟩:=aiM h2
 obtain⟨h4,h5⟩:=aac h3
 cases of_decide_eq_true (aac h4).1
 cases adj (aac h4).2
 exact amu (R.v I h5)
def kF1(r:Rc)(g:Ga)(e:Expr)(a:IP.E):T→Bool | .str y=>ao6 r g e a y | _=>false
def kF2(r:Rc)(g:Ga)(e:Expr)(a:IP.E):IP.E→Bool | .cst t=>kF1 r g e a t | _=>false
def auJ:Op→Bool | .add=>true | _=>false
def aok(r:Rc)(g:Ga)(e:Expr)(o:Op)(a b:IP.E):Bool:=arP r g e o a b||(auJ o&&kF2 r g e a b)
theorem auz{o:Op}(R:Sd G fs sub k tb r)(I:In G fs sub k tb X g)(h:aok r g e o a b=true):Vv G fs sub k X e (.bin o a b):=by
 rcases(Bool.or_eq_true _ _).mp h with h|h
 ·exact ax7 R I h
 ·obtain⟨h1,h2⟩:=aac h
  cases o<;>first|exact nt h1|skip
  cases b with
  | cst t=>cases t with
   | str y=>exact atY R I h2
   | _=>exact nt h2
  | _=>exact nt h2
end
section
variable{G:Gx}{fs:List Fn}{sub:Nat→Nat→Bool}{k:Nat}{tb:Tab}{X:Cx}{g:Ga}{r:Rs}{st:Stmt}{a:IP.E}{i:Nat}
def aw5(f:Expr→Expr→Bool)(st:Stmt):Bool:=ap6 (fun e _=>anC (fun o m p l q=>keq m "extend"&&acz o&&(p.endLine==q.line)&&on1 (fun v=>aaB v&&f o v) l) e) st
theorem axU(R:Ss G fs sub k tb r)(I:In G fs sub k tb X g)(h:aw5 (fun o v=>agI (fun x _=>at? g i x&&aec g x) o&&r.o g v a) st=true):Vs G fs sub k X st (.ext i a):=by
 obtain⟨e,pos,rfl,h⟩:=aiB h
 obtain⟨o,m,p,l,q,rfl,h⟩:=aeK h
 obtain⟨h1,h4⟩:=aac h
 obtain⟨h2,h3⟩:=aac h1
 obtain⟨v,rfl,h5⟩:=abY h4
 obtain⟨h6,h7⟩:=aac h5
 obtain⟨x,xp,rfl,z⟩:=abA (aac h7).1
 cases abc (aac h2).1
 have hi:=aeZ I (aac z).1
 exact apk hi (ae3 I (aac z).2) (adn I hi).1 (adn I hi).2 (R.o I (aac h7).2) (aar h6) h3 (abM (aac h2).2) (aqD h6) (aoE rfl)
end
section
variable{G:Gx}{X:Cx}{C:Cf}{w w' w₀:Wo}{H H' H₀:Hp}{Q:VK}{a b e:Expr}{a' b' e':IP.E}{pos p p1 p2 cpos py:Pos}{i:Nat}{x y:Str}
theorem apA{k:Nat}(hcl:Cls X.K (G.iA k))(hk:InsK X.K (G.iA k))(hg:Gl X "isinstance")(hm:X.mg "isinstance"=none)(hgy:Gl X y)(hmy:X.mg y=some (.ref (G.iA k)))(hdy:(y==("__debug__":Str))=false)
  (ha:PE X a (tV G X C a')) (hs:starEach [a,.Name y py] X.env=[(false,eval a X.env),(false,eval (.Name y py) X.env)]):PE X (.Call (.Name "isinstance" p) [a,.Name y py] [] pos) (tV G X C (.isB a' k)):=by
 have hc:aaA X (.builtin "isinstance") (fun xs H Q=>∃v,xs=[v,.ref (G.iA k)]∧∃w s rx r,StoOk G w H s∧aaX G w H rx v∧anV s k rx=some r∧∀w' H' v,Le w w' H H'→StoOk G w' H' s→aaX G w' H' r v→Q v H'):=by
  rintro pins s σ H xs us Q I rv ⟨v,rfl,w,st,rx,r,S,R1,e,q⟩
  obtain⟨u,u',rfl,r1,r2⟩:=rv.two
  cases r2
  unfold anV at e
  split at e
  ·rename_i l
   split at e
   ·rename_i d fs hq
    split at e
    ·rename_i hd
     subst hd
     cases e
     obtain⟨hl,rfl⟩:=R1
     obtain⟨dx,kvs,z1,z2,z3⟩:=S.cell l _ hq
     exact aew I r1 (.ins z1 hcl hk.ca hk.sp hk.tk hk.mo) (by unfold PySem.W.kitOne;simp) fun tk=>⟨.bl _,H,I.tok tk,rfl,q w H _ (Le.refl _ _) S rfl⟩
    ·cases e
   ·cases e
  ·cases e
 refine PE.imp (adO hc hg hm (show bootBuiltins "isinstance"=some (.builtin "isinstance")by decide +kernel) (aa5 ha (aa5 (aje (v:=.ref (G.iA k)) hgy hmy rfl hdy) abb rfl) (by rw[hs];rfl)) (by decide) (by decide) (by rw[hs];rfl) rfl) ?_
 rintro σV H Q ⟨w₀,H₀,w,σ,s,g,h⟩
 have h:aa4 G X σV w H ((ev C a' .v σ s).bind fun y s1=>.of (anV s1 k y) s1) Q:=h
 refine⟨w₀,H₀,w,σ,s,g,(aa4.bind h).imp ?_⟩
 rintro v H1 ⟨w1,r1,s1,L1,S1,R1,h1⟩
 obtain⟨r,e,q⟩:=aa4.of h1
 exact⟨v,rfl,w1,s1,r1,r,S1,R1,e,q⟩
end
section
variable{G:Gx}{fs:List Fn}{sub:Nat→Nat→Bool}{k:Nat}{tb:Tab}{X:Cx}{g:Ga}{r:Rc}{e:Expr}{a b c d:IP.E}
def ari(r:Rc)(g:Ga)(e:Expr)(x:Str)(a:IP.E):Bool:=anC (fun o m p l q=>keq m "split"&&(acz o&&((p.endLine==q.line)&&(!(x.length==0)&&(r.v g o a&&on1 (fun v=>aaB v&&anN v (.str x)) l))))) e
theorem auS{x:Str}(R:Sd G fs sub k tb r)(I:In G fs sub k tb X g)(h:ari r g e x a=true):Vv G fs sub k X e (.splt x a):=by
 obtain⟨o,m,p,l,q,rfl,h⟩:=aeK h
 obtain⟨h1,h⟩:=aac h
 obtain⟨h2,h⟩:=aac h
 obtain⟨h3,h⟩:=aac h
 obtain⟨h4,h⟩:=aac h
 obtain⟨h5,h⟩:=aac h
 obtain⟨v,rfl,h6⟩:=abY h
 obtain⟨j,sp,rfl⟩:=aiM (aac h6).2
 cases abc h1
 exact amn ((Bool.not_eq_true' _).mp h4) (R.v I h5) (abM h2) (aqD (aac h6).1) h3 (aar (aac h6).1)
theorem auN(R:Sd G fs sub k tb r)(I:In G fs sub k tb X g)(h:kB1 r tb g "int" e a=true):Vv G fs sub k X e (.intS a):=by
 obtain⟨x,p,q,rfl,z,hg,hm,hs⟩:=aaR R I h
 exact aqY aqW hg hm (by rfl) (by decide) (by decide) z hs fun _ _=>rfl
theorem aur(R:Sd G fs sub k tb r)(I:In G fs sub k tb X g)(h:kB1 r tb g "len" e a=true):Vv G fs sub k X e (.lenS a):=by
 obtain⟨x,p,q,rfl,z,hg,hm,hs⟩:=aaR R I h
 exact sB1 ao5 hg hm (by rfl) (by decide) (by decide) z hs fun _ _=>rfl
def aqG(c:Nat):Option Gk→Bool|some (.cls d _)=>decide (d=c) | _=>false
theorem amo{c:Nat}{o:Option Gk}(h:aqG c o=true):∃i,o=some (.cls c i):=by
 cases o with
 | none=>exact nt h
 | some q=>cases q<;>first|exact nt h|(exact⟨_,by rw[of_decide_eq_true h]⟩)
def avS(r:Rc)(tb:Tab)(g:Ga)(e:Expr)(a:IP.E)(c:Nat):Bool:=tb.ib.contains c&&(decide (c<tb.nm.length)&&as6 r tb g e a fun y=>aqG c (ajD tb g y))
theorem ay8{c:Nat}(R:Sd G fs sub k tb r)(I:In G fs sub k tb X g)(h:avS r tb g e a c=true):Vv G fs sub k X e (.isB a c):=by
 obtain⟨h0,h⟩:=aac h
 obtain⟨h1,h⟩:=aac h
 obtain⟨x,y,py,p,q,rfl,v,h2,hg,hm,st⟩:=alD R I h
 obtain⟨i,hi⟩:=amo h2
 obtain⟨z1,⟨z2,_⟩,z3⟩:=aeO I hi
 obtain⟨_,hcl,_⟩:=I.hy.nm c _ (List.getElem?_eq_getElem (of_decide_eq_true h1))
 exact apA hcl (I.hy.ib c (List.contains_iff_mem.mp h0)) hg hm z1 z2 z3 v st
end
section
variable{G:Gx}{fs:List Fn}{sub:Nat→Nat→Bool}{k:Nat}{tb:Tab}{X:Cx}{g:Ga}{r:Rs}{st:Stmt}{a:IP.E}{i:Nat}
def aly(r:Rs)(g:Ga)(st:Stmt)(as:List S):Bool:=g.top&&atm (fun p d q z _=>q.isEmpty&&z.isEmpty&&r.s g p as&&!d.isEmpty) st
theorem api{as:List S}(R:Ss G fs sub k tb r)(I:In G fs sub k tb X g)(h:aly r g st as=true):Vs G fs sub k X st (.tryN as):=by
 obtain⟨h0,h⟩:=aac h
 obtain⟨body,d,q,z,pos,rfl,y⟩:=akY h
 obtain⟨y1,y2⟩:=aac y
 obtain⟨y3,h3⟩:=aac y1
 obtain⟨y4,y5⟩:=aac y3
 cases acO y4
 cases acO y5
 cases d with
 | nil=>exact nt y2
 | cons b₀ hs=>
  refine akH (I.st h0) fun E pn hE=>R.s (X:=adx X E pn) ?_ h3
  exact⟨I.N,I.nd,I.dn,I.sc,I.kd,I.fl,I.cm,I.hu,I.hr,I.fr,fun _=>hE,I.st,I.ex,I.hy⟩
end
section
variable{K:PySem.W.Frag}{el il:List Addr}
theorem g_ib{c:Nat}{a:Addr}(e:nE il c=a)(h:InsK K a):InsK K (nE il c):=by rw[e];exact h
end
end IP
end
noncomputable section
namespace IP
open PySem PySem.Spec L2
namespace Pg
def top(i:Nat):Stmt:=PySem.Challenge.pw_gradecut_k31_read_back.main.body.getD i (.Pass ⟨0,0,0,0⟩)
def ax4:List S:=[(.exp (.call 1 [(.var 1)] [])),
 (.ifs (.cmp .lt (.var 1) (.cst (.int 0))) [(.ret (.call 2 [(.var 0),(.sub (.var 0) (.cst (.int 4))),(.sub (.var 0) (.cst (.int 5))),(.neg (.var 1))] []))] []),
 (.ret (.call 2 [(.var 0),(.sub (.var 0) (.cst (.int 2))),(.sub (.var 0) (.cst (.int 3))),(.var 1)] []))]
abbrev ayA:Fn:=⟨2,2,false,ax4⟩
abbrev ayd:Nat:=1
def avN:List S:=[(.ifs (.or (.cmp .lt (.var 0) (.glb "LEAST" (-6))) (.cmp .gt (.var 0) (.glb "MOST" (6)))) [(.raise 1)] [])]
abbrev avm:Fn:=⟨1,1,false,avN⟩
def ay3:List S:=[(.ret (.tup [(.bin .add (.sub (.var 0) (.cst (.int 0))) (.bin .mul (.var 3) (.var 1))),(.bin .add (.sub (.var 0) (.cst (.int 1))) (.bin .mul (.var 3) (.var 2)))]))]
abbrev ay0:Fn:=⟨4,4,false,ay3⟩
abbrev iz5:Nat:=3
def bz5:List S:=[(.setF (.var 0) 0 0 (.cst (.int 0))),
 (.setF (.var 0) 0 1 (.cell (.lst []))),
 (.setF (.var 0) 0 2 (.cell (.lst []))),
 (.setF (.var 0) 0 3 (.cell (.lst [])))]
abbrev Fz5:Fn:=⟨1,1,false,bz5⟩
abbrev iz6:Nat:=4
abbrev al7:E:=(.lst [])
abbrev alm:E:=(.b1 .list (.var 5))
def bz6:List S:=[(.ifs (.cmp .ge (.b1 .len (.fld (.var 0) 0 1)) (.glb "MOST_PIECES" (10))) [(.raise 6)] []),
 (.asg 3 (.ife (.cmp .isN (.var 2) (.cst .non)) (.comp al7 (.one 4) (.var 1)) (.comp alm (.one 5) (.var 2)))),
 (.exp (.call 20 [(.var 1),(.var 3)] [])),
 (.appL (.fld (.var 0) 0 1) (.cell (.b1 .list (.var 1)))),
 (.appL (.fld (.var 0) 0 2) (.var 3)),
 (.ret (.bin .sub (.b1 .len (.fld (.var 0) 0 1)) (.cst (.int 1))))]
abbrev Fz6:Fn:=⟨3,6,false,bz6⟩
abbrev iz7:Nat:=5
def bz7:List S:=[(.ifs (.cmp .ge (.b1 .len (.fld (.var 0) 0 3)) (.glb "MOST_SEAMS" (30))) [(.raise 6)] []),
 (.asg 6 (.ife (.cmp .isN (.var 5) (.cst .non)) (.tup []) (.b1 .tuple (.var 5)))),
 (.exp (.meth (.var 0) 0 6 [(.var 1),(.var 2),(.var 6)] [])),
 (.exp (.call 23 [(.var 1),(.var 2),(.var 4),(.var 6)] [])),
 (.appL (.fld (.var 0) 0 3) (.tup [(.var 1),(.var 2),(.var 3),(.var 4),(.var 6)])),
 (.ret (.bin .sub (.b1 .len (.fld (.var 0) 0 3)) (.cst (.int 1))))]
abbrev Fz7:Fn:=⟨6,7,false,bz7⟩
abbrev iz9:Nat:=6
abbrev acw:List S:=[(.exp (.call 19 [(.sub (.var 6) (.cst (.int 0))),(.var 4)] [])),
 (.exp (.call 19 [(.sub (.var 6) (.cst (.int 1))),(.var 5)] []))]
def bz9:List S:=[(.asg 4 (.meth (.var 0) 0 14 [(.sub (.var 1) (.cst (.int 0))),(.sub (.var 1) (.cst (.int 1)))] [])),
 (.asg 5 (.meth (.var 0) 0 14 [(.sub (.var 2) (.cst (.int 0))),(.sub (.var 2) (.cst (.int 1)))] [])),
 (.for_ (.one 6) (.var 3) acw)]
abbrev Fz9:Fn:=⟨4,7,false,bz9⟩
abbrev awm:Nat:=7
def axe:List S:=[(.exp (.call 19 [(.var 1),(.fld (.var 0) 0 1)] [])),
 (.asg 5 (.sub (.fld (.var 0) 0 1) (.var 1))),
 (.exp (.call 19 [(.var 2),(.var 5)] [])),
 (.asg 6 (.tup [(.sub (.var 3) (.cst (.int 0))),(.sub (.var 3) (.cst (.int 1))),(.sub (.var 4) (.cst (.int 0))),(.sub (.var 4) (.cst (.int 1)))])),
 (.ifs (.not (.call 22 [(.var 6),(.glb "LONGEST_MOVE" (200))] [])) [(.raise 3)] []),
 (.putL (.var 5) (.var 2) (.bin .add (.cutU (.sub (.var 5) (.var 2)) (.cst (.int 2))) (.var 6)))]
abbrev av6:Fn:=⟨5,7,false,axe⟩
abbrev asm:Nat:=8
def axf:List S:=[(.ret (.meth (.var 0) 0 10 [(.var 1),(.var 1)] []))]
abbrev awR:Fn:=⟨2,2,false,axf⟩
abbrev asl:Nat:=9
def awV:List S:=[(.ret (.meth (.var 0) 0 10 [(.var 1),(.neg (.var 1))] []))]
abbrev axi:Fn:=⟨2,2,false,awV⟩
abbrev iz8:Nat:=10
def bz8:List S:=[(.ifs (.cmp .lt (.var 1) (.cst (.int 0))) [(.raise 1)] []),
 (.exp (.call 1 [(.bin .add (.fld (.var 0) 0 0) (.var 2))] [])),
 (.setF (.var 0) 0 0 (.bin .add (.fld (.var 0) 0 0) (.var 2))),
 (.ret (.fld (.var 0) 0 0))]
abbrev Fz8:Fn:=⟨3,3,false,bz8⟩
abbrev apw:Nat:=11
def axk:List S:=[(.ret (.b1 .len (.fld (.var 0) 0 1)))]
abbrev awk:Fn:=⟨1,1,false,axk⟩
abbrev arV:Nat:=12
def avE:List S:=[(.ret (.b1 .len (.fld (.var 0) 0 3)))]
abbrev awz:Fn:=⟨1,1,false,avE⟩
abbrev arK:Nat:=13
def axl:List S:=[(.exp (.call 19 [(.var 1),(.fld (.var 0) 0 1)] [])),
 (.ret (.b1 .list (.sub (.fld (.var 0) 0 1) (.var 1))))]
abbrev axo:Fn:=⟨2,2,false,axl⟩
abbrev aiL:Nat:=14
def arL:List S:=[(.exp (.call 19 [(.var 1),(.fld (.var 0) 0 2)] [])),
 (.exp (.call 19 [(.var 2),(.sub (.fld (.var 0) 0 2) (.var 1))] [])),
 (.ret (.b1 .list (.sub (.sub (.fld (.var 0) 0 2) (.var 1)) (.var 2))))]
abbrev arZ:Fn:=⟨3,3,false,arL⟩
abbrev ap3:Nat:=15
def axd:List S:=[(.exp (.call 19 [(.var 1),(.fld (.var 0) 0 3)] [])),
 (.asg 2 (.sub (.fld (.var 0) 0 3) (.var 1))),
 (.ret (.bin .add (.cutU (.var 2) (.cst (.int 4))) (.tup [(.b1 .list (.sub (.var 2) (.cst (.int 4))))])))]
abbrev avt:Fn:=⟨2,3,false,axd⟩
def axN:List S:=[(.ret (.meth (.var 0) 0 18 [(.meth (.var 0) 0 13 [(.var 1)] []),(.var 2)] []))]
abbrev ax9:Fn:=⟨3,3,false,axN⟩
def axB:List S:=[(.ret (.meth (.var 0) 0 18 [(.meth (.var 0) 0 14 [(.var 1),(.var 2)] []),(.var 3)] []))]
abbrev axt:Fn:=⟨4,4,false,axB⟩
abbrev anz:E:=(.call 0 [(.var 4),(.var 3)] [])
def axC:List S:=[(.asg 3 (.ife (.cmp .isN (.var 2) (.cst .non)) (.fld (.var 0) 0 0) (.var 2))),
 (.exp (.call 1 [(.var 3)] [])),
 (.ret (.comp anz (.one 4) (.var 1)))]
abbrev axM:Fn:=⟨3,5,false,axC⟩
abbrev awv:Nat:=19
def anD:List S:=[(.ifs (.or (.cmp .lt (.var 0) (.cst (.int 0))) (.cmp .ge (.var 0) (.b1 .len (.var 1)))) [(.raise 5)] [])]
abbrev at4:Fn:=⟨2,2,false,anD⟩
abbrev axG:Nat:=20
abbrev aj4:E:=(.cmp .gt (.b1 .len (.var 2)) (.glb "MOST_MARKS" (4)))
abbrev ajx:E:=(.call 21 [(.var 3)] [])
def avZ:List S:=[(.ifs (.or (.cmp .lt (.b1 .len (.var 0)) (.glb "LEAST_CORNERS" (3))) (.cmp .gt (.b1 .len (.var 0)) (.glb "MOST_CORNERS" (24)))) [(.raise 2)] []),
 (.ifs (.cmp .ne (.b1 .len (.var 1)) (.b1 .len (.var 0))) [(.raise 2)] []),
 (.ifs (.b1 .any (.comp aj4 (.one 2) (.var 1))) [(.raise 2)] []),
 (.ifs (.not (.b1 .all (.comp ajx (.one 3) (.bin .add (.lst [(.var 0)]) (.var 1))))) [(.raise 2)] [])]
abbrev asv:Fn:=⟨2,4,false,avZ⟩
abbrev ay2:Nat:=21
abbrev aiI:E:=(.and (.call 22 [(.cutU (.var 1) (.cst (.int 2))),(.glb "FARTHEST" (20000))] []) (.call 22 [(.cutL (.var 1) (.cst (.int 2))),(.glb "LONGEST_MOVE" (200))] []))
def awr:List S:=[(.ret (.b1 .all (.comp aiI (.one 1) (.var 0))))]
abbrev arF:Fn:=⟨1,2,false,awr⟩
abbrev axA:Nat:=22
abbrev ahE:E:=(.cmp .le (.b1 .abs (.var 2)) (.var 1))
def avr:List S:=[(.ret (.b1 .all (.comp ahE (.one 2) (.var 0))))]
abbrev arW:Fn:=⟨2,3,false,avr⟩
abbrev ax8:Nat:=23
def anI:List S:=[(.ifs (.cmp .eq (.var 0) (.var 1)) [(.raise 4)] []),
 (.ifs (.or (.cmp .lt (.var 2) (.cst (.int 0))) (.cmp .gt (.var 2) (.glb "MOST_EASE" (400)))) [(.raise 4)] []),
 (.ifs (.cmp .gt (.b1 .len (.var 3)) (.glb "MOST_PAIRS" (4))) [(.raise 4)] [])]
abbrev av7:Fn:=⟨4,4,false,anI⟩
abbrev aue:Nat:=24
abbrev af4:List S:=[(.ext 1 (.call 26 [(.var 0),(.var 2)] []))]
abbrev afI:List S:=[(.ext 1 (.call 27 [(.meth (.var 0) 0 15 [(.var 3)] [])] []))]
abbrev amB:E:=(.bin .add (.var 4) (.cst (.str "\n")))
def avz:List S:=[(.mk 1 (.lst [(.call 25 [(.cst (.str "gradecut")),(.lst [(.fld (.var 0) 0 0)])] [])])),
 (.for_ (.one 2) (.rng1 (.meth (.var 0) 0 11 [] [])) af4),
 (.for_ (.one 3) (.rng1 (.meth (.var 0) 0 12 [] [])) afI),
 (.app 1 (.cst (.str "end"))),
 (.ret (.join "" (.comp amB (.one 4) (.var 1))))]
abbrev ar9:Fn:=⟨1,5,false,avz⟩
abbrev aeP:Nat:=25
abbrev akI:E:=(.b1 .str (.var 2))
def arw:List S:=[(.ret (.join " " (.bin .add (.lst [(.var 0)]) (.comp akI (.one 2) (.var 1)))))]
abbrev aoA:Fn:=⟨2,3,false,arw⟩
abbrev aw8:Nat:=26
abbrev amw:E:=(.call 25 [(.cst (.str "mark")),(.var 5)] [])
abbrev aj0:List S:=[(.app 2 (.call 25 [(.cst (.str "corner")),(.var 4)] [])),
 (.ext 2 (.comp amw (.one 5) (.meth (.var 0) 0 14 [(.var 1),(.var 3)] [])))]
def awA:List S:=[(.mk 2 (.lst [(.cst (.str "piece"))])),
 (.for_ (.many [3,4]) (.enm (.meth (.var 0) 0 13 [(.var 1)] [])) aj0),
 (.retV 2)]
abbrev atc:Fn:=⟨2,6,true,awA⟩
abbrev av1:Nat:=27
abbrev aig:E:=(.call 25 [(.cst (.str "pair")),(.var 2)] [])
def awf:List S:=[(.asg 1 (.ife (.sub (.var 0) (.cst (.int 2))) (.cst (.str "turned")) (.cst (.str "straight")))),
 (.retO (.bin .add (.lst [(.call 25 [(.cst (.str "seam")),(.bin .add (.bin .add (.sub (.var 0) (.cst (.int 0))) (.sub (.var 0) (.cst (.int 1)))) (.tup [(.var 1),(.sub (.var 0) (.cst (.int 3)))]))] [])]) (.comp aig (.one 2) (.sub (.var 0) (.cst (.int 4))))))]
abbrev auk:Fn:=⟨1,3,true,awf⟩
abbrev aw0:Nat:=28
abbrev afR:List S:=[(.exp (.call 34 [(.var 1),(.new 1 29 2 [(.var 0)] [])] []))]
def aw7:List S:=[(.asg 1 (.new 0 3 4 [] [])),
 (.tryN afR),
 (.ifs (.cmp .ne (.call 24 [(.var 1)] []) (.var 0)) [(.raise 7)] []),
 (.ret (.var 1))]
abbrev arJ:Fn:=⟨1,2,false,aw7⟩
abbrev arH:Nat:=29
abbrev adZ:E:=(.splt " " (.var 2))
def atX:List S:=[(.setF (.var 0) 1 0 (.comp adZ (.one 2) (.splt "\n" (.var 1)))),
 (.setF (.var 0) 1 1 (.cst (.int 0)))]
abbrev alh:Fn:=⟨2,3,false,atX⟩
abbrev ahw:Nat:=30
def au2:List S:=[(.ret (.and (.cmp .lt (.fld (.var 0) 1 1) (.b1 .len (.fld (.var 0) 1 0))) (.cmp .eq (.sub (.sub (.fld (.var 0) 1 0) (.fld (.var 0) 1 1)) (.cst (.int 0))) (.var 1))))]
abbrev atB:Fn:=⟨2,2,false,au2⟩
abbrev atR:Nat:=31
def arR:List S:=[(.ifs (.or (.not (.meth (.var 0) 1 30 [(.var 1)] [])) (.cmp .ne (.b1 .len (.sub (.fld (.var 0) 1 0) (.fld (.var 0) 1 1))) (.bin .add (.var 2) (.cst (.int 1))))) [(.raise 7)] []),
 (.setF (.var 0) 1 1 (.bin .add (.fld (.var 0) 1 1) (.cst (.int 1)))),
 (.ret (.cutL (.sub (.fld (.var 0) 1 0) (.bin .sub (.fld (.var 0) 1 1) (.cst (.int 1)))) (.cst (.int 1))))]
abbrev anu:Fn:=⟨3,3,false,arR⟩
abbrev arU:Nat:=32
abbrev alT:E:=(.call 33 [(.var 3)] [])
def av0:List S:=[(.ret (.b1 .tuple (.comp alT (.one 3) (.meth (.var 0) 1 31 [(.var 1),(.var 2)] []))))]
abbrev asT:Fn:=⟨3,4,false,av0⟩
abbrev asL:Nat:=33
abbrev adY:List S:=[(.ret (.intS (.var 0)))]
def awp:List S:=[(.ifs (.cmp .gt (.lenS (.var 0)) (.glb "MOST_SIGNS" (6))) [(.raise 7)] []),
 (.tryN adY)]
abbrev aj9:Fn:=⟨1,1,false,awp⟩
abbrev awj:Nat:=34
abbrev afk:List S:=[(.exp (.call 35 [(.var 0),(.var 1)] []))]
abbrev afo:List S:=[(.exp (.call 36 [(.var 0),(.var 1)] []))]
def awL:List S:=[(.asg 2 (.sub (.meth (.var 1) 1 32 [(.cst (.str "gradecut")),(.cst (.int 1))] []) (.cst (.int 0)))),
 (.ifs (.cmp .lt (.var 2) (.cst (.int 0))) [(.exp (.meth (.var 0) 0 9 [(.neg (.var 2))] []))] [(.exp (.meth (.var 0) 0 8 [(.var 2)] []))]),
 (.whl (.meth (.var 1) 1 30 [(.cst (.str "piece"))] []) afk),
 (.whl (.meth (.var 1) 1 30 [(.cst (.str "seam"))] []) afo)]
abbrev apv:Fn:=⟨2,3,false,awL⟩
abbrev awd:Nat:=35
abbrev af6:List S:=[(.app 2 (.meth (.var 1) 1 32 [(.cst (.str "corner")),(.glb "SPOT_NUMBERS" (6))] [])),
 (.app 3 (.call 37 [(.var 1),(.cst (.str "mark")),(.glb "SPOT_NUMBERS" (6))] []))]
def awu:List S:=[(.exp (.meth (.var 1) 1 31 [(.cst (.str "piece")),(.cst (.int 0))] [])),
 (.mk 2 (.lst [])),
 (.mk 3 (.lst [])),
 (.whl (.meth (.var 1) 1 30 [(.cst (.str "corner"))] []) af6),
 (.frz 2),
 (.frz 3),
 (.exp (.meth (.var 0) 0 4 [(.var 2),(.var 3)] []))]
abbrev atV:Fn:=⟨2,4,false,awu⟩
abbrev avK:Nat:=36
abbrev ahN:E:=(.call 33 [(.var 5)] [])
def avg:List S:=[(.asg 2 (.meth (.var 1) 1 31 [(.cst (.str "seam")),(.glb "SEAM_WORDS" (6))] [])),
 (.asg 3 (.comp ahN (.one 5) (.bin .add (.cutU (.var 2) (.cst (.int 4))) (.cutL (.var 2) (.cst (.int 5)))))),
 (.asg 4 (.call 37 [(.var 1),(.cst (.str "pair")),(.glb "PAIR_NUMBERS" (2))] [])),
 (.exp (.meth (.var 0) 0 5 [(.tup [(.sub (.var 3) (.cst (.int 0))),(.sub (.var 3) (.cst (.int 1)))]),(.tup [(.sub (.var 3) (.cst (.int 2))),(.sub (.var 3) (.cst (.int 3)))]),(.cmp .eq (.sub (.var 2) (.cst (.int 4))) (.cst (.str "turned"))),(.sub (.var 3) (.cst (.int 4))),(.var 4)] []))]
abbrev auT:Fn:=⟨2,6,false,avg⟩
abbrev asF:Nat:=37
abbrev ah4:List S:=[(.app 3 (.meth (.var 0) 1 32 [(.var 1),(.var 2)] []))]
def awB:List S:=[(.mk 3 (.lst [])),
 (.whl (.meth (.var 0) 1 30 [(.var 1)] []) ah4),
 (.frz 3),
 (.ret (.var 3))]
abbrev asO:Fn:=⟨3,4,false,awB⟩
abbrev at6:Nat:=38
def awW:List S:=[(.ret (.and (.isi (.var 0) .int) (.not (.isi (.var 0) .bool))))]
abbrev awb:Fn:=⟨1,1,false,awW⟩
abbrev ayB:Nat:=39
def atW:List S:=[(.ifs (.cmp .lt (.var 1) (.b1 .len (.var 0))) [(.ret (.sub (.var 0) (.var 1)))] []),
 (.ret (.cst (.int 0)))]
abbrev avB:Fn:=⟨2,2,false,atW⟩
abbrev axm:Nat:=40
abbrev ahQ:List S:=[(.asg 2 (.bin .mod (.bin .add (.bin .add (.bin .mul (.var 2) (.cst (.int 48271))) (.call 39 [(.var 0),(.var 4)] [])) (.cst (.int 11))) (.cst (.int 2147483647)))),
 (.app 3 (.var 2))]
def av9:List S:=[(.asg 2 (.cst (.int 7))),
 (.mk 3 (.lst [])),
 (.for_ (.one 4) (.rng1 (.var 1)) ahQ),
 (.frz 3),
 (.ret (.var 3))]
abbrev atT:Fn:=⟨2,5,false,av9⟩
abbrev arl:Nat:=41
abbrev aim:List S:=[(.ifs (.or (.not (.call 38 [(.sub (.var 0) (.var 2))] [])) (.cmp .ne (.sub (.var 0) (.var 2)) (.sub (.var 1) (.var 2)))) [(.ret (.cst (.bl false)))] [])]
def avA:List S:=[(.ifs (.or (.not (.isi (.var 0) .tuple)) (.cmp .ne (.b1 .len (.var 0)) (.b1 .len (.var 1)))) [(.ret (.cst (.bl false)))] []),
 (.for_ (.one 2) (.rng1 (.b1 .len (.var 1))) aim),
 (.ret (.cst (.bl true)))]
abbrev atr:Fn:=⟨2,3,false,avA⟩
abbrev amT:Nat:=42
abbrev aiV:List S:=[(.ifs (.not (.call 41 [(.sub (.var 0) (.var 2)),(.sub (.var 1) (.var 2))] [])) [(.ret (.cst (.bl false)))] [])]
def aw1:List S:=[(.ifs (.or (.not (.isi (.var 0) .list)) (.cmp .ne (.b1 .len (.var 0)) (.b1 .len (.var 1)))) [(.ret (.cst (.bl false)))] []),
 (.for_ (.one 2) (.rng1 (.b1 .len (.var 1))) aiV),
 (.ret (.cst (.bl true)))]
abbrev atd:Fn:=⟨2,3,false,aw1⟩
abbrev apI:Nat:=43
abbrev af3:List S:=[(.asg 5 (.bin .mod (.bin .add (.bin .mul (.var 5) (.cst (.int 48271))) (.cst (.int 11))) (.cst (.int 2147483647)))),
 (.app 7 (.bin .sub (.bin .mod (.var 5) (.bin .add (.bin .mul (.cst (.int 2)) (.var 8)) (.cst (.int 1)))) (.var 8)))]
abbrev ail:List S:=[(.mk 7 (.lst [])),
 (.for_ (.one 8) (.lst [(.var 2),(.var 2),(.var 3),(.var 3),(.var 3),(.var 3)]) af3),
 (.app 4 (.b1 .tuple (.var 7)))]
def avs:List S:=[(.mk 4 (.lst [])),
 (.asg 5 (.bin .mod (.var 0) (.cst (.int 2147483647)))),
 (.for_ (.one 6) (.rng1 (.var 1)) ail),
 (.frz 4),
 (.ret (.var 4))]
abbrev as8:Fn:=⟨4,9,false,avs⟩
abbrev auH:Nat:=44
def awY:List S:=[(.ret (.bin .mod (.bin .add (.bin .mul (.var 0) (.cst (.int 48271))) (.cst (.int 11))) (.cst (.int 2147483647))))]
abbrev av2:Fn:=⟨1,1,false,awY⟩
abbrev avQ:Nat:=45
abbrev afv:E:=(.call 43 [(.bin .add (.bin .add (.var 0) (.cst (.int 1))) (.var 4)),(.bin .mod (.bin .fdiv (.bin .fdiv (.var 0) (.cst (.int 44))) (.bin .add (.var 4) (.cst (.int 1)))) (.cst (.int 5))),(.cst (.int 20000)),(.cst (.int 200))] [])
def aqZ:List S:=[(.asg 1 (.bin .add (.cst (.int 3)) (.bin .mod (.var 0) (.cst (.int 4))))),
 (.ifs (.cmp .eq (.bin .mod (.bin .fdiv (.var 0) (.cst (.int 4))) (.cst (.int 11))) (.cst (.int 1))) [(.asg 1 (.cst (.int 24)))] []),
 (.asg 2 (.call 43 [(.var 0),(.var 1),(.cst (.int 20000)),(.cst (.int 200))] [])),
 (.asg 3 (.comp afv (.one 4) (.rng1 (.var 1)))),
 (.ret (.lst [(.var 2),(.var 3)]))]
abbrev arQ:Fn:=⟨1,5,false,aqZ⟩
abbrev au9:Nat:=46
abbrev adE:List S:=[(.app 9 (.tup [(.bin .mod (.bin .add (.bin .fdiv (.var 0) (.cst (.int 1200))) (.var 10)) (.var 7)),(.bin .mod (.bin .add (.bin .fdiv (.var 1) (.cst (.int 240))) (.var 10)) (.var 8))]))]
def axa:List S:=[(.asg 3 (.bin .mod (.var 0) (.b1 .len (.var 2)))),
 (.asg 4 (.bin .mod (.var 1) (.b1 .len (.var 2)))),
 (.asg 5 (.bin .mod (.bin .fdiv (.var 0) (.cst (.int 10))) (.b1 .len (.sub (.sub (.var 2) (.var 3)) (.cst (.int 0)))))),
 (.asg 6 (.bin .mod (.bin .fdiv (.var 1) (.cst (.int 10))) (.b1 .len (.sub (.sub (.var 2) (.var 4)) (.cst (.int 0)))))),
 (.ifs (.and (.cmp .eq (.var 3) (.var 4)) (.cmp .eq (.var 5) (.var 6))) [(.asg 6 (.bin .mod (.bin .add (.var 5) (.cst (.int 1))) (.b1 .len (.sub (.sub (.var 2) (.var 4)) (.cst (.int 0))))))] []),
 (.asg 7 (.b1 .len (.sub (.sub (.sub (.var 2) (.var 3)) (.cst (.int 1))) (.var 5)))),
 (.asg 8 (.b1 .len (.sub (.sub (.sub (.var 2) (.var 4)) (.cst (.int 1))) (.var 6)))),
 (.mk 9 (.lst [])),
 (.ifs (.and (.cmp .gt (.var 7) (.cst (.int 0))) (.cmp .gt (.var 8) (.cst (.int 0)))) [(.for_ (.one 10) (.rng1 (.bin .mod (.bin .fdiv (.var 0) (.cst (.int 240))) (.cst (.int 5)))) adE)] []),
 (.frz 9),
 (.ret (.tup [(.tup [(.var 3),(.var 5)]),(.tup [(.var 4),(.var 6)]),(.cmp .eq (.bin .mod (.bin .fdiv (.var 0) (.cst (.int 5000))) (.cst (.int 2))) (.cst (.int 1))),(.bin .mod (.bin .fdiv (.var 1) (.cst (.int 1000))) (.cst (.int 401))),(.var 9)]))]
abbrev atS:Fn:=⟨3,11,false,axa⟩
abbrev awg:Nat:=47
abbrev aiC:E:=(.call 45 [(.sub (.var 0) (.bin .add (.var 1) (.var 8)))] [])
abbrev aiR:List S:=[(.asg 7 (.sub (.var 0) (.bin .add (.bin .add (.var 1) (.var 2)) (.var 6)))),
 (.app 5 (.call 46 [(.var 7),(.call 44 [(.var 7)] []),(.var 4)] []))]
def avI:List S:=[(.asg 4 (.comp aiC (.one 8) (.rng1 (.var 2)))),
 (.mk 5 (.lst [])),
 (.for_ (.one 6) (.rng1 (.var 3)) aiR),
 (.frz 5),
 (.ret (.lst [(.var 4),(.var 5)]))]
abbrev auV:Fn:=⟨4,9,false,avI⟩
abbrev auw:Nat:=48
def awT:List S:=[(.ifs (.or (.not (.isi (.var 0) .tuple)) (.cmp .ne (.b1 .len (.var 0)) (.cst (.int 5)))) [(.ret (.cst (.bl false)))] []),
 (.ifs (.or (.not (.call 41 [(.sub (.var 0) (.cst (.int 0))),(.sub (.var 1) (.cst (.int 0)))] [])) (.not (.call 41 [(.sub (.var 0) (.cst (.int 1))),(.sub (.var 1) (.cst (.int 1)))] []))) [(.ret (.cst (.bl false)))] []),
 (.ifs (.or (.not (.isi (.sub (.var 0) (.cst (.int 2))) .bool)) (.cmp .ne (.sub (.var 0) (.cst (.int 2))) (.sub (.var 1) (.cst (.int 2))))) [(.ret (.cst (.bl false)))] []),
 (.ret (.and (.call 38 [(.sub (.var 0) (.cst (.int 3)))] []) (.and (.cmp .eq (.sub (.var 0) (.cst (.int 3))) (.sub (.var 1) (.cst (.int 3)))) (.call 42 [(.sub (.var 0) (.cst (.int 4))),(.sub (.var 1) (.cst (.int 4)))] []))))]
abbrev atw:Fn:=⟨2,2,false,awT⟩
abbrev at9:Nat:=49
abbrev afE:List S:=[(.ifs (.not (.call 42 [(.meth (.var 0) 0 14 [(.var 4),(.var 7)] []),(.sub (.var 6) (.var 7))] [])) [(.ret (.cst (.bl false)))] [])]
abbrev af7:List S:=[(.asgT [5,6] (.sub (.sub (.var 1) (.cst (.int 0))) (.var 4))),
 (.ifs (.not (.call 42 [(.meth (.var 0) 0 13 [(.var 4)] []),(.var 5)] [])) [(.ret (.cst (.bl false)))] []),
 (.for_ (.one 7) (.rng1 (.b1 .len (.var 5))) afE)]
abbrev afz:List S:=[(.ifs (.not (.call 48 [(.meth (.var 0) 0 15 [(.var 4)] []),(.sub (.sub (.var 1) (.cst (.int 1))) (.var 4))] [])) [(.ret (.cst (.bl false)))] [])]
def axp:List S:=[(.asg 3 (.tup [(.meth (.var 0) 0 11 [] []),(.meth (.var 0) 0 12 [] []),(.fld (.var 0) 0 0)])),
 (.ifs (.not (.call 41 [(.var 3),(.tup [(.b1 .len (.sub (.var 1) (.cst (.int 0)))),(.b1 .len (.sub (.var 1) (.cst (.int 1)))),(.var 2)])] [])) [(.ret (.cst (.bl false)))] []),
 (.for_ (.one 4) (.rng1 (.b1 .len (.sub (.var 1) (.cst (.int 0))))) af7),
 (.for_ (.one 4) (.rng1 (.b1 .len (.sub (.var 1) (.cst (.int 1))))) afz),
 (.ret (.cst (.bl true)))]
abbrev att:Fn:=⟨3,8,false,axp⟩
abbrev amN:Nat:=50
abbrev am0:E:=(.b1 .str (.var 2))
def ay6:List S:=[(.ret (.join " " (.bin .add (.lst [(.var 0)]) (.comp am0 (.one 2) (.var 1)))))]
abbrev aws:Fn:=⟨2,3,false,ay6⟩
abbrev avD:Nat:=51
abbrev af5:List S:=[(.app 2 (.call 50 [(.cst (.str "mark")),(.var 6)] []))]
abbrev afj:List S:=[(.app 2 (.call 50 [(.cst (.str "corner")),(.sub (.var 3) (.var 5))] [])),
 (.for_ (.one 6) (.sub (.var 4) (.var 5)) af5)]
abbrev afr:List S:=[(.app 2 (.cst (.str "piece"))),
 (.for_ (.one 5) (.rng1 (.b1 .len (.var 3))) afj)]
abbrev afV:List S:=[(.app 2 (.call 50 [(.cst (.str "pair")),(.var 13)] []))]
abbrev af0:List S:=[(.asg 12 (.call 50 [(.cst (.str "seam")),(.lst [(.sub (.var 7) (.cst (.int 0))),(.sub (.var 7) (.cst (.int 1))),(.sub (.var 8) (.cst (.int 0))),(.sub (.var 8) (.cst (.int 1)))])] [])),
 (.app 2 (.bin .add (.bin .add (.var 12) (.sub (.lst [(.cst (.str " straight ")),(.cst (.str " turned "))]) (.b1 .int (.var 9)))) (.b1 .str (.var 10)))),
 (.for_ (.one 13) (.var 11) afV)]
def avU:List S:=[(.mk 2 (.lst [(.call 50 [(.cst (.str "gradecut")),(.lst [(.var 1)])] [])])),
 (.for_ (.many [3,4]) (.sub (.var 0) (.cst (.int 0))) afr),
 (.for_ (.many [7,8,9,10,11]) (.sub (.var 0) (.cst (.int 1))) af0),
 (.ret (.bin .add (.var 2) (.lst [(.cst (.str "end"))])))]
abbrev asb:Fn:=⟨2,14,false,avU⟩
abbrev avW:Nat:=52
abbrev alN:E:=(.bin .add (.var 1) (.cst (.str "\n")))
def axD:List S:=[(.ret (.join "" (.comp alN (.one 1) (.var 0))))]
abbrev awe:Fn:=⟨1,2,false,axD⟩
abbrev axc:Nat:=53
abbrev am9:List S:=[(.asg 1 (.call 28 [(.var 0)] []))]
abbrev ana:List S:=[(.asg 1 (.cst .non))]
def asG:List S:=[(.asg 1 (.cst .non)),
 (.try_ am9 0 none ana),
 (.ret (.var 1))]
abbrev arG:Fn:=⟨1,2,false,asG⟩
abbrev aua:Nat:=54
def aii:List S:=[(.asg 1 (.call 40 [(.var 0),(.cst (.int 46))] [])),
 (.asg 2 (.sub (.lst [(.bin .mod (.sub (.var 1) (.cst (.int 0))) (.cst (.int 5))),(.cst (.int 9))]) (.b1 .int (.cmp .eq (.bin .mod (.bin .fdiv (.sub (.var 1) (.cst (.int 0))) (.cst (.int 5))) (.cst (.int 8))) (.cst (.int 1)))))),
 (.asg 3 (.bin .mul (.sub (.lst [(.bin .mod (.sub (.var 1) (.cst (.int 1))) (.cst (.int 9))),(.cst (.int 30))]) (.b1 .int (.cmp .eq (.bin .mod (.bin .fdiv (.sub (.var 1) (.cst (.int 1))) (.cst (.int 9))) (.cst (.int 8))) (.cst (.int 1))))) (.b1 .int (.cmp .gt (.var 2) (.cst (.int 0)))))),
 (.asg 4 (.call 47 [(.var 1),(.cst (.int 4)),(.var 2),(.var 3)] [])),
 (.asg 5 (.bin .sub (.bin .mod (.sub (.var 1) (.cst (.int 2))) (.cst (.int 13))) (.cst (.int 6)))),
 (.asg 6 (.call 52 [(.call 51 [(.var 4),(.var 5)] [])] [])),
 (.asg 7 (.call 53 [(.var 6)] [])),
 (.asg 8 (.call 53 [(.var 6)] [])),
 (.ifs (.or (.not (.isB (.var 7) 0)) (.not (.isB (.var 8) 0))) [(.ret (.cst (.bl false)))] []),
 (.ifs (.or (.not (.call 49 [(.var 7),(.var 4),(.var 5)] [])) (.not (.call 49 [(.var 8),(.var 4),(.var 5)] []))) [(.ret (.cst (.bl false)))] []),
 (.exp (.meth (.var 7) 0 4 [(.call 43 [(.sub (.var 1) (.cst (.int 3))),(.cst (.int 3)),(.cst (.int 20000)),(.cst (.int 200))] [])] [.non])),
 (.exp (.meth (.var 7) 0 7 [(.cst (.int 0)),(.cst (.int 1)),(.tup [(.cst (.int 1)),(.cst (.int 2))]),(.tup [(.cst (.int 3)),(.cst (.int 4))])] [])),
 (.ret (.and (.cmp .eq (.meth (.var 7) 0 11 [] []) (.bin .add (.var 2) (.cst (.int 1)))) (.call 49 [(.var 8),(.var 4),(.var 5)] [])))]
abbrev ajp:Fn:=⟨1,9,false,aii⟩
def fns:List Fn:=ayA::avm::ay0::Fz5::Fz6::Fz7::Fz9::av6::awR::axi::Fz8::awk::awz::axo::arZ::avt::ax9::axt::axM::at4::asv::arF::arW::av7::ar9::aoA::atc::auk::arJ::alh::atB::anu::asT::aj9::apv::atV::auT::asO::awb::avB::atT::atr::atd::as8::av2::arQ::atS::auV::atw::att::aws::asb::awe::arG::ajp::[]
abbrev xz2:Nat:=4
abbrev ai5:Nat:=5
def rows0:List (List Bool):=[[true,false,false,false,false,false,false,false],[true,true,false,false,false,false,false,false],[true,false,true,false,false,false,false,false],[true,false,false,true,false,false,false,false],[true,false,false,false,true,false,false,false],[true,false,false,false,false,true,false,false],[true,false,false,false,false,false,true,false],[true,false,false,false,false,false,false,true]]
def sub0:Nat→Nat→Bool:=awc rows0
def dis:List DI:=⟨top 12,"place","place",["spot","size"],["spot","size"]⟩ ::
 ⟨top 13,"check_size","check_size",["size"],["size"]⟩ ::
 ⟨top 14,"moved","moved",["spot","across","up","steps"],["spot","across","up","steps"]⟩ ::
 ⟨L2.inClass (top 25) 0,"__init__","Book.__init__",["self"],["self"]⟩ ::
 ⟨L2.inClass (top 25) 1,"add_piece","Book.add_piece",["self","corners","marks","by_side","?4","?5"],["self","corners","marks"]⟩ ::
 ⟨L2.inClass (top 25) 2,"add_seam","Book.add_seam",["self","first","second","turned","ease","pairs","own_pairs"],["self","first","second","turned","ease","pairs"]⟩ ::
 ⟨L2.inClass (top 25) 3,"check_pairs","Book.check_pairs",["self","first","second","pairs","first_marks","second_marks","pair"],["self","first","second","pairs"]⟩ ::
 ⟨L2.inClass (top 25) 4,"set_moves","Book.set_moves",["self","piece","corner","greater","lesser","spots","moves"],["self","piece","corner","greater","lesser"]⟩ ::
 ⟨L2.inClass (top 25) 5,"let_out","Book.let_out",["self","steps"],["self","steps"]⟩ ::
 ⟨L2.inClass (top 25) 6,"take_in","Book.take_in",["self","steps"],["self","steps"]⟩ ::
 ⟨L2.inClass (top 25) 7,"change_size","Book.change_size",["self","steps","change"],["self","steps","change"]⟩ ::
 ⟨L2.inClass (top 25) 8,"piece_count","Book.piece_count",["self"],["self"]⟩ ::
 ⟨L2.inClass (top 25) 9,"seam_count","Book.seam_count",["self"],["self"]⟩ ::
 ⟨L2.inClass (top 25) 10,"spots","Book.spots",["self","piece"],["self","piece"]⟩ ::
 ⟨L2.inClass (top 25) 11,"mark_spots","Book.mark_spots",["self","piece","side"],["self","piece","side"]⟩ ::
 ⟨L2.inClass (top 25) 12,"seam","Book.seam",["self","number","kept"],["self","number"]⟩ ::
 ⟨L2.inClass (top 25) 13,"corners","Book.corners",["self","piece","size"],["self","piece","size"]⟩ ::
 ⟨L2.inClass (top 25) 14,"marks","Book.marks",["self","piece","side","size"],["self","piece","side","size"]⟩ ::
 ⟨L2.inClass (top 25) 15,"places","Book.places",["self","spots","size","meant","?4"],["self","spots","size"]⟩ ::
 ⟨top 26,"check_there","check_there",["number","those"],["number","those"]⟩ ::
 ⟨top 27,"check_piece","check_piece",["corners","by_side","?2","?3"],["corners","by_side"]⟩ ::
 ⟨top 28,"spots_fit","spots_fit",["spots","?1"],["spots"]⟩ ::
 ⟨top 29,"all_within","all_within",["numbers","bound","?2"],["numbers","bound"]⟩ ::
 ⟨top 30,"check_seam","check_seam",["first","second","ease","pairs"],["first","second","ease","pairs"]⟩ ::
 ⟨top 36,"write","write",["book","rows","piece","seam","?4"],["book"]⟩ ::
 ⟨top 37,"row","row",["word","those","?2"],["word","those"]⟩ ::
 ⟨top 38,"piece_rows","piece_rows",["book","piece","rows","corner","spot","?5"],["book","piece"]⟩ ::
 ⟨top 39,"seam_rows","seam_rows",["told","way","?2"],["told"]⟩ ::
 ⟨top 40,"read","read",["text","book"],["text"]⟩ ::
 ⟨L2.inClass (top 41) 0,"__init__","Rows.__init__",["self","text","?2"],["self","text"]⟩ ::
 ⟨L2.inClass (top 41) 1,"begins","Rows.begins",["self","word"],["self","word"]⟩ ::
 ⟨L2.inClass (top 41) 2,"take","Rows.take",["self","word","count"],["self","word","count"]⟩ ::
 ⟨L2.inClass (top 41) 3,"take_numbers","Rows.take_numbers",["self","word","count","?3"],["self","word","count"]⟩ ::
 ⟨top 42,"number_of","number_of",["word"],["word"]⟩ ::
 ⟨top 43,"fill","fill",["book","rows","size"],["book","rows"]⟩ ::
 ⟨top 44,"read_piece","read_piece",["book","rows","corners","marks"],["book","rows"]⟩ ::
 ⟨top 45,"read_seam","read_seam",["book","rows","words","numbers","pairs","?5"],["book","rows"]⟩ ::
 ⟨top 46,"read_those","read_those",["rows","word","count","those"],["rows","word","count"]⟩ ::
 ⟨top 48,"_law_whole","_law_whole",["_law_found"],["_law_found"]⟩ ::
 ⟨top 49,"_law_at","_law_at",["_law_script","_law_k"],["_law_script","_law_k"]⟩ ::
 ⟨top 50,"_law_stir","_law_stir",["_law_script","_law_many","_law_state","_law_row","_law_k"],["_law_script","_law_many"]⟩ ::
 ⟨top 51,"_law_numbers","_law_numbers",["_law_found","_law_due","_law_k"],["_law_found","_law_due"]⟩ ::
 ⟨top 52,"_law_rows","_law_rows",["_law_found","_law_due","_law_k"],["_law_found","_law_due"]⟩ ::
 ⟨top 53,"_law_spots","_law_spots",["_law_seed","_law_many","_law_far","_law_step","_law_told","_law_state","_law_k","_law_spot","_law_most"],["_law_seed","_law_many","_law_far","_law_step"]⟩ ::
 ⟨top 54,"_law_next","_law_next",["_law_state"],["_law_state"]⟩ ::
 ⟨top 55,"_law_planned_piece","_law_planned_piece",["_law_d","_law_many","_law_corners","_law_marks","?4"],["_law_d"]⟩ ::
 ⟨top 56,"_law_planned_seam","_law_planned_seam",["_law_d","_law_e","_law_pieces","_law_p","_law_q","_law_i","_law_j","_law_here","_law_there","_law_pairs","_law_n"],["_law_d","_law_e","_law_pieces"]⟩ ::
 ⟨top 57,"_law_plan","_law_plan",["_law_row","_law_at_here","_law_count","_law_sewn","_law_pieces","_law_seams","_law_k","_law_d","?8"],["_law_row","_law_at_here","_law_count","_law_sewn"]⟩ ::
 ⟨top 58,"_law_same_seam","_law_same_seam",["_law_found","_law_parts"],["_law_found","_law_parts"]⟩ ::
 ⟨top 59,"_law_stands","_law_stands",["_law_book","_law_plan_here","_law_size","_law_counts","_law_k","_law_corners","_law_marks","_law_side"],["_law_book","_law_plan_here","_law_size"]⟩ ::
 ⟨top 60,"_law_line","_law_line",["_law_word","_law_numbers_here","?2"],["_law_word","_law_numbers_here"]⟩ ::
 ⟨top 61,"_law_lines","_law_lines",["_law_plan_here","_law_size","_law_lines_here","_law_corners","_law_marks","_law_k","_law_mark","_law_first","_law_second","_law_flip","_law_ease","_law_pairs","_law_ends","_law_pair"],["_law_plan_here","_law_size"]⟩ ::
 ⟨top 62,"_law_text","_law_text",["_law_lines_here","?1"],["_law_lines_here"]⟩ ::
 ⟨top 63,"_law_reads","_law_reads",["_law_text_here","_law_told"],["_law_text_here"]⟩ ::
 ⟨top 64,"law","law",["_law_script","_law_row","_law_count","_law_sewn","_law_plan_here","_law_size","_law_told","_law_one","_law_two"],["_law_script"]⟩ ::
 []
def tb:Tab:=⟨("GradeError",.exc 0)::("BadSize",.exc 1)::("BadPiece",.exc 2)::("BadMove",.exc 3)::("BadSeam",.exc 4)::("NoSuch",.exc 5)::("Full",.exc 6)::("BadText",.exc 7)::("Book",.cls 0 3)::("Rows",.cls 1 29)::("place",.fn 0)::("check_size",.fn 1)::("moved",.fn 2)::("check_there",.fn 19)::("check_piece",.fn 20)::("spots_fit",.fn 21)::("all_within",.fn 22)::("check_seam",.fn 23)::("write",.fn 24)::("row",.fn 25)::("piece_rows",.fn 26)::("seam_rows",.fn 27)::("read",.fn 28)::("number_of",.fn 33)::("fill",.fn 34)::("read_piece",.fn 35)::("read_seam",.fn 36)::("read_those",.fn 37)::("_law_whole",.fn 38)::("_law_at",.fn 39)::("_law_stir",.fn 40)::("_law_numbers",.fn 41)::("_law_rows",.fn 42)::("_law_spots",.fn 43)::("_law_next",.fn 44)::("_law_planned_piece",.fn 45)::("_law_planned_seam",.fn 46)::("_law_plan",.fn 47)::("_law_same_seam",.fn 48)::("_law_stands",.fn 49)::("_law_line",.fn 50)::("_law_lines",.fn 51)::("_law_text",.fn 52)::("_law_reads",.fn 53)::("law",.fn 54)::("LEAST",.int (-6))::("MOST",.int 6)::("MOST_PIECES",.int 10)::("LEAST_CORNERS",.int 3)::("MOST_CORNERS",.int 24)::("MOST_MARKS",.int 4)::("FARTHEST",.int 20000)::("LONGEST_MOVE",.int 200)::("MOST_SEAMS",.int 30)::("MOST_EASE",.int 400)::("MOST_PAIRS",.int 4)::("SPOT_NUMBERS",.int 6)::("SEAM_WORDS",.int 6)::("PAIR_NUMBERS",.int 2)::("MOST_SIGNS",.int 6)::("abs",.blt)::("all",.blt)::("any",.blt)::("bool",.blt)::("enumerate",.blt)::("int",.blt)::("isinstance",.blt)::("len",.blt)::("list",.blt)::("range",.blt)::("str",.blt)::("tuple",.blt)::[],
 [("add_piece",0,4),("add_seam",0,5),("check_pairs",0,6),("set_moves",0,7),("let_out",0,8),("take_in",0,9),("change_size",0,10),("piece_count",0,11),("seam_count",0,12),("spots",0,13),("mark_spots",0,14),("seam",0,15),("corners",0,16),("marks",0,17),("places",0,18),("begins",1,30),("take",1,31),("take_numbers",1,32)],
 [(4,[[.non]])],
 [["size","pieces","side_marks","seams"],["rows","at"]],[1,2,3,4,5,6,7],[0],[],[0]⟩
namespace Ck
def stB(r:Rc)(g:Ga)(e:Expr)(a:IP.E):Bi→Bool
 | .len=>kB1 r tb g "len" e a
 | .abs=>kB1 r tb g "abs" e a
 | .int=>kB1 r tb g "int" e a
 | .list=>kB1 r tb g "list" e a
 | .tuple=>kB1 r tb g "tuple" e a
 | .any=>g.calm&&kB1 r tb g "any" e a
 | .all=>g.calm&&kB1 r tb g "all" e a
 | .str=>kB1 r tb g "str" e a
 | _=>false
def stI(r:Rc)(g:Ga)(e:Expr)(a:IP.E):Ty→Bool
 | c=>aq6 r tb g e a c
def stC(r:Rc)(g:Ga)(e:Expr)(d:IP.E)(t:Tg):IP.E→Bool
 | b=>aey r tb g e d t b
def stV(r:Rc)(g:Ga)(e:Expr):IP.E→Bool
 | .var i=>arS g e i
 | .cst t=>anN e t
 | .glb x i=>avf tb g e x i
 | .bin o a b=>aok r g e o a b
 | .neg a=>av4 r g e a
 | .not a=>arB (fun l=>r.v g l a) e
 | .cmp c a b=>aoh r g e c a b
 | .and a b=>anU (r.v g) e (.and a b)
 | .or a b=>anU (r.v g) e (.or a b)
 | .ife c a b=>avx r g e c a b
 | .tup as=>avh r g e as
 | .lst as=>aqF r g e as
 | .sub a b=>awi r g e a b
 | .cutL a b=>aqg r g e a b
 | .cutU a b=>apD r g e a b
 | .b1 f a=>stB r g e a f
 | .call i as ds=>kFn r tb g e i as ds
 | .new c i _ as ds=>awD r fns tb g e c i as ds
 | .meth a c i as ds=>aoQ r fns tb g e a c i as ds
 | .fld a c f=>avn r tb g e a c f
 | .cell a=>r.o g e a
 | .join x b=>aqk r g e x b
 | .splt x a=>ari r g e x a
 | .intS a=>kB1 r tb g "int" e a
 | .lenS a=>kB1 r tb g "len" e a
 | .isB a c=>avS r tb g e a c
 | .isi a c=>stI r g e a c
 | .comp a t b=>stC r g e a t b
 | _=>false
def stT(r:Rc)(g:Ga)(e:Expr):IP.E→Bool
 | .cmp c a b=>aoh r g e c a b
 | .not a=>arB (fun l=>r.t g l a) e
 | .and a b=>anU (r.t g) e (.and a b)
 | .or a b=>anU (r.t g) e (.or a b)
 | e'=>alA e&&aiz e'&&r.v g e e'
def stO(r:Rc)(g:Ga)(e:Expr):IP.E→Bool
 | .lst as=>aqF r g e as
 | .bin o a b=>(match o with | .add=>arP r g e .add a b | _=>false)
 | .b1 f a=>(match f with | .list=>kB1 r tb g "list" e a | _=>false)
 | .call i as ds=>adK fns i&&kFn r tb g e i as ds
 | .comp a t b=>stC r g e a t b
 | _=>false
def stW(r:Rc)(g:Ga)(e:Expr):IP.E→Bool
 | .comp a t b=>aey r tb g e a t b
 | _=>false
def stA(r:Rs)(g:Ga)(st:Stmt)(a:IP.E)(js:List Nat):Bool:=axh r g st js a
def stF(r:Rs)(g:Ga)(st:Stmt)(t:Tg)(as:List S):IP.E→Bool
 | .var i=>an0 r g st t as (fun _ e=>arS g e i)
 | .enm a=>(match t with | .many js=>an0 r g st (.many js) as (fun x e=>kB1 r.toRc tb g "enumerate" e a&&anF (fun _ _ _=>true) x) | _=>false)
 | a=>an0 r g st t as (fun _ e=>alv a&&kIt r.toRc tb g e a)
def stY(r:Rs)(g:Ga)(st:Stmt)(as:List S)(c:Nat)(n:Option Nat)(bs:List S):Bool:=match n with
 | none=>aqP r tb g st as bs c (fun n=>n.isNone)
 | some i=>aqP r tb g st as bs c (fun n=>ifS n fun y=>at? g i y&&isK (lk g.sc y) .local)
def stS(r:Rs)(g:Ga)(st:Stmt):S→Bool
 | .tryN as=>aly r g st as
 | .ext i a=>aw5 (fun o v=>agI (fun x _=>at? g i x&&aec g x) o&&r.o g v a) st
 | .mk i a=>kMk r g st i a
 | .app i a=>arz (fun o v=>agI (fun x _=>at? g i x&&aec g x) o&&r.v g v a) st
 | .putL a b c=>atM (fun o j v=>r.v g o a&&(r.v g j b&&r.v g v c)) st
 | .appL a b=>arz (fun o v=>r.v g o a&&r.v g v b) st
 | .setF a c f b=>aqS r tb g st a c f b
 | .ret a=>anE (fun v=>r.v g v a) st
 | .retO a=>anE (fun v=>r.o g v a) st
 | .retV i=>anE (fun v=>agI (fun x _=>at? g i x&&aec g x) v) st
 | .exp a=>ap6 (fun v _=>agX v&&r.v g v a) st
 | .ifs c as bs=>alE (fun x p q _=>r.t g x c&&(r.s g p as&&r.s g q bs)) st
 | .whl c as=>g.top&&au3 (fun x p q _=>q.isEmpty&&(r.t g x c&&r.s g p as)) st
 | .raise c=>alk tb g st c
 | .asg i a=>awa r g st i a
 | .asgT js a=>stA r g st a js
 | .for_ t a as=>stF r g st t as a
 | .try_ as c n bs=>stY r g st as c n bs
 | _=>false
def ckr:Nat→Rs
 | 0=>bad
 | n+1=>⟨⟨stV (ckr n).toRc,stT (ckr n).toRc,stO (ckr n).toRc,kSs (stS (ckr n))⟩,stW (ckr n).toRc⟩
section
variable{X:Cx}{g:Ga}{G:Gx}{k:Nat}{r:Rs}{e:Expr}{st:Stmt}{a d:IP.E}
theorem ar6{f:Bi}(R:Sd G fns sub0 k tb r.toRc)(I:In G fns sub0 k tb X g)(h:stB r.toRc g e a f=true):Vv G fns sub0 k X e (.b1 f a):=by
 cases f with
 | len=>exact axR R I h
 | abs=>exact axI R I h
 | int=>exact ay9 R I h
 | list=>exact at2 R I h
 | tuple=>exact ao9 R I h
 | any=>exact ay5 R I h
 | all=>exact axP R I h
 | str=>exact ax0 R I h
 | _=>exact nt h
theorem arv{c:Ty}(R:Sd G fns sub0 k tb r.toRc)(I:In G fns sub0 k tb X g)(h:stI r.toRc g e a c=true):Vv G fns sub0 k X e (.isi a c):=by
 cases c with
 | cls c=>exact awG R I h
 | _=>exact awG R I h
theorem apj{t:Tg}{b:IP.E}(R:Sd G fns sub0 k tb r.toRc)(I:In G fns sub0 k tb X g)(h:stC r.toRc g e d t b=true):Vv G fns sub0 k X e (.comp d t b):=by
 exact atG R I h
theorem ami{t:Tg}{b:IP.E}(R:Sd G fns sub0 k tb r.toRc)(I:In G fns sub0 k tb X g)(h:stC r.toRc g e d t b=true):Vo G fns sub0 k X e (.comp d t b):=by
 exact al5 R I h
theorem apG{e':IP.E}(R:Sd G fns sub0 k tb r.toRc)(I:In G fns sub0 k tb X g)(h:stV r.toRc g e e'=true):Vv G fns sub0 k X e e':=by
 cases e' with
 | var i=>exact ayw I h
 | cst t=>exact axE h
 | glb x i=>exact ayg I h
 | bin o a b=>exact auz R I h
 | neg a=>exact aym R I h
 | not a=>exact ayD R I h
 | cmp c a b=>exact ayz R I h
 | and a b=>exact rBo R I h
 | or a b=>exact rBo R I h
 | ife c a b=>exact ayv R I h
 | tup as=>exact ay1 R I h
 | lst as=>exact ayu R I h
 | sub a b=>exact awn R I h
 | cutL a b=>exact atx R I h
 | cutU a b=>exact aup R I h
 | b1 f a=>exact ar6 R I h
 | call i as ds=>exact rFn R I h
 | new c i _ as ds=>exact axW R I h
 | meth a c i as ds=>exact atP R I h
 | fld a c f=>exact axK R I h
 | cell a=>exact aun R I h
 | join x b=>exact aqq R I h
 | splt x a=>exact auS R I h
 | intS a=>exact auN R I h
 | lenS a=>exact aur R I h
 | isB a c=>exact ay8 R I h
 | isi a c=>exact arv R I h
 | comp a t b=>exact apj R I h
 | _=>exact nt h
theorem aqt{e':IP.E}(R:Sd G fns sub0 k tb r.toRc)(I:In G fns sub0 k tb X g)(h:stT r.toRc g e e'=true):Vt G fns sub0 k X e e':=by
 cases e' with
 | cmp c a b=>exact asZ R I h
 | not a=>exact auj R I h
 | and a b=>exact awt R I h
 | or a b=>exact awt R I h
 | _=>exact ax2 R I h
theorem aph{e':IP.E}(R:Sd G fns sub0 k tb r.toRc)(I:In G fns sub0 k tb X g)(h:stO r.toRc g e e'=true):Vo G fns sub0 k X e e':=by
 cases e' with
 | lst as=>exact auY R I h
 | bin o a b=>
  cases o with
  | add=>exact asC R I h
  | _=>exact nt h
 | b1 f a=>
  cases f with
  | list=>exact apZ R I h
  | _=>exact nt h
 | call i as ds=>exact ax6 R I h
 | comp a t b=>exact ami R I h
 | _=>exact nt h
theorem aq1{js:List Nat}(R:Ss G fns sub0 k tb r)(I:In G fns sub0 k tb X g)(h:stA r g st a js=true):Vs G fns sub0 k X st (.asgT js a):=by
 exact ay4 R I h
theorem aqO{t:Tg}{as:List S}(R:Ss G fns sub0 k tb r)(I:In G fns sub0 k tb X g)(h:stF r g st t as a=true):Vs G fns sub0 k X st (.for_ t a as):=by
 cases a with
 | var i=>exact ato R I h
 | enm a=>
  cases t with
  | many js=>exact ayl R I h
  | _=>exact nt h
 | _=>exact axQ R I h
theorem arx{as bs:List S}{c:Nat}{n:Option Nat}(R:Ss G fns sub0 k tb r)(I:In G fns sub0 k tb X g)(h:stY r g st as c n bs=true):Vs G fns sub0 k X st (.try_ as c n bs):=by
 cases n with
 | none=>exact at0 R I h
 | some i=>exact atN R I h
theorem aoq{a:S}(R:Ss G fns sub0 k tb r)(I:In G fns sub0 k tb X g)(h:stS r g st a=true):Vs G fns sub0 k X st a:=by
 cases a with
 | tryN as=>exact api R I h
 | ext i a=>exact axU R I h
 | mk i a=>exact rMk R I h
 | app i a=>exact axL R I h
 | putL a b c=>exact au8 R I h
 | appL a b=>exact auc R I h
 | setF a c f b=>exact auI R I h
 | ret a=>exact ax3 R I h
 | retO a=>exact atb R I h
 | retV i=>exact asQ I h
 | exp a=>exact axX R I h
 | ifs c as bs=>exact ays R I h
 | whl c as=>exact aye R I h
 | raise c=>exact anY I h
 | asg i a=>exact axw R I h
 | asgT js a=>exact aq1 R I h
 | for_ t a as=>exact aqO R I h
 | try_ as c n bs=>exact arx R I h
 | _=>exact nt h
end
theorem anZ{X:Cx}{g:Ga}{G:Gx}{k:Nat}{r:Rs}{e:Expr}{e':IP.E}(R:Sd G fns sub0 k tb r.toRc)(I:In G fns sub0 k tb X g)(h:stW r.toRc g e e'=true):(∀(y:Str) (py spos:Pos) (i:Nat),X.N[i]?=some y→X.env.scope.names.lookup y=some .local→swapsWith e (some (.Name y py)) spos.line X.env=pure true→
  PS X (.Assign [.Name y py] e spos) (fun D σV H=>tO G X (cfX fns sub0 k) e' σV H fun v H1=>D.nx (σV.set i (some v)) H1))∧∀σ s r s1,ev (cfX fns sub0 k) e' .v σ s=.ok r s1→∃ts,r=.val (.lst ts):=by
 cases e' with
 | comp a t b=>exact asI R I h
 | _=>exact nt h
theorem ckr_ok{G:Gx}{k:Nat}:∀n,Ss G fns sub0 k tb (ckr n)
 | 0=>aoS
 | n+1=>
  have R:=ckr_ok n
  ⟨⟨fun I h=>apG R.toSd I h,fun I h=>aqt R.toSd I h,fun I h=>aph R.toSd I h,fun I h=>alQ (fun st a z=>aoq R I z) _ _ h⟩,fun I h=>anZ R.toSd I h⟩
theorem ck_ok:ajg (ckr 40) dis fns=true:=by decide +kernel
theorem ckt_ok:ckT tb=true:=by decide +kernel
end Ck
def ax1:Prop:=aqx fns sub0 16 54
end Pg
end IP
end
noncomputable section
namespace IP
open L2
theorem ab2{i j:Int}(h:i.natAbs<2^64):anT i j=true:=by
 unfold anT
 simp[h]
section
variable{x f:Bool}{σ:Fr}{s:Sto}{i j:Int}{ts us:List T}{t a b c d:T}{r:R}
@[simp] theorem apa:aaC x false (.ret r s)=.ok r s:=rfl
@[simp] theorem anO:aaC x true (.retO ts s)=.ok (.val (.lst ts)) s:=rfl
@[simp] theorem anS:aaC x false (.next σ s)=.ok (.val .non) s:=rfl
@[simp] theorem awU (b:Bool) (m n:Res R):onB (.val (.bl b)) m n=if b=true then m else n:=by cases b<;>rfl
@[simp] theorem at7 (b:Bool) (m n:SR):arX (.val (.bl b)) m n=if b=true then m else n:=by cases b<;>rfl
@[simp] theorem atH (g:Int→Res R):onI (.val (.int i)) g=g i:=rfl
@[simp] theorem aug (g:T→Res (List T)):onV (.val t) g=g t:=rfl
@[simp] theorem au6 (g:List T→Res R):onL (.val (.lst ts)) g=g ts:=rfl
@[simp] theorem agw {α β:Type} (v:α) (g:α→Res β):onO (some v) g=g v:=rfl
@[simp] theorem int_int:(R.val (.int i)).int?=some i:=rfl
@[simp] theorem auE:(R.val t).val?=some t:=rfl
@[simp] theorem atu:(R.bor ts).val?=none:=rfl
@[simp] theorem as4:(R.val (.lst ts)).lst?=some ts:=rfl
@[simp] theorem ajc:(R.val (.lst ts)).seq=some ts:=rfl
@[simp] theorem amW:(R.bor ts).seq=some ts:=rfl
@[simp] theorem atp:(R.val (.lst ts)).sq2=some ts:=rfl
@[simp] theorem asM:(R.val (.tup ts)).sq2=some ts:=rfl
@[simp] theorem ava:(R.bor ts).sq2=some ts:=rfl
@[simp] theorem auv:(R.val (.lst ts)).sq3=some ts:=rfl
@[simp] theorem asc:(R.val (.tup ts)).sq3=some ts:=rfl
@[simp] theorem aww (b:Bool):tru (.val (.bl b))=some b:=rfl
@[simp] theorem at5:tru (.val (.int i))=some (i != 0):=rfl
@[simp] theorem awZ:one (.ok (.val t) s)=.ok (some t) s:=rfl
@[simp] theorem avV {p:Prop} [Decidable p] (m n:Res R) (k:R→Sto→SR):(if p then m else n).st σ k=if p then m.st σ k else n.st σ k:=by split<;>rfl
@[simp] theorem asa {α β:Type}{p:Prop} [Decidable p] (m n:Res α) (k:α→Sto→Res β):(if p then m else n).bind k=if p then m.bind k else n.bind k:=by split<;>rfl
@[simp] theorem aqv {p:Prop} [Decidable p] (m n:SR):aaC x f (if p then m else n)=if p then aaC x f m else aaC x f n:=by split<;>rfl
@[simp] theorem aom {p:Prop} [Decidable p] (m n:SR) (k:Fr→Sto→SR):(if p then m else n).bind k=if p then m.bind k else n.bind k:=by split<;>rfl
@[simp] theorem anW {p:Prop} [Decidable p] (m n:SR) (i:Nat):(if p then m else n).unlock i=if p then m.unlock i else n.unlock i:=by split<;>rfl
@[simp] theorem anR (v:R) (i:Nat):(SR.ret v s).unlock i=.ret v s:=rfl
@[simp] theorem alV (i:Nat):(SR.next σ s).unlock i=.next (IP.unlock σ i) s:=rfl
@[simp] theorem ap1:opR .add (.val (.int i)) (.val (.int j))=some (.val (.int (i+j))):=rfl
@[simp] theorem alx:opR .sub (.val (.int i)) (.val (.int j))=some (.val (.int (i-j))):=rfl
theorem ad6(h:anT i j=true):opR .mul (.val (.int i)) (.val (.int j))=some (.val (.int (i*j))):=by simp[opR,opI,h]
theorem aaM(h:0<j):opR .mod (.val (.int i)) (.val (.int j))=some (.val (.int (Int.fmod i j))):=by simp[opR,opI,show j≠0 by omega]
theorem alf:(2:Nat)^64<big:=by unfold big;decide +kernel
theorem aaS(h:0<j)(hb:j<2^64):opR .fdiv (.val (.int i)) (.val (.int j))=some (.val (.int (Int.fdiv i j))):=by
 have:j.natAbs<big:=Nat.lt_trans (by omega) alf
 simp[opR,opI,show j≠0 by omega,this]
@[simp] theorem ayk:act .lt (.val (.int i)) (.val (.int j))=some (decide (i<j)):=rfl
@[simp] theorem axJ:act .le (.val (.int i)) (.val (.int j))=some (decide (i≤j)):=rfl
@[simp] theorem ax5:act .gt (.val (.int i)) (.val (.int j))=some (decide (j<i)):=rfl
@[simp] theorem ayy:act .ge (.val (.int i)) (.val (.int j))=some (decide (j≤i)):=rfl
@[simp] theorem ayb:act .eq (.val a) (.val b)=eqD 8 a b:=rfl
@[simp] theorem axx:act .ne (.val a) (.val b)=(eqD 8 a b).map (!·):=rfl
@[simp] theorem awl:act .isN r (.val .non)=some r.isNon:=rfl
@[simp] theorem avc:act .notN r (.val .non)=some (!r.isNon):=rfl
@[simp] theorem avu:eqD 8 (.int i) (.int j)=some (i==j):=by simp[eqD]
@[simp] theorem awO:aaQ (.val (.tup [a,b])) 0=some a:=rfl
@[simp] theorem awX:aaQ (.val (.tup [a,b])) 1=some b:=rfl
theorem abj{n:Nat}(h:ts[n]?=some t):aaQ (.val (.lst ts)) (n:Int)=some t:=by
 have hl:=(List.getElem?_eq_some_iff.mp h).1
 have h2:=(List.getElem?_eq_some_iff.mp h).2
 simp[aaQ,L2.atI,L2.ixN,hl,h2]
theorem ack{n:Nat}(h:ts[n]?=some t):aaQ (.bor ts) (n:Int)=some t:=by
 have hl:=(List.getElem?_eq_some_iff.mp h).1
 have h2:=(List.getElem?_eq_some_iff.mp h).2
 simp[aaQ,L2.atI,L2.ixN,hl,h2]
@[simp] theorem anM:b1R .len (.val (.lst ts))=some (.val (.int ts.length)):=rfl
@[simp] theorem anQ:b1R .len (.val (.tup ts))=some (.val (.int ts.length)):=rfl
@[simp] theorem anG:b1R .len (.bor ts)=some (.val (.int ts.length)):=rfl
@[simp] theorem awN:b1R .abs (.val (.int i))=some (.val (.int (if i<0 then -i else i))):=rfl
@[simp] theorem auq:b1R .list (.val (.lst ts))=some (.val (.lst ts)):=rfl
@[simp] theorem anH:b1R .sorted (.val (.lst [.int i,.int j]))=some (.val (.lst [.int (min i j),.int (max i j)])):=by
 by_cases h:j<i
 ·simp[b1R,ac5,alU,arA,h,show min i j=j by omega,show max i j=i by omega]
 ·simp[b1R,ac5,alU,arA,h,show min i j=i by omega,show max i j=j by omega]
@[simp] theorem atU:b1R .max (.val (.lst [.int i,.int j]))=some (.val (.int (max i j))):=by
 have h:b1R .max (.val (.lst [.int i,.int j]))=some (.val (.int (if j>i then j else i))):=rfl
 rw[h,show(if j>i then j else i)=max i j by split<;>omega]
@[simp] theorem atE:b1R .min (.val (.lst [.int i,.int j]))=some (.val (.int (min i j))):=by
 have h:b1R .min (.val (.lst [.int i,.int j]))=some (.val (.int (if j<i then j else i))):=rfl
 rw[h,show(if j<i then j else i)=min i j by split<;>omega]
@[simp] theorem ask:aaQ (.val (.lst [a,b])) 0=some a:=rfl
@[simp] theorem auh:aaQ (.val (.lst [a,b])) 1=some b:=rfl
end
theorem aaW{C:Cf}{g:Tg}{it:E}{b:List S}{σ:Fr}{s s1:Sto}{ts:List T}(h:ev C it .j σ s=.ok (.val (.lst ts)) s1)(hit:∀i,it≠.var i):ex C (.for_ g it b) σ s=abr g (fun σ s=>exs C b σ s) ts σ s1:=by
 have e:ex C (.for_ g it b) σ s=(ev C it .j σ s).st σ fun x s1=>onS x.lst? fun ts=>abr g (fun σ s=>exs C b σ s) ts σ s1:=by
  cases it<;>first|rfl|exact absurd rfl (hit _)
 rw[e,h]
 rfl
theorem abw:1000≤lim:=by decide
theorem amI:(1000:Int)≤(lim:Int):=Int.ofNat_le.mpr abw
theorem apu{j:Int}(h:j≤1000):decide (j≤(lim:Int))=true:=decide_eq_true (Int.le_trans h amI)
theorem arn{n:Nat}(h:n≤1000):bnd (n:Int)=true:=by
 unfold bnd
 simp
 omega
theorem ak2{C:Cf}{a:E}{σ:Fr}{s s1:Sto}{j:Int}(h:ev C a .v σ s=.ok (.val (.int j)) s1):ev C (.rng1 a) .j σ s=if bnd j&&decide (j≤lim)then .ok (.val (.lst (aao 0 j))) s1 else .stuck:=by
 show(akr _ ((ev C _ .v σ s).bind _))=_
 rw[h]
 rfl
theorem aps{α:Type}{b:Bool}{x y:α}(h:b=true):(if b then x else y)=x:=by rw[h];rfl
theorem aqb{a b:Bool}(h:a=true)(h':b=true):(a&&b)=true:=by rw[h,h'];rfl
theorem aaY{C:Cf}{a:E}{σ:Fr}{s s1:Sto}{n:Nat}(h:ev C a .v σ s=.ok (.val (.int (n:Int))) s1)(hn:n≤1000):ev C (.rng1 a) .j σ s=.ok (.val (.lst (aao 0 n))) s1:=
 (ak2 h).trans (aps (aqb (arn hn) (apu (Int.ofNat_le.mpr hn))))
theorem ahT{C:Cf}{a:E}{σ:Fr}{s s1:Sto}{j:Int}(h:ev C a .v σ s=.ok (.val (.int j)) s1):ev C (.rng1 a) .i σ s=if bnd j&&decide (j≤lim)then .ok (.val (.lst (aao 0 j))) s1 else .stuck:=by
 show(akr _ ((ev C _ .v σ s).bind _))=_
 rw[h]
 rfl
theorem akh{C:Cf}{a:E}{σ:Fr}{s s1:Sto}{n:Nat}(h:ev C a .v σ s=.ok (.val (.int (n:Int))) s1)(hn:n≤1000):ev C (.rng1 a) .i σ s=.ok (.val (.lst (aao 0 n))) s1:=
 (ahT h).trans (aps (aqb (arn hn) (apu (Int.ofNat_le.mpr hn))))
theorem abo{C:Cf}{e:E}{σ:Fr}{s s1:Sto}{r:R}(h:ev C e .v σ s=.ok r s1):ex C (.ret e) σ s=.ret r s1:=by first|(show(ev C e .v σ s).st σ _=_;rw[h];rfl)
theorem aaI{C:Cf}{e:E}{i:Nat}{σ:Fr}{s s1:Sto}{t:T}(h:ev C e .v σ s=.ok (.val t) s1):ex C (.asg i e) σ s=.next (put σ i t) s1:=by first|(show(ev C e .v σ s).st σ _=_;rw[h];rfl)
theorem ae8{F:T→Sto→Res (Option T)}{s:Sto}{α:Type}(f:α→T)(P:α→Prop):∀ts:List T,(∀(m:Nat) (t:T),ts[m]?=some t→∃x,P x∧F t s=.ok (some (f x)) s)→∃xs:List α,xs.length=ts.length∧(∀x∈xs,P x)∧aa0 F ts s=.ok (xs.map f) s
 | [],_=>⟨[],rfl,by simp,rfl⟩
 | t::ts,h=>by
  obtain⟨x,hx,e⟩:=h 0 t rfl
  obtain⟨xs,h1,h2,h3⟩:=ae8 f P ts fun m u hm=>h (m+1) u (by simpa using hm)
  refine⟨x::xs,by simp[h1],fun y hy=>?_,?_⟩
  ·rcases List.mem_cons.mp hy with rfl|z
   ·exact hx
   ·exact h2 y z
  ·unfold aa0
   rw[e]
   simp[h3]
theorem af2{C:Cf}{e it:E}{g:Tg}{σ:Fr}{s s1 s2:Sto}{ts q:List T}(h:ev C it .i σ s=.ok (.val (.lst ts)) s1)(h2:aa0 (fun t s=>onO (aaq σ g t) fun σ'=>one (ev C e .v σ' s)) ts s1=.ok q s2):ev C (.comp e g it) .v σ s=.ok (.val (.lst q)) s2:=by
 show(fin .v ((ev C it .i σ s).bind _))=_
 rw[h]
 show(aa0 (fun t s=>onO (aaq σ g t) fun σ'=>one (ev C e .v σ' s)) ts s1).bind _=_
 rw[h2]
 rfl
theorem acA{C:Cf}{a:S}{r:List S}{σ:Fr}{s:Sto}:exs C (a::r) σ s=(ex C a σ s).bind fun σ1 s1=>exs C r σ1 s1:=by simp only[exs]
theorem aaa{C:Cf}{a:S}{r:List S}{σ σ1:Fr}{s s1:Sto}(h:ex C a σ s=.next σ1 s1):exs C (a::r) σ s=exs C r σ1 s1:=by rw[acA,h];rfl
theorem aaH{C:Cf}{a:S}{r:List S}{σ:Fr}{s s1:Sto}{v:R}(h:ex C a σ s=.ret v s1):exs C (a::r) σ s=.ret v s1:=by rw[acA,h];rfl
@[simp] theorem axb (m:Res R):akr .j m=m:=rfl
@[simp] theorem awq (m:Res R):akr .i m=m:=rfl
section
variable{g:Tg}{body:Fr→Sto→SR}{s:Sto}
theorem aa2(I:Nat→Fr→Prop):∀(ts:List T) (n:Nat) (σ:Fr),I n σ→(∀(m:Nat) (t:T) (σ:Fr),ts[m]?=some t→I (n+m) σ→∃σ1 σ2,aaq σ g t=some σ1∧body σ1 s=.next σ2 s∧I (n+m+1) σ2)→
  ∃σ',abr g body ts σ s=.next σ' s∧I (n+ts.length) σ'
 | [],n,σ,h,_=>⟨σ,rfl,h⟩
 | t::ts,n,σ,h,st=>by
  obtain⟨σ1,σ2,e1,e2,e3⟩:=st 0 t σ rfl h
  obtain⟨σ',e4,e5⟩:=aa2 I ts (n+1) σ2 e3 fun m u σ em hm=>by
   obtain⟨a,b,c1,c2,c3⟩:=st (m+1) u σ (by simpa using em) (by rw[show n+(m+1)=n+1+m by omega];exact hm)
   exact⟨a,b,c1,c2,by rw[show n+1+m+1=n+(m+1)+1 by omega];exact c3⟩
  refine⟨σ',?_,by rw[List.length_cons,show n+(ts.length+1)=n+1+ts.length by omega];exact e5⟩
  show onS (aaq σ g t) _=_
  rw[e1]
  show(body σ1 s).bind _=_
  rw[e2]
  exact e4
theorem aa1{i j:Int}{n:Nat}{t:T}(h:(aao i j)[n]?=some t):t=.int (i+n)∧n<(j-i).toNat:=by
 unfold aao at h
 rw[List.getElem?_map]at h
 cases e:(List.range (j-i).toNat)[n]? with
 | none=>rw[e]at h;cases h
 | some m=>
  rw[e]at h
  have hn:=(List.getElem?_eq_some_iff.mp e).1
  have:=(List.getElem?_eq_some_iff.mp e).2
  simp at this hn
  subst this
  simp at h
  exact⟨h.symm,by omega⟩
theorem aaJ(i j:Int):(aao i j).length=(j-i).toNat:=by unfold aao;simp
end
end IP
end
noncomputable section
namespace IP
@[simp] theorem ave:exs C [] x x_1=SR.next x x_1:=by intros;rfl
@[simp] theorem auy:exs C (a::r) x x_1=SR.bind (ex C a x x_1) fun σ1 s1=>exs C r σ1 s1:=by intros;rfl
@[simp] theorem avH:ex C (S.asg i e) x x_1=Res.st (ev C e Md.v x x_1) x fun x_2 s1=>onS (R.val? x_2) fun t=>SR.next (put x i t) s1:=by intros;rfl
@[simp] theorem aoR:ex C (S.asgT is e) x x_1=Res.st (ev C e Md.v x x_1) x fun x_2 s1=>onS (R.tup? x_2) fun ts=>onS (puts x is ts) fun σ'=>SR.next σ' s1:=by intros;rfl
@[simp] theorem arb:ex C (S.mk i e) x x_1=if abn C e=true then Res.st (ev C e Md.v x x_1) x fun x_2 s1=>onS (R.lst? x_2) fun ts=>SR.next (aai x i ts) s1 else SR.stuck:=by intros;rfl
@[simp] theorem aoD:ex C (S.app i e) x x_1=onS (ab5 x i) fun ts=>Res.st (ev C e Md.v x x_1) x fun x_2 s1=>onS (R.val? x_2) fun t=>if List.length ts<lim then SR.next (aai x i (ts++[t])) s1 else SR.stuck:=by intros;rfl
@[simp] theorem arr:ex C (S.ext i e) x x_1=onS (ab5 x i) fun ts=>Res.st (ev C e Md.v x x_1) x fun x_2 s1=>onS (R.lst? x_2) fun us=>if List.length ts+List.length us≤lim then SR.next (aai x i (ts++us)) s1 else SR.stuck:=by intros;rfl
@[simp] theorem avq:ex C (S.frz i) x x_1=SR.next (frz x i) x_1:=by intros;rfl
@[simp] theorem ag7:ex C (S.ifs c a b) x x_1=Res.st (ev C c Md.t x x_1) x fun x_2 s1=>arX x_2 (exs C a x s1) (exs C b x s1):=by intros;rfl
@[simp] theorem atZ:ex C (S.ret e) x x_1=Res.st (ev C e Md.v x x_1) x fun x s1=>SR.ret x s1:=by intros;rfl
@[simp] theorem am5:ex C (S.retO e) x x_1=if abn C e=true then Res.st (ev C e Md.v x x_1) x fun x s1=>onS (R.lst? x) fun ts=>SR.retO ts s1 else SR.stuck:=by intros;rfl
@[simp] theorem aso:ex C (S.exp e) x x_1=Res.st (ev C e Md.v x x_1) x fun x_2 s1=>SR.next x s1:=by intros;rfl
@[simp] theorem aui:ex C (S.raise c) x x_1=SR.exc c x x_1:=by intros;rfl
@[simp] theorem asD:∀(C:Cf) (x:Fr) (x_1:Sto) (b:List S) (c:Nat) (nm:Option Nat) (h:List S),
 ex C (S.try_ b c nm h) x x_1=
  match exs C b x x_1 with
  | SR.exc d σ1 s1=>
   if Cf.sub C d c=true then
    match nm with
    | none=>SR.nox (exs C h σ1 s1)
    | some i=>SR.bind (SR.nox (exs C h (put σ1 i (T.exc d)) s1)) fun σ2 s2=>SR.next (List.set σ2 i none) s2
   else SR.exc d σ1 s1
  | r=>r:=by intros;rfl
@[simp] theorem auF:ex C (S.putL a j e) x x_1=Res.st (ev C e Md.v x x_1) x fun x_2 s1=>onS (R.val? x_2) fun t=>Res.st (ev C a Md.v x s1) x fun y s2=>Res.st (ev C j Md.v x s2) x fun z s3=>onS (R.locL s3 y) fun p=>onS (R.int? z) fun k=>onS (L2.ixN (List.length (Prod.snd p)) k) fun n=>SR.next x (List.set s3 (Prod.fst p) (Cell.lst (List.set (Prod.snd p) n t))):=by intros;rfl
@[simp] theorem atJ:ex C (S.appL a e) x x_1=Res.st (ev C a Md.v x x_1) x fun y s1=>onS (R.locL s1 y) fun x_2=>Res.st (ev C e Md.v x s1) x fun x_3 s2=>onS (R.val? x_3) fun t=>onS (R.locL s2 y) fun p=>if List.length (Prod.snd p)<lim then SR.next x (List.set s2 (Prod.fst p) (Cell.lst (Prod.snd p++[t])))else SR.stuck:=by intros;rfl
@[simp] theorem atj:ex C (S.setF a c f e) x x_1=Res.st (ev C e Md.v x x_1) x fun x_2 s1=>onS (R.val? x_2) fun t=>Res.st (ev C a Md.v x s1) x fun y s2=>onS (R.locI s2 c y) fun p=>if f<List.length (Prod.snd p)then SR.next x (List.set s2 (Prod.fst p) (Cell.ins c (List.set (Prod.snd p) f (some t))))else SR.stuck:=by intros;rfl
@[simp] theorem avk:ev C (E.var i) x x_1 x_2=fin x (Res.of (look x_1 i) x_2):=by intros;rfl
@[simp] theorem awh:ev C (E.cst t) x x_1 x_2=fin x (Res.ok (R.val t) x_2):=by intros;rfl
@[simp] theorem avC:ev C (E.glb x_4 i) x x_1 x_2=fin x (Res.ok (R.val (T.int i)) x_2):=by intros;rfl
@[simp] theorem av3:ev C (E.bin o a b) x x_1 x_2=fin x (Res.bind (ev C a Md.v x_1 x_2) fun x s1=>Res.bind (ev C b Md.v x_1 s1) fun y s2=>Res.of (opR o x y) s2):=by intros;rfl
@[simp] theorem avF:ev C (E.neg a) x x_1 x_2=fin x (Res.bind (ev C a Md.v x_1 x_2) fun x s1=>Res.of (Option.map (fun i=>R.val (T.int (-i))) (R.int? x)) s1):=by intros;rfl
@[simp] theorem awy:ev C (E.not a) Md.t x x_1=Res.bind (ev C a Md.t x x_1) fun x s1=>onB x (Res.ok (R.val (T.bl false)) s1) (Res.ok (R.val (T.bl true)) s1):=by intros;rfl
@[simp] theorem aw3:∀(C:Cf) (x:Md) (x_1:Fr) (x_2:Sto) (a:E),(x=Md.t→False)→ev C (E.not a) x x_1 x_2=fin x (Res.bind (ev C a Md.v x_1 x_2) fun x s1=>Res.of (Option.map (fun k=>R.val (T.bl !k)) (tru x)) s1):=by intro C x x_1 x_2 a h;cases x<;>first|rfl|exact(h rfl).elim
@[simp] theorem awJ:ev C (E.cmp c a b) x x_1 x_2=fin x (Res.bind (ev C a Md.v x_1 x_2) fun x s1=>Res.bind (ev C b Md.v x_1 s1) fun y s2=>Res.of (Option.map (fun k=>R.val (T.bl k)) (act c x y)) s2):=by intros;rfl
@[simp] theorem avj:ev C (E.and a b) Md.t x x_1=Res.bind (ev C a Md.t x x_1) fun x_2 s1=>onB x_2 (ev C b Md.t x s1) (Res.ok (R.val (T.bl false)) s1):=by intros;rfl
@[simp] theorem aub:ev C (E.or a b) Md.t x x_1=Res.bind (ev C a Md.t x x_1) fun x_2 s1=>onB x_2 (Res.ok (R.val (T.bl true)) s1) (ev C b Md.t x s1):=by intros;rfl
@[simp] theorem au7:∀(C:Cf) (x:Md) (x_1:Fr) (x_2:Sto) (a b:E),(x=Md.t→False)→ev C (E.and a b) x x_1 x_2=fin x (Res.bind (ev C a Md.v x_1 x_2) fun x s1=>onB x (ev C b Md.v x_1 s1) (Res.ok (R.val (T.bl false)) s1)):=by intro C x x_1 x_2 a b h;cases x<;>first|rfl|exact(h rfl).elim
@[simp] theorem as5:ev C (E.ife c a b) x x_1 x_2=fin x (Res.bind (ev C c Md.t x_1 x_2) fun x s1=>onB x (ev C a Md.v x_1 s1) (ev C b Md.v x_1 s1)):=by intros;rfl
@[simp] theorem atg:ev C (E.tup es) x x_1 x_2=fin x (Res.bind (evs C es x_1 x_2) fun ts s1=>Res.ok (R.val (T.tup ts)) s1):=by intros;rfl
@[simp] theorem asz:ev C (E.lst es) x x_1 x_2=fin x (Res.bind (evs C es x_1 x_2) fun ts s1=>Res.ok (R.val (T.lst ts)) s1):=by intros;rfl
@[simp] theorem asU:ev C (E.sub a b) x x_1 x_2=fin x (Res.bind (ev C a Md.v x_1 x_2) fun x s1=>Res.bind (ev C b Md.v x_1 s1) fun y s2=>onI y fun i=>Res.of (Option.map R.val (aaQ (R.dr s2 x) i)) s2):=by intros;rfl
@[simp] theorem atq:ev C (E.cutL a l) x x_1 x_2=fin x (Res.bind (ev C a Md.v x_1 x_2) fun x s1=>Res.bind (ev C l Md.v x_1 s1) fun y s2=>onI y fun i=>Res.of (aem (R.dr s2 x) (some i) none) s2):=by intros;rfl
@[simp] theorem asE:ev C (E.cutU a h) x x_1 x_2=fin x (Res.bind (ev C a Md.v x_1 x_2) fun x s1=>Res.bind (ev C h Md.v x_1 s1) fun y s2=>onI y fun i=>Res.of (aem (R.dr s2 x) none (some i)) s2):=by intros;rfl
@[simp] theorem asu:ev C (E.b1 f a) x x_1 x_2=fin x (Res.bind (ev C a Md.v x_1 x_2) fun x s1=>Res.of (b1R f (R.dr s1 x)) s1):=by intros;rfl
@[simp] theorem asX:ev C (E.isi a c) x x_1 x_2=fin x (Res.bind (ev C a Md.v x_1 x_2) fun x s1=>Res.of (Option.map (fun k=>R.val (T.bl k)) (agK (Cf.sub C) (R.dr s1 x) c)) s1):=by intros;rfl
@[simp] theorem atl:ev C (E.call f es ds) x x_1 x_2=fin x (Res.bind (evr C es x_1 x_2) fun rs s1=>Cf.cf C f (rs++List.map R.val ds) s1):=by intros;rfl
@[simp] theorem asV:ev C (E.fld a c f) x x_1 x_2=fin x (Res.bind (ev C a Md.v x_1 x_2) fun x s1=>Res.of (Option.map R.val (ae2 s1 x c f)) s1):=by intros;rfl
@[simp] theorem as7:ev C (E.cell a) x x_1 x_2=fin x (Res.bind (ev C a Md.v x_1 x_2) fun x s1=>onL x fun ts=>Res.ok (R.val (T.loc (List.length s1))) (s1++[Cell.lst ts])):=by intros;rfl
@[simp] theorem aus:ev C (E.new c f n es ds) x x_1 x_2=fin x (Res.bind (evr C es x_1 x_2) fun rs s1=>Res.bind (Cf.cf C f (R.val (T.loc (List.length s1))::rs++List.map R.val ds) (s1++[Cell.ins c (List.replicate n none)])) fun r s2=>onN r (Res.ok (R.val (T.loc (List.length s1))) s2)):=by intros;rfl
@[simp] theorem auL:ev C (E.meth a c f es ds) x x_1 x_2=fin x (Res.bind (ev C a Md.v x_1 x_2) fun x s1=>onO (R.locI s1 c x) fun x_3=>Res.bind (evr C es x_1 s1) fun rs s2=>Cf.cf C f (x::rs++List.map R.val ds) s2):=by intros;rfl
@[simp] theorem atn:evs C [] x x_1=Res.ok [] x_1:=by intros;rfl
@[simp] theorem afn:evs C (e::es) x x_1=Res.bind (ev C e Md.v x x_1) fun x_2 s1=>onV x_2 fun t=>Res.bind (evs C es x s1) fun ts s2=>Res.ok (t::ts) s2:=by intros;rfl
@[simp] theorem asx:evr C [] x x_1=Res.ok [] x_1:=by intros;rfl
@[simp] theorem asj:evr C (e::es) x x_1=Res.bind (ev C e Md.v x x_1) fun x_2 s1=>Res.bind (evr C es x s1) fun xs s2=>Res.ok (x_2::xs) s2:=by intros;rfl
@[simp] theorem aqA:type_of% @aam.eq_1:=@aam.eq_1
@[simp] theorem atD:type_of% @ofR.eq_1:=@ofR.eq_1
@[simp] theorem asP:type_of% @ofR.eq_2:=@ofR.eq_2
@[simp] theorem arO:type_of% @look.eq_1:=@look.eq_1
@[simp] theorem auK:type_of% @put.eq_1:=@put.eq_1
section
variable{x f:Bool}{σ:Fr}{s:Sto}{i j:Int}{ts us:List T}{t a b c:T}{r:R}{l d k:Nat}{sub:Nat→Nat→Bool}{fs:List (Option T)}
@[simp] theorem avo:(R.val .non).dr s=.val .non:=rfl
@[simp] theorem ayo (b:Bool):(R.val (.bl b)).dr s=.val (.bl b):=rfl
@[simp] theorem axg:(R.val (.int i)).dr s=.val (.int i):=rfl
@[simp] theorem avv:(R.val (.tup ts)).dr s=.val (.tup ts):=rfl
@[simp] theorem alg:(R.val (.lst ts)).dr s=.val (.lst ts):=rfl
@[simp] theorem av5:(R.val (.exc d)).dr s=.val (.exc d):=rfl
@[simp] theorem av8:(R.bor ts).dr s=.bor ts:=rfl
theorem ac6(h:s[l]?=some (.lst ts)):(R.val (.loc l)).dr s=.bor ts:=by simp[R.dr,h]
theorem abu(h:s[l]?=some (.ins d fs)):ae2 s (.val (.loc l)) d k=(fs[k]?).join:=by simp[ae2,h]
theorem acH(h:s[l]?=some (.ins d fs)):(R.val (.loc l)).locI s d=some (l,fs):=by simp[R.locI,h]
theorem abL(h:s[l]?=some (.lst ts)):(R.val (.loc l)).locL s=some (l,ts):=by simp[R.locL,h]
@[simp] theorem asY:agK sub (.val (.exc d)) (.cls k)=some (sub d k):=rfl
@[simp] theorem an1:agK sub (.val (.int i)) .int=some true:=rfl
@[simp] theorem ala:agK sub (.val (.int i)) .bool=some false:=rfl
@[simp] theorem anv:agK sub (.val (.tup ts)) .tuple=some true:=rfl
@[simp] theorem amG:agK sub (.val (.lst ts)) .list=some true:=rfl
@[simp] theorem anb:agK sub (.bor ts) .list=some true:=rfl
@[simp] theorem anP:aaC true f (.exc d σ s)=.exc d s:=rfl
@[simp] theorem arY:(SR.next σ s).nox=.next σ s:=rfl
@[simp] theorem auW:(SR.ret r s).nox=.ret r s:=rfl
@[simp] theorem auO (m:Res R):onN (.val .non) m=m:=rfl
@[simp] theorem auo:(R.val (.tup ts)).tup?=some ts:=rfl
@[simp] theorem aro (b:Bool):b1R .int (.val (.bl b))=some (.val (.int (if b then 1 else 0))):=rfl
@[simp] theorem anJ:b1R .int (.val (.int i))=some (.val (.int i)):=rfl
@[simp] theorem alJ:b1R .list (.bor ts)=some (.val (.lst ts)):=rfl
@[simp] theorem alr:b1R .tuple (.bor ts)=some (.val (.tup ts)):=rfl
@[simp] theorem als:b1R .tuple (.val (.lst ts))=some (.val (.tup ts)):=rfl
theorem abS:∀bs:List Bool,aaP (bs.map T.bl)=some bs
 | []=>rfl
 | b::bs=>by simp[aaP,abS bs]
theorem apz(bs:List Bool):b1R .all (.val (.lst (bs.map .bl)))=some (.val (.bl (bs.all id))):=by simp[b1R,abS]
theorem ar3(bs:List Bool):b1R .any (.val (.lst (bs.map .bl)))=some (.val (.bl (bs.any id))):=by simp[b1R,abS]
theorem aaT{C:Cf}{e:E}{b:Bool}{s1:Sto}(h:ev C e .t σ s=.ok (.val (.bl b)) s1):ev C (.not e) .t σ s=.ok (.val (.bl (!b))) s1:=by
 show(ev C e .t σ s).bind _=_
 rw[h]
 cases b<;>rfl
theorem aa8{C:Cf}{e it:E}{i:Nat}{α:Type}(xs:List α)(g:α→T)(f:α→T)(ha:ev C it .i σ s=.ok (.val (.lst (xs.map g))) s)
  (h:∀x∈xs,ev C e .v (put σ i (g x)) s=.ok (.val (f x)) s):ev C (.comp e (.one i) it) .v σ s=.ok (.val (.lst (xs.map f))) s:=by
 refine af2 ha ?_
 clear ha
 induction xs with
 | nil=>rfl
 | cons x xs ih=>
  have h0:=h x (by simp)
  have h1:=ih fun y hy=>h y (by simp[hy])
  rw[List.map_cons,List.map_cons]
  unfold aa0
  rw[show onO (aaq σ (.one i) (g x)) (fun σ'=>one (ev C e .v σ' s))=.ok (some (f x)) s by show one (ev C e .v (put σ i (g x)) s)=_;rw[h0];rfl]
  simp only[Res.bind_ok]
  rw[h1]
  rfl
end
theorem aih{C:Cf}{e:E}{f:Bi}{σ:Fr}{s s1:Sto}{r r':R}(h:ev C e .v σ s=.ok r s1)(hb:b1R f (r.dr s1)=some r'):ev C (.b1 f e) .v σ s=.ok r' s1:=by
 rw[show ev C (.b1 f e) .v σ s=(ev C e .v σ s).bind fun x s1=>.of (b1R f (x.dr s1)) s1 from rfl,h]
 simp[hb]
theorem aiZ{C:Cf}{e:E}{σ:Fr}{s s1:Sto}{α:Type}{xs:List α}{f:α→Bool}(h:ev C e .v σ s=.ok (.val (.lst (xs.map fun n=>.bl (f n)))) s1):ev C (.b1 .all e) .v σ s=.ok (.val (.bl (xs.all f))) s1:=by
 refine aih h ?_
 have hb:=apz (xs.map f)
 rw[List.map_map]at hb
 rw[alg]
 refine hb.trans ?_
 simp[List.all_map]
theorem aoX{C:Cf}{e:E}{σ:Fr}{s s1:Sto}{α:Type}{xs:List α}{f:α→Bool}(h:ev C e .v σ s=.ok (.val (.lst (xs.map fun n=>.bl (f n)))) s1):ev C (.b1 .any e) .v σ s=.ok (.val (.bl (xs.any f))) s1:=by
 refine aih h ?_
 have hb:=ar3 (xs.map f)
 rw[List.map_map]at hb
 rw[alg]
 refine hb.trans ?_
 simp[List.any_map]
theorem aij{C:Cf}{e:E}{f:Bi}{σ:Fr}{s s1:Sto}{b:Bool}(h:ev C (.b1 f e) .v σ s=.ok (.val (.bl b)) s1):ev C (.b1 f e) .t σ s=.ok (.val (.bl b)) s1:=by
 have e1:ev C (.b1 f e) .t σ s=fin .t (ev C (.b1 f e) .v σ s):=rfl
 rw[e1,h]
 rfl
theorem agd{C:Cf}{c a b:E}{σ:Fr}{s s1:Sto}(h:ev C c .t σ s=.ok (.val (.bl false)) s1):ev C (.ife c a b) .v σ s=ev C b .v σ s1:=by
 rw[show ev C (.ife c a b) .v σ s=(ev C c .t σ s).bind fun x s1=>onB x (ev C a .v σ s1) (ev C b .v σ s1)from rfl,h]
 rfl
theorem agb{C:Cf}{c a b:E}{σ:Fr}{s s1:Sto}(h:ev C c .t σ s=.ok (.val (.bl true)) s1):ev C (.ife c a b) .v σ s=ev C a .v σ s1:=by
 rw[show ev C (.ife c a b) .v σ s=(ev C c .t σ s).bind fun x s1=>onB x (ev C a .v σ s1) (ev C b .v σ s1)from rfl,h]
 rfl
@[simp] theorem axy (a b:Bool):eqD 8 (.bl a) (.bl b)=some (a==b):=by simp[eqD]
theorem agt{C:Cf}{e:E}{i:Nat}{a:E}{σ:Fr}{s:Sto}{n:Nat}{α:Type}(f:α→T)(P:α→Prop)(ha:ev C a .v σ s=.ok (.val (.int n)) s)(hn:n≤1000)
  (h:∀m:Nat,m<n→∃x,P x∧ev C e .v (put σ i (.int m)) s=.ok (.val (f x)) s):∃xs:List α,xs.length=n∧(∀x∈xs,P x)∧ev C (.comp e (.one i) (.rng1 a)) .v σ s=.ok (.val (.lst (xs.map f))) s:=by
 obtain⟨xs,h1,h2,h3⟩:=ae8 (F:=fun t s=>onO (aaq σ (.one i) t) fun σ'=>one (ev C e .v σ' s)) (s:=s) f P (aao 0 n) (fun m t hm=>by
  obtain⟨rfl,hlt⟩:=aa1 hm
  obtain⟨x,hx,e⟩:=h m (by omega)
  refine⟨x,hx,?_⟩
  show one (ev C _ .v (put σ i (.int (0+m))) s)=_
  rw[Int.zero_add,e]
  rfl)
 exact⟨xs,by rw[h1,aaJ];omega,h2,af2 (akh ha hn) h3⟩
theorem abO{C:Cf}{e:E}{σ:Fr}{s s1:Sto}{r:R}(h:ev C e .v σ s=.ok r s1):ex C (.exp e) σ s=.next σ s1:=by
 rw[show ex C (.exp e) σ s=(ev C e .v σ s).st σ fun _ s1=>.next σ s1 from rfl,h]
 rfl
theorem aae{C:Cf}{σ:Fr}{s:Sto}:evr C [] σ s=.ok [] s:=by simp
theorem aab{C:Cf}{e:E}{es:List E}{σ:Fr}{s s1 s2:Sto}{x:R}{xs:List R}(h:ev C e .v σ s=.ok x s1)(h2:evr C es σ s1=.ok xs s2):evr C (e::es) σ s=.ok (x::xs) s2:=by
 rw[evr.eq_2,h]
 simp only[Res.bind_ok,h2]
theorem aaj{C:Cf}{es:List E}{f:Nat}{σ:Fr}{s s1 s2:Sto}{r:R}{rs:List R}(h:evr C es σ s=.ok rs s1)(hf:C.cf f rs s1=.ok r s2):ev C (.call f es []) .v σ s=.ok r s2:=by
 rw[show ev C (.call f es []) .v σ s=(evr C es σ s).bind fun rs s1=>C.cf f (rs++([]:List T).map .val) s1 from rfl,h]
 simp only[Res.bind_ok,List.map_nil,List.append_nil,hf]
theorem ab3{C:Cf}{es:List E}{f:Nat}{σ:Fr}{s s1:Sto}{b:Bool}{ds:List T}(h:ev C (.call f es ds) .v σ s=.ok (.val (.bl b)) s1):ev C (.call f es ds) .t σ s=.ok (.val (.bl b)) s1:=by
 have e1:ev C (.call f es ds) .t σ s=fin .t (ev C (.call f es ds) .v σ s):=rfl
 rw[e1,h]
 rfl
theorem aay{C:Cf}{a:E}{es:List E}{c f:Nat}{σ:Fr}{s s1 s2 s3:Sto}{x r:R}{rs:List R}{p:Nat×List (Option T)}(ha:ev C a .v σ s=.ok x s1)(hi:x.locI s1 c=some p)(h:evr C es σ s1=.ok rs s2)(hf:C.cf f (x::rs) s2=.ok r s3):ev C (.meth a c f es []) .v σ s=.ok r s3:=by
 rw[show ev C (.meth a c f es []) .v σ s=(ev C a .v σ s).bind fun x s1=>onO (x.locI s1 c) fun _=>(evr C es σ s1).bind fun rs s2=>C.cf f (x::rs++([]:List T).map .val) s2 from rfl,ha]
 simp only[Res.bind_ok,hi,agw,h,List.map_nil,List.append_nil,hf]
theorem aaG{C:Cf}{c:E}{a b:List S}{σ:Fr}{s s1:Sto}(h:ev C c .t σ s=.ok (.val (.bl false)) s1):ex C (.ifs c a b) σ s=exs C b σ s1:=by
 rw[ag7,h]
 rfl
theorem agH{C:Cf}{c:E}{a b:List S}{σ:Fr}{s s1:Sto}(h:ev C c .t σ s=.ok (.val (.bl true)) s1):ex C (.ifs c a b) σ s=exs C a σ s1:=by
 rw[ag7,h]
 rfl
theorem aak{C:Cf}{σ:Fr}{s:Sto}:exs C [] σ s=.next σ s:=by simp
theorem akQ{C:Cf}{e:E}{i:Nat}{σ:Fr}{s s1:Sto}{t:T}{ts:List T}(ho:ab5 σ i=some ts)(h:ev C e .v σ s=.ok (.val t) s1)(hl:ts.length<1000):ex C (.app i e) σ s=.next (aai σ i (ts++[t])) s1:=by
 rw[show ex C (.app i e) σ s=onS (ab5 σ i) fun ts=>(ev C e .v σ s).st σ fun x s1=>onS x.val? fun t=>if ts.length<lim then .next (aai σ i (ts++[t])) s1 else .stuck from rfl,ho,h]
 simp[show ts.length<lim from Nat.lt_of_lt_of_le hl abw]
theorem aaf{fs:List Fn}{sub:Nat→Nat→Bool}{k f:Nat}{F:Fn}{rs:List R}{s:Sto}(hF:fs[f]?=some F)(hl:rs.length=F.pars):run true fs sub aad (k+1) f rs s=aaC true F.fr (exs (cfX fs sub k) F.body (aam F rs) s):=by
 conv=>lhs;unfold run
 rw[hF]
 exact if_pos hl
theorem ajz{C:Cf}{b h:List S}{c:Nat}{nm:Option Nat}{σ σ1:Fr}{s s1:Sto}(e:exs C b σ s=.next σ1 s1):ex C (.try_ b c nm h) σ s=.next σ1 s1:=by simp[e]
end IP
end
noncomputable section
namespace IP
namespace Pg
open L2
variable{k:Nat}{s:Sto}
abbrev iL(xs:List Int):List T:=xs.map .int
abbrev tI(xs:List Int):T:=.tup (iL xs)
theorem ahZ(i:Int):run true fns sub0 aad (k+1) at6 [.val (.int i)] s=.ok (.val (.bl true)) s:=by
 rw[aaf (F:=awb) rfl rfl]
 simp[awW]
theorem aoU{ts:List T}{m:Nat}{t:T}(h:ts[m]?=some t):L2.atI ts (m:Int)=some t:=by
 have hl:=(List.getElem?_eq_some_iff.mp h).1
 have h2:=(List.getElem?_eq_some_iff.mp h).2
 simp[L2.atI,L2.ixN,hl,h2]
theorem alM{ts:List T}{n:Nat}{t:T}(h:ts[n]?=some t):aaQ (.val (.tup ts)) (n:Int)=some t:=aoU h
theorem aes(xs:List Int)(hn:xs.length≤1000):run true fns sub0 aad (k+2) arl [.val (tI xs),.val (tI xs)] s=.ok (.val (.bl true)) s:=by
 rw[aaf (F:=atr) rfl rfl]
 have hx:exs (cfX fns sub0 (k+1)) avA (aam atr [.val (tI xs),.val (tI xs)]) s=.ret (.val (.bl true)) s:=by
  refine(aaa (σ1:=[some (.val (tI xs)),some (.val (tI xs)),none]) (s1:=s) (by simp)).trans ?_
  obtain⟨σ',e,c,rfl⟩:=aa2 (g:=.one 2) (body:=fun σ s=>exs (cfX fns sub0 (k+1)) aim σ s) (s:=s) (fun _ σ=>∃c,σ=[some (.val (tI xs)),some (.val (tI xs)),c]) (aao 0 xs.length) 0 [some (.val (tI xs)),some (.val (tI xs)),none] ⟨none,rfl⟩ (by
    rintro m t σ hm ⟨c,rfl⟩
    obtain⟨rfl,hlt⟩:=aa1 hm
    have hlt:m<xs.length:=by omega
    have hg:(iL xs)[m]?=some (.int xs[m]):=by simp[hlt]
    have h1:=alM hg
    have w1:=ahZ (k:=k) (s:=s) xs[m]
    refine⟨[some (.val (tI xs)),some (.val (tI xs)),some (.val (.int m))],[some (.val (tI xs)),some (.val (tI xs)),some (.val (.int m))],by simp[aaq],by simp[h1,w1],_,rfl⟩)
  refine(aaa (σ1:=[some (.val (tI xs)),some (.val (tI xs)),c]) (s1:=s) ((aaW (ts:=aao 0 xs.length) (s1:=s) (aaY (n:=xs.length) (by simp) hn) (by intro _ h;cases h)).trans e)).trans ?_
  simp
 rw[hx]
 rfl
abbrev tIs(l:List (List Int)):T:=.lst (l.map tI)
theorem apK(l:List (List Int))(hn:l.length≤1000)(hm:∀xs∈l,xs.length≤1000):run true fns sub0 aad (k+3) amT [.val (tIs l),.val (tIs l)] s=.ok (.val (.bl true)) s:=by
 rw[aaf (F:=atd) rfl rfl]
 have hx:exs (cfX fns sub0 (k+2)) aw1 (aam atd [.val (tIs l),.val (tIs l)]) s=.ret (.val (.bl true)) s:=by
  refine(aaa (σ1:=[some (.val (tIs l)),some (.val (tIs l)),none]) (s1:=s) (by simp)).trans ?_
  obtain⟨σ',e,c,rfl⟩:=aa2 (g:=.one 2) (body:=fun σ s=>exs (cfX fns sub0 (k+2)) aiV σ s) (s:=s) (fun _ σ=>∃c,σ=[some (.val (tIs l)),some (.val (tIs l)),c]) (aao 0 l.length) 0 [some (.val (tIs l)),some (.val (tIs l)),none] ⟨none,rfl⟩ (by
    rintro m t σ hm' ⟨c,rfl⟩
    obtain⟨rfl,hlt⟩:=aa1 hm'
    have hlt:m<l.length:=by omega
    have hg:(l.map tI)[m]?=some (tI l[m]):=by simp[hlt]
    have h1:=abj hg
    have w1:=aes (k:=k) (s:=s) l[m] (hm _ (List.getElem_mem hlt))
    refine⟨[some (.val (tIs l)),some (.val (tIs l)),some (.val (.int m))],[some (.val (tIs l)),some (.val (tIs l)),some (.val (.int m))],by simp[aaq],by simp[h1,w1],_,rfl⟩)
  refine(aaa (σ1:=[some (.val (tIs l)),some (.val (tIs l)),c]) (s1:=s) ((aaW (ts:=aao 0 l.length) (s1:=s) (aaY (n:=l.length) (by simp) hn) (by intro _ h;cases h)).trans e)).trans ?_
  simp
 rw[hx]
 rfl
theorem ayC(ns:List Int)(m:Nat):∃v,run true fns sub0 aad (k+1) ayB [.val (.lst (iL ns)),.val (.int m)] s=.ok (.val (.int v)) s:=by
 rw[aaf (F:=avB) rfl rfl]
 by_cases h:m<ns.length
 ·have hg:(ns.map T.int)[m]?=some (.int ns[m]):=by simp[h]
  have h1:=abj hg
  exact⟨ns[m],by simp[atW,h,h1]⟩
 ·exact⟨0,by simp[atW,h]⟩
def aaE(v:Int):Prop:=0≤v∧v≤2147483646
theorem abd(i:Int){j:Int}(h:0<j):0≤Int.fmod i j∧Int.fmod i j<j:=by
 rw[Int.fmod_eq_emod_of_nonneg _ (by omega)]
 exact⟨Int.emod_nonneg _ (by omega),Int.emod_lt_of_pos _ h⟩
theorem abQ(i:Int):aaE (Int.fmod i 2147483647):=by
 have:=abd i (j:=2147483647) (by decide)
 unfold aaE
 omega
theorem aoW(ns:List Int)(n:Nat)(hn:n≤1000):∃row:List Int,row.length=n∧(∀v∈row,aaE v)∧run true fns sub0 aad (k+2) axm [.val (.lst (iL ns)),.val (.int n)] s=.ok (.val (.lst (iL row))) s:=by
 obtain⟨σ',e,st,row,c,rfl,h1,h2,h3⟩:=aa2 (g:=.one 4) (body:=fun σ s=>exs (cfX fns sub0 (k+1)) ahQ σ s) (s:=s)
  (fun m σ=>∃(st:Int) (row:List Int) (c:Option B),σ=[some (.val (.lst (iL ns))),some (.val (.int n)),some (.val (.int st)),some (.own (iL row)),c]∧aaE st∧row.length=m∧∀v∈row,aaE v) (aao 0 n) 0 [some (.val (.lst (iL ns))),some (.val (.int n)),some (.val (.int 7)),some (.own []),none] ⟨7,[],none,rfl,⟨by decide,by decide⟩,rfl,by simp⟩ (by
   rintro m t σ hm ⟨st,row,c,rfl,h1,h2,h3⟩
   obtain⟨rfl,hlt⟩:=aa1 hm
   obtain⟨v,hv⟩:=ayC (k:=k) (s:=s) ns m
   have hmul:=ad6 (i:=st) (j:=48271) (ab2 (by have:=h1.1;have:=h1.2;omega))
   have hmod:=aaM (i:=st*48271+v+11) (j:=2147483647) (by decide)
   have hz:=abQ (st*48271+v+11)
   have hlim:row.length<lim:=Nat.lt_of_lt_of_le (show row.length<1000 by omega) abw
   refine⟨[some (.val (.lst (iL ns))),some (.val (.int n)),some (.val (.int st)),some (.own (iL row)),some (.val (.int m))],[some (.val (.lst (iL ns))),some (.val (.int n)),some (.val (.int (Int.fmod (st*48271+v+11) 2147483647))),some (.own (iL (row++[Int.fmod (st*48271+v+11) 2147483647]))),some (.val (.int m))],by simp[aaq],by simp[hv,hmul,hmod,ab5,aai,hlim],Int.fmod (st*48271+v+11) 2147483647,row++[Int.fmod (st*48271+v+11) 2147483647],some (.val (.int m)),rfl,hz,by simp[h2],?_⟩
   intro x hx
   rcases List.mem_append.mp hx with z|z
   ·exact h3 x z
   ·rw[List.mem_singleton.mp z];exact hz)
 refine⟨row,?_,h3,?_⟩
 ·rw[h2,aaJ];omega
 ·rw[aaf (F:=atT) rfl rfl]
  have hx:exs (cfX fns sub0 (k+1)) av9 (aam atT [.val (.lst (iL ns)),.val (.int n)]) s=.ret (.val (.lst (iL row))) s:=by
   refine(aaa (σ1:=[some (.val (.lst (iL ns))),some (.val (.int n)),some (.val (.int 7)),none,none]) (s1:=s) (by simp)).trans ?_
   refine(aaa (σ1:=[some (.val (.lst (iL ns))),some (.val (.int n)),some (.val (.int 7)),some (.own []),none]) (s1:=s) (by simp[abn,aai])).trans ?_
   refine(aaa ((aaW (ts:=aao 0 n) (s1:=s) (aaY (n:=n) (by simp) hn) (by intro _ h;cases h)).trans e)).trans ?_
   simp[frz]
  rw[hx]
  rfl
theorem ad9{row:List Int}(hr:∀v∈row,aaE v){m:Nat}(h:m<row.length):∃v,aaE v∧aaQ (.val (.lst (iL row))) (m:Int)=some (.int v)∧row[m]?=some v:=by
 refine⟨row[m],hr _ (List.getElem_mem h),abj (by simp[h]),by simp[h]⟩
structure Spt where
 (x y a b c d:Int)
abbrev Spt.l(p:Spt):List Int:=[p.x,p.y,p.a,p.b,p.c,p.d]
def Spt.fit(p:Spt):Prop:=(-20000≤p.x∧p.x≤20000)∧(-20000≤p.y∧p.y≤20000)∧(-200≤p.a∧p.a≤200)∧(-200≤p.b∧p.b≤200)∧(-200≤p.c∧p.c≤200)∧(-200≤p.d∧p.d≤200)
def tS(p:Spt):T:=.tup [.int p.x,.int p.y,.int p.a,.int p.b,.int p.c,.int p.d]
abbrev aal(l:List Spt):T:=.lst (l.map tS)
theorem aby{C:Cf}{A0 A1 A2 A3 A4 A6:Option B}{st m:Int}(hst:aaE st)(hm:0<m∧m≤20000)(xs:List Int)(hx:xs.length<1000):∃st' v,aaE st'∧(-m≤v∧v≤m)∧
  exs C af3 [A0,A1,A2,A3,A4,some (.val (.int st)),A6,some (.own (iL xs)),some (.val (.int m))] s=.next [A0,A1,A2,A3,A4,some (.val (.int st')),A6,some (.own (iL (xs++[v]))),some (.val (.int m))] s:=by
 have hmul:=ad6 (i:=st) (j:=48271) (ab2 (by have:=hst.1;have:=hst.2;omega))
 have hmod:=aaM (i:=st*48271+11) (j:=2147483647) (by decide)
 have hz:=abQ (st*48271+11)
 generalize Int.fmod (st*48271+11) 2147483647=st' at hmod hz
 have hmul2:=ad6 (i:=2) (j:=m) (ab2 (by decide))
 have hmod2:=aaM (i:=st') (j:=2*m+1) (by omega)
 have hp:=abd st' (j:=2*m+1) (by omega)
 have hlim:xs.length<lim:=Nat.lt_of_lt_of_le hx abw
 exact⟨st',Int.fmod st' (2*m+1)-m,hz,⟨by omega,by omega⟩,by simp[hmul,hmod,hmul2,hmod2,ab5,aai,hlim]⟩
theorem aib(seed:Int)(n:Nat)(hn:n≤900){far stp:Int}(hfar:0<far∧far≤20000)(hstp:0<stp∧stp≤200):∃l:List Spt,l.length=n∧(∀p∈l,p.fit)∧run true fns sub0 aad (k+1) apI [.val (.int seed),.val (.int n),.val (.int far),.val (.int stp)] s=.ok (.val (aal l)) s:=by
 obtain⟨σ',e,st,l,c1,c2,c3,rfl,h1,h2,h3⟩:=aa2 (g:=.one 6) (body:=fun σ s=>exs (cfX fns sub0 k) ail σ s) (s:=s)
  (fun m σ=>∃(st:Int) (l:List Spt) (c1 c2 c3:Option B),σ=[some (.val (.int seed)),some (.val (.int n)),some (.val (.int far)),some (.val (.int stp)),some (.own (l.map tS)),some (.val (.int st)),c1,c2,c3]∧aaE st∧l.length=m∧∀p∈l,p.fit) (aao 0 n) 0
  [some (.val (.int seed)),some (.val (.int n)),some (.val (.int far)),some (.val (.int stp)),some (.own []),some (.val (.int (Int.fmod seed 2147483647))),none,none,none] ⟨_,[],none,none,none,rfl,abQ seed,rfl,by simp⟩ (by
   rintro m t σ hm ⟨st,l,c1,c2,c3,rfl,h1,h2,h3⟩
   obtain⟨rfl,hlt⟩:=aa1 hm
   obtain⟨s1,x,g1,b1,e1⟩:=aby (C:=cfX fns sub0 k) (s:=s) (A0:=some (.val (.int seed))) (A1:=some (.val (.int n))) (A2:=some (.val (.int far))) (A3:=some (.val (.int stp))) (A4:=some (.own (l.map tS))) (A6:=some (.val (.int m))) h1 (m:=far) (by omega) [] (by simp)
   obtain⟨s2,y,g2,b2,e2⟩:=aby (C:=cfX fns sub0 k) (s:=s) (A0:=some (.val (.int seed))) (A1:=some (.val (.int n))) (A2:=some (.val (.int far))) (A3:=some (.val (.int stp))) (A4:=some (.own (l.map tS))) (A6:=some (.val (.int m))) g1 (m:=far) (by omega) [x] (by simp)
   obtain⟨s3,a,g3,b3,e3⟩:=aby (C:=cfX fns sub0 k) (s:=s) (A0:=some (.val (.int seed))) (A1:=some (.val (.int n))) (A2:=some (.val (.int far))) (A3:=some (.val (.int stp))) (A4:=some (.own (l.map tS))) (A6:=some (.val (.int m))) g2 (m:=stp) (by omega) [x,y] (by simp)
   obtain⟨s4,b,g4,b4,e4⟩:=aby (C:=cfX fns sub0 k) (s:=s) (A0:=some (.val (.int seed))) (A1:=some (.val (.int n))) (A2:=some (.val (.int far))) (A3:=some (.val (.int stp))) (A4:=some (.own (l.map tS))) (A6:=some (.val (.int m))) g3 (m:=stp) (by omega) [x,y,a] (by simp)
   obtain⟨s5,c,g5,b5,e5⟩:=aby (C:=cfX fns sub0 k) (s:=s) (A0:=some (.val (.int seed))) (A1:=some (.val (.int n))) (A2:=some (.val (.int far))) (A3:=some (.val (.int stp))) (A4:=some (.own (l.map tS))) (A6:=some (.val (.int m))) g4 (m:=stp) (by omega) [x,y,a,b] (by simp)
   obtain⟨s6,d,g6,b6,e6⟩:=aby (C:=cfX fns sub0 k) (s:=s) (A0:=some (.val (.int seed))) (A1:=some (.val (.int n))) (A2:=some (.val (.int far))) (A3:=some (.val (.int stp))) (A4:=some (.own (l.map tS))) (A6:=some (.val (.int m))) g5 (m:=stp) (by omega) [x,y,a,b,c] (by simp)
   simp only[List.cons_append,List.nil_append,iL,List.map_cons,List.map_nil]at e1 e2 e3 e4 e5 e6
   have hlim:l.length<lim:=Nat.lt_of_lt_of_le (show l.length<1000 by omega) abw
   have hloop:abr (.one 8) (fun σ s=>exs (cfX fns sub0 k) af3 σ s) [.int far,.int far,.int stp,.int stp,.int stp,.int stp] [some (.val (.int seed)),some (.val (.int n)),some (.val (.int far)),some (.val (.int stp)),some (.own (l.map tS)),some (.val (.int st)),some (.val (.int m)),some (.own []),c3] s
     = .next [some (.val (.int seed)),some (.val (.int n)),some (.val (.int far)),some (.val (.int stp)),some (.own (l.map tS)),some (.val (.int s6)),some (.val (.int m)),some (.own (iL [x,y,a,b,c,d])),some (.val (.int stp))] s:=by
    simp only[abr,aaq,adT,put,List.set_cons_succ,List.set_cons_zero,SR.bind_next,e1,e2,e3,e4,e5,e6]
    rfl
   refine⟨[some (.val (.int seed)),some (.val (.int n)),some (.val (.int far)),some (.val (.int stp)),some (.own (l.map tS)),some (.val (.int st)),some (.val (.int m)),c2,c3],[some (.val (.int seed)),some (.val (.int n)),some (.val (.int far)),some (.val (.int stp)),some (.own ((l++[Spt.mk x y a b c d]).map tS)),some (.val (.int s6)),some (.val (.int m)),some (.own (iL [x,y,a,b,c,d])),some (.val (.int stp))],by simp[aaq],?_,s6,l++[Spt.mk x y a b c d],_,_,_,rfl,g6,by simp[h2],?_⟩
   ·refine(aaa (σ1:=[some (.val (.int seed)),some (.val (.int n)),some (.val (.int far)),some (.val (.int stp)),some (.own (l.map tS)),some (.val (.int st)),some (.val (.int m)),some (.own []),c3]) (s1:=s) (by simp[abn,aai])).trans ?_
    refine(aaa ((aaW (ts:=[.int far,.int far,.int stp,.int stp,.int stp,.int stp]) (s1:=s) (by simp) (by intro _ h;cases h)).trans hloop)).trans ?_
    simp[ab5,aai,hlim,tS]
   ·intro p hp
    rcases List.mem_append.mp hp with z|z
    ·exact h3 p z
    ·rw[List.mem_singleton.mp z]
     simp only[Spt.fit]
     omega)
 refine⟨l,?_,h3,?_⟩
 ·rw[h2,aaJ];omega
 ·rw[aaf (F:=as8) rfl rfl]
  have hmod:=aaM (i:=seed) (j:=2147483647) (by decide)
  have hx:exs (cfX fns sub0 k) avs (aam as8 [.val (.int seed),.val (.int n),.val (.int far),.val (.int stp)]) s=.ret (.val (aal l)) s:=by
   refine(aaa (σ1:=[some (.val (.int seed)),some (.val (.int n)),some (.val (.int far)),some (.val (.int stp)),some (.own []),none,none,none,none]) (s1:=s) (by simp[abn,aai])).trans ?_
   refine(aaa (σ1:=[some (.val (.int seed)),some (.val (.int n)),some (.val (.int far)),some (.val (.int stp)),some (.own []),some (.val (.int (Int.fmod seed 2147483647))),none,none,none]) (s1:=s) (by simp[hmod])).trans ?_
   refine(aaa ((aaW (ts:=aao 0 n) (s1:=s) (aaY (n:=n) (by simp) (by omega)) (by intro _ h;cases h)).trans e)).trans ?_
   simp[frz]
  rw[hx]
  rfl
def aiQ(b n:Int):Bool:=decide ((if n<0 then -n else n)≤b)
theorem abB(xs:List Int)(b:Int):run true fns sub0 aad (k+1) axA [.val (tI xs),.val (.int b)] s=.ok (.val (.bl (xs.all (aiQ b)))) s:=by
 rw[aaf (F:=arW) rfl rfl]
 have hc:ev (cfX fns sub0 k) (.comp ahE (.one 2) (.var 0)) .v (aam arW [.val (tI xs),.val (.int b)]) s=.ok (.val (.lst (xs.map fun n=>.bl (aiQ b n)))) s:=
  aa8 (i:=2) xs .int (fun n=>.bl (aiQ b n)) (by simp) (fun n _=>by simp[aiQ])
 have hx:exs (cfX fns sub0 k) avr (aam arW [.val (tI xs),.val (.int b)]) s=.ret (.val (.bl (xs.all (aiQ b)))) s:=aaH (abo (aiZ hc))
 rw[hx]
 rfl
theorem afK(l:List Spt)(h:∀p∈l,p.fit):run true fns sub0 aad (k+2) ay2 [.val (aal l)] s=.ok (.val (.bl true)) s:=by
 rw[aaf (F:=arF) rfl rfl]
 have hc:ev (cfX fns sub0 (k+1)) (.comp aiI (.one 1) (.var 0)) .v (aam arF [.val (aal l)]) s=.ok (.val (.lst (l.map fun _=>.bl ((fun _=>true) ())))) s:=by
  refine aa8 (i:=1) l tS (fun _=>.bl true) (by simp) (fun p hp=>?_)
  obtain⟨h1,h2,h3,h4,h5,h6⟩:=h p hp
  have c1:aem (.val (tS p)) none (some 2)=some (.val (tI [p.x,p.y])):=rfl
  have c2:aem (.val (tS p)) (some 2) none=some (.val (tI [p.a,p.b,p.c,p.d])):=rfl
  have a1:=abB (k:=k) (s:=s) [p.x,p.y] 20000
  have a2:=abB (k:=k) (s:=s) [p.a,p.b,p.c,p.d] 200
  have b1:[p.x,p.y].all (aiQ 20000)=true:=by simp[aiQ];omega
  have b2:[p.a,p.b,p.c,p.d].all (aiQ 200)=true:=by simp[aiQ];omega
  rw[b1]at a1
  rw[b2]at a2
  have hd:∀s,(R.val (tS p)).dr s=.val (tS p):=fun _=>rfl
  simp only[tI,iL,List.map_cons,List.map_nil]at *
  simp[c1,c2,a1,a2,hd]
 have hx:exs (cfX fns sub0 (k+1)) awr (aam arF [.val (aal l)]) s=.ret (.val (.bl (l.all fun _=>true))) s:=aaH (abo (aiZ (f:=fun _=>true) hc))
 rw[hx]
 simp
theorem adI(c:List Spt)(m:List (List Spt))(h3:3≤c.length)(h24:c.length≤24)(hm:m.length=c.length)(h4:∀l∈m,l.length≤4)(hc:∀p∈c,p.fit)(hf:∀l∈m,∀p∈l,p.fit):
  run true fns sub0 aad (k+3) axG [.val (aal c),.val (.lst (m.map aal))] s=.ok (.val .non) s:=by
 rw[aaf (F:=asv) rfl rfl]
 have e1:ev (cfX fns sub0 (k+2)) (.comp aj4 (.one 2) (.var 1)) .v [some (.val (aal c)),some (.val (.lst (m.map aal))),none,none] s=.ok (.val (.lst (m.map fun _=>.bl false))) s:=
  aa8 (i:=2) m aal (fun _=>.bl false) (by simp) (fun l hl=>by have:=h4 l hl;simp;omega)
 have e2:ev (cfX fns sub0 (k+2)) (.comp ajx (.one 3) (.bin .add (.lst [(.var 0)]) (.var 1))) .v [some (.val (aal c)),some (.val (.lst (m.map aal))),none,none] s=.ok (.val (.lst ((c::m).map fun _=>.bl true))) s:=by
  refine aa8 (i:=3) (c::m) aal (fun _=>.bl true) ?_ (fun l hl=>?_)
  ·have hl:1+m.length≤lim:=Nat.le_trans (show 1+m.length≤1000 by omega) abw
   simp[opR,hl]
  ·have hfit:∀p∈l,p.fit:=by
    rcases List.mem_cons.mp hl with rfl|z
    ·exact hc
    ·exact hf l z
   have:=afK (k:=k) (s:=s) l hfit
   simp[this]
 have f1:=aoX (f:=fun _=>false) e1
 have f2:=aiZ (f:=fun _=>true) e2
 have hx:exs (cfX fns sub0 (k+2)) avZ (aam asv [.val (aal c),.val (.lst (m.map aal))]) s=.next [some (.val (aal c)),some (.val (.lst (m.map aal))),none,none] s:=by
  refine(aaa (σ1:=[some (.val (aal c)),some (.val (.lst (m.map aal))),none,none]) (s1:=s) (by simp[show ¬(c.length:Int)<3 by omega,show ¬(24:Int)<c.length by omega])).trans ?_
  refine(aaa (σ1:=[some (.val (aal c)),some (.val (.lst (m.map aal))),none,none]) (s1:=s) (by simp[hm])).trans ?_
  refine(aaa (σ1:=[some (.val (aal c)),some (.val (.lst (m.map aal))),none,none]) (s1:=s) ?_).trans ?_
  ·rw[ag7,aij f1]
   simp
  refine(aaa (σ1:=[some (.val (aal c)),some (.val (.lst (m.map aal))),none,none]) (s1:=s) ?_).trans ?_
  ·rw[ag7,aaT (aij f2)]
   simp
  simp
 rw[hx]
 rfl
theorem aaz{z:Int}{r:R}{ts:List T}(hr:(r.dr s).sq2=some ts)(h:0≤z∧z<ts.length):run true fns sub0 aad (k+1) awv [.val (.int z),r] s=.ok (.val .non) s:=by
 rw[aaf (F:=at4) rfl rfl]
 have hb:b1R .len (r.dr s)=some (.val (.int ts.length)):=by simp[b1R,hr]
 cases r with
 | val t=>simp[anD,hb,show ¬z<0 by omega,show ¬(ts.length:Int)≤z by omega]
 | bor us=>
  simp at hr
  subst hr
  simp[anD,show ¬z<0 by omega,show ¬(us.length:Int)≤z by omega]
theorem aaD{z:Int}{r:R}{ts:List T}(hr:(r.dr s).sq2=some ts)(h:z<0∨ts.length≤z):run true fns sub0 aad (k+1) awv [.val (.int z),r] s=.exc ai5 s:=by
 rw[aaf (F:=at4) rfl rfl]
 have hb:b1R .len (r.dr s)=some (.val (.int ts.length)):=by simp[b1R,hr]
 by_cases h0:z<0
 ·cases r<;>simp[anD,hb,h0]
 ·cases r with
  | val t=>simp[anD,hb,h0,show(ts.length:Int)≤z by omega]
  | bor us=>
   simp at hr
   subst hr
   simp[anD,h0,show(us.length:Int)≤z by omega]
structure Sm where
 (f1 f2 g1 g2:Int)
 t:Bool
 e:Int
 ps:List (Int×Int)
def pT(p:Int×Int):T:=.tup [.int p.1,.int p.2]
def seT(x:Sm):T:=.tup [.tup [.int x.f1,.int x.f2],.tup [.int x.g1,.int x.g2],.bl x.t,.int x.e,.tup (x.ps.map pT)]
def paT(x:Sm):T:=.tup [.tup [.int x.f1,.int x.f2],.tup [.int x.g1,.int x.g2],.bl x.t,.int x.e,.lst (x.ps.map pT)]
structure Bk where
 size:Int
 pc:List (List Spt)
 mrk:List (List (List Spt))
 sm:List Sm
def mkT(m:List (List Spt)):T:=.lst (m.map aal)
structure Ad where
 (o a b c:Nat)
 ls:List Nat
abbrev Ad.fp(A:Ad):List Nat:=A.o::A.a::A.b::A.c::A.ls
structure BAt(s:Sto)(A:Ad)(B:Bk):Prop where
 ins:s[A.o]?=some (.ins 0 [some (.int B.size),some (.loc A.a),some (.loc A.b),some (.loc A.c)])
 pcs:s[A.a]?=some (.lst (A.ls.map .loc))
 mks:s[A.b]?=some (.lst (B.mrk.map mkT))
 sms:s[A.c]?=some (.lst (B.sm.map seT))
 len:A.ls.length=B.pc.length
 pc:∀(i l:Nat) (c:List Spt),A.ls[i]?=some l→B.pc[i]?=some c→s[l]?=some (.lst (c.map tS))
 nd:A.fp.Nodup
abbrev slf(A:Ad):R:=.val (.loc A.o)
def adq(fp:List Nat)(s s':Sto):Prop:=s.length≤s'.length∧∀l,l<s.length→l∉fp→s'[l]?=s[l]?
theorem adq.refl(fp:List Nat)(s:Sto):adq fp s s:=⟨Nat.le_refl _,fun _ _ _=>rfl⟩
section
variable{A:Ad}{B:Bk}(h:BAt s A B)
include h
theorem BAt.f0:ae2 s (.val (.loc A.o)) 0 0=some (.int B.size):=by rw[abu h.ins];rfl
theorem BAt.f1:ae2 s (.val (.loc A.o)) 0 1=some (.loc A.a):=by rw[abu h.ins];rfl
theorem BAt.f2:ae2 s (.val (.loc A.o)) 0 2=some (.loc A.b):=by rw[abu h.ins];rfl
theorem BAt.f3:ae2 s (.val (.loc A.o)) 0 3=some (.loc A.c):=by rw[abu h.ins];rfl
theorem BAt.li:(R.val (.loc A.o)).locI s 0=some (A.o,[some (.int B.size),some (.loc A.a),some (.loc A.b),some (.loc A.c)]):=acH h.ins
theorem BAt.l1:(R.val (.loc A.a)).locL s=some (A.a,A.ls.map .loc):=abL h.pcs
theorem BAt.l2:(R.val (.loc A.b)).locL s=some (A.b,B.mrk.map mkT):=abL h.mks
theorem BAt.l3:(R.val (.loc A.c)).locL s=some (A.c,B.sm.map seT):=abL h.sms
theorem BAt.d1:(R.val (.loc A.a)).dr s=.bor (A.ls.map .loc):=ac6 h.pcs
theorem BAt.d2:(R.val (.loc A.b)).dr s=.bor (B.mrk.map mkT):=ac6 h.mks
theorem BAt.d3:(R.val (.loc A.c)).dr s=.bor (B.sm.map seT):=ac6 h.sms
theorem BAt.lt:∀l∈A.fp,l<s.length:=by
 intro l hl
 rcases List.mem_cons.mp hl with rfl|hl
 ·exact(List.getElem?_eq_some_iff.mp h.ins).1
 rcases List.mem_cons.mp hl with rfl|hl
 ·exact(List.getElem?_eq_some_iff.mp h.pcs).1
 rcases List.mem_cons.mp hl with rfl|hl
 ·exact(List.getElem?_eq_some_iff.mp h.mks).1
 rcases List.mem_cons.mp hl with rfl|hl
 ·exact(List.getElem?_eq_some_iff.mp h.sms).1
 obtain⟨i,hi⟩:=List.getElem?_of_mem hl
 have hil:=(List.getElem?_eq_some_iff.mp hi).1
 have hc:B.pc[i]?=some (B.pc[i]'(by rw[←h.len];exact hil)):=by simp
 exact(List.getElem?_eq_some_iff.mp (h.pc i l _ hi hc)).1
theorem BAt.ne:(A.o≠A.a∧A.o≠A.b∧A.o≠A.c∧A.o∉A.ls)∧(A.a≠A.b∧A.a≠A.c∧A.a∉A.ls)∧(A.b≠A.c∧A.b∉A.ls)∧A.c∉A.ls:=by
 have:=h.nd
 simp only[Ad.fp,List.nodup_cons,List.mem_cons,not_or]at this
 obtain⟨⟨a1,a2,a3,a4⟩,⟨b1,b2,b3⟩,⟨c1,c2⟩,d1,_⟩:=this
 exact⟨⟨a1,a2,a3,a4⟩,⟨b1,b2,b3⟩,⟨c1,c2⟩,d1⟩
theorem BAt.other{s':Sto}(hs:∀l∈A.fp,s'[l]?=s[l]?):BAt s' A B where
 ins:=by rw[hs _ (by simp[Ad.fp])];exact h.ins
 pcs:=by rw[hs _ (by simp[Ad.fp])];exact h.pcs
 mks:=by rw[hs _ (by simp[Ad.fp])];exact h.mks
 sms:=by rw[hs _ (by simp[Ad.fp])];exact h.sms
 len:=h.len
 pc:=fun i l c hl hc=>by rw[hs _ (by have:=List.mem_of_getElem? hl;simp[Ad.fp,this])];exact h.pc i l c hl hc
 nd:=h.nd
end
theorem aaw{s:Sto}{i j:Nat}{c:Cell}(h:i≠j):(s.set i c)[j]?=s[j]?:=List.getElem?_set_ne h
theorem adw{s:Sto}{i:Nat}{c:Cell}(h:i<s.length):(s.set i c)[i]?=some c:=List.getElem?_set_self h
theorem apT(s:Sto):run true fns sub0 aad (k+1) iz5 [.val (.loc s.length)] (s++[.ins 0 [none,none,none,none]])=.ok (.val .non) (s++[.ins 0 [some (.int 0),some (.loc (s.length+1)),some (.loc (s.length+2)),some (.loc (s.length+3))],.lst [],.lst [],.lst []]):=by
 rw[aaf (F:=Fz5) rfl rfl]
 have q:∀(fs:List (Option T)) (r:Sto),(R.val (.loc s.length)).locI (s++.ins 0 fs::r) 0=some (s.length,fs):=fun fs r=>acH (by simp)
 have e:∀(c d:Cell) (r:Sto),(s++c::r).set s.length d=s++d::r:=fun c d r=>by simp
 simp[bz5,q,e]
theorem ao8{σ:Fr}(s:Sto):∃(s':Sto) (A:Ad),ev (cfX fns sub0 (k+1)) (.new 0 iz5 4 [] []) .v σ s=.ok (slf A) s'∧BAt s' A ⟨0,[],[],[]⟩∧adq [] s s'∧A.ls=[]∧∀l∈A.fp,s.length≤l:=by
 have e0:∀n,(s++[Cell.ins 0 [some (T.int 0),some (.loc (s.length+1)),some (.loc (s.length+2)),some (.loc (s.length+3))],.lst [],.lst [],.lst []])[s.length+n]?=([Cell.ins 0 [some (T.int 0),some (.loc (s.length+1)),some (.loc (s.length+2)),some (.loc (s.length+3))],.lst [],.lst [],.lst []]:List Cell)[n]?:=fun n=>by
  rw[List.getElem?_append_right (by omega),Nat.add_sub_cancel_left]
 refine⟨s++[.ins 0 [some (.int 0),some (.loc (s.length+1)),some (.loc (s.length+2)),some (.loc (s.length+3))],.lst [],.lst [],.lst []],⟨s.length,s.length+1,s.length+2,s.length+3,[]⟩,?_,⟨e0 0,e0 1,e0 2,e0 3,rfl,fun i l c h=>by simp at h,?_⟩,⟨by simp,?_⟩,rfl,?_⟩
 ·have h:=apT (k:=k) s
  simp[h]
 ·simp[Ad.fp]
 ·intro l hl _
  rw[List.getElem?_append_left hl]
 ·intro l hl
  simp[Ad.fp]at hl
  omega
theorem acP{A:Ad}{B:Bk}(h:BAt s A B)(c:List Spt)(m:List (List Spt)){t:T}(ht:t=mkT m∨(t=.non∧m=c.map fun _=>[]))(hB:B.pc.length<10)(h3:3≤c.length)(h24:c.length≤24)(hm:m.length=c.length)(h4:∀l∈m,l.length≤4)(hc:∀p∈c,p.fit)(hf:∀l∈m,∀p∈l,p.fit)(hk:B.mrk.length≤10):
  ∃s',run true fns sub0 aad (k+4) iz6 [slf A,.val (aal c),.val t] s=.ok (.val (.int B.pc.length)) s'∧BAt s' ⟨A.o,A.a,A.b,A.c,A.ls++[s.length]⟩ ⟨B.size,B.pc++[c],B.mrk++[m],B.sm⟩∧adq A.fp s s'∧s'.length=s.length+1:=by
 have hcp:=adI (k:=k) (s:=s) c m h3 h24 hm h4 hc hf
 have hcomp:ev (cfX fns sub0 (k+3)) (.ife (.cmp .isN (.var 2) (.cst .non)) (.comp al7 (.one 4) (.var 1)) (.comp alm (.one 5) (.var 2))) .v [some (.val (.loc A.o)),some (.val (aal c)),some (.val t),none,none,none] s=.ok (.val (mkT m)) s:=by
  rcases ht with rfl|⟨rfl,rfl⟩
  ·have:ev (cfX fns sub0 (k+3)) (.cmp .isN (.var 2) (.cst .non)) .t [some (.val (.loc A.o)),some (.val (aal c)),some (.val (mkT m)),none,none,none] s=.ok (.val (.bl false)) s:=by simp[mkT,R.isNon]
   rw[agd this]
   exact aa8 (i:=5) m aal aal (by simp[mkT]) (fun l hl=>by simp)
  ·have:ev (cfX fns sub0 (k+3)) (.cmp .isN (.var 2) (.cst .non)) .t [some (.val (.loc A.o)),some (.val (aal c)),some (.val .non),none,none,none] s=.ok (.val (.bl true)) s:=by simp[R.isNon]
   rw[agb this,aa8 (i:=4) c tS (fun _=>.lst []) (by simp) (fun l hl=>by simp)]
   simp[mkT]
 have hl1:A.ls.length<lim:=Nat.lt_of_lt_of_le (show A.ls.length<1000 by have:=h.len;omega) abw
 have hl2:B.mrk.length<lim:=Nat.lt_of_lt_of_le (show B.mrk.length<1000 by omega) abw
 have lt:=h.lt
 obtain⟨⟨n1,n2,n3,n4⟩,⟨n5,n6,n7⟩,⟨n8,n9⟩,n10⟩:=h.ne
 have ltA:=lt A.a (by simp[Ad.fp])
 have ltB:=lt A.b (by simp[Ad.fp])
 have ltC:=lt A.c (by simp[Ad.fp])
 have ltO:=lt A.o (by simp[Ad.fp])
 have app:∀l,l<s.length→(s++[Cell.lst (c.map tS)])[l]?=s[l]?:=fun l hl=>List.getElem?_append_left hl
 refine⟨((s++[Cell.lst (c.map tS)]).set A.a (Cell.lst (A.ls.map T.loc++[T.loc s.length]))).set A.b (Cell.lst (B.mrk.map mkT++[mkT m])),?_,⟨?_,?_,?_,?_,by simp[h.len],fun i l c' hl hc'=>?_,?_⟩,⟨by simp,fun l hl hn=>?_⟩,by simp⟩
 ·rw[aaf (F:=Fz6) rfl rfl]
  have hx:exs (cfX fns sub0 (k+3)) bz6 (aam Fz6 [slf A,.val (aal c),.val t]) s=.ret (.val (.int B.pc.length)) (((s++[Cell.lst (c.map tS)]).set A.a (Cell.lst (A.ls.map T.loc++[T.loc s.length]))).set A.b (Cell.lst (B.mrk.map mkT++[mkT m]))):=by
   refine(aaa (σ1:=[some (.val (.loc A.o)),some (.val (aal c)),some (.val t),none,none,none]) (s1:=s) (by simp[h.f1,h.d1,h.len,show ¬(10:Int)≤B.pc.length by omega])).trans ?_
   refine(aaa (σ1:=[some (.val (.loc A.o)),some (.val (aal c)),some (.val t),some (.val (mkT m)),none,none]) (s1:=s) (aaI hcomp)).trans ?_
   refine(aaa (σ1:=[some (.val (.loc A.o)),some (.val (aal c)),some (.val t),some (.val (mkT m)),none,none]) (s1:=s) (by simp[mkT]at *;simp[hcp])).trans ?_
   have a1:(R.val (.loc A.a)).locL (s++[Cell.lst (c.map tS)])=some (A.a,A.ls.map .loc):=abL (by rw[app _ ltA];exact h.pcs)
   refine(aaa (σ1:=[some (.val (.loc A.o)),some (.val (aal c)),some (.val t),some (.val (mkT m)),none,none]) (s1:=(s++[Cell.lst (c.map tS)]).set A.a (Cell.lst (A.ls.map T.loc++[T.loc s.length]))) (by simp[h.f1,h.l1,a1,hl1])).trans ?_
   have b0:ae2 ((s++[Cell.lst (c.map tS)]).set A.a (Cell.lst (A.ls.map T.loc++[T.loc s.length]))) (.val (.loc A.o)) 0 2=some (.loc A.b):=by
    rw[abu (by rw[aaw (Ne.symm n1),app _ ltO];exact h.ins)];rfl
   have b1:(R.val (.loc A.b)).locL ((s++[Cell.lst (c.map tS)]).set A.a (Cell.lst (A.ls.map T.loc++[T.loc s.length])))=some (A.b,B.mrk.map mkT):=abL (by rw[aaw n5,app _ ltB];exact h.mks)
   refine(aaa (σ1:=[some (.val (.loc A.o)),some (.val (aal c)),some (.val t),some (.val (mkT m)),none,none]) (s1:=((s++[Cell.lst (c.map tS)]).set A.a (Cell.lst (A.ls.map T.loc++[T.loc s.length]))).set A.b (Cell.lst (B.mrk.map mkT++[mkT m]))) (by simp[b0,b1,hl2])).trans ?_
   have c0:ae2 (((s++[Cell.lst (c.map tS)]).set A.a (Cell.lst (A.ls.map T.loc++[T.loc s.length]))).set A.b (Cell.lst (B.mrk.map mkT++[mkT m]))) (.val (.loc A.o)) 0 1=some (.loc A.a):=by
    rw[abu (by rw[aaw (Ne.symm n2),aaw (Ne.symm n1),app _ ltO];exact h.ins)];rfl
   have c1:(R.val (.loc A.a)).dr (((s++[Cell.lst (c.map tS)]).set A.a (Cell.lst (A.ls.map T.loc++[T.loc s.length]))).set A.b (Cell.lst (B.mrk.map mkT++[mkT m])))=.bor (A.ls.map .loc++[.loc s.length]):=ac6 (by rw[aaw (Ne.symm n5),adw (by simp;omega)])
   simp[c0,c1,h.len]
  rw[hx]
  rfl
 ·show _=_
  rw[aaw (Ne.symm n2),aaw (Ne.symm n1),app _ ltO];exact h.ins
 ·show _=_
  rw[aaw (Ne.symm n5),adw (by simp;omega)];simp
 ·show _=_
  rw[adw (by simp;omega)];simp
 ·show _=_
  rw[aaw n8,aaw n6,app _ ltC];exact h.sms
 ·have hl:(A.ls++[s.length])[i]?=some l:=hl
  have hc':(B.pc++[c])[i]?=some c':=hc'
  by_cases hi:i<A.ls.length
  ·rw[List.getElem?_append_left hi]at hl
   rw[List.getElem?_append_left (by rw[←h.len];exact hi)]at hc'
   have hm':=List.mem_of_getElem? hl
   rw[aaw (fun e=>n9 (by rw[e];exact hm')),aaw (fun e=>n7 (by rw[e];exact hm')),app _ (lt l (by simp[Ad.fp,hm']))]
   exact h.pc i l c' hl hc'
  ·have hi2:=(List.getElem?_eq_some_iff.mp hl).1
   have:i=A.ls.length:=by simp at hi2;omega
   subst this
   simp at hl
   subst hl
   rw[h.len]at hc'
   simp at hc'
   subst hc'
   rw[aaw (by omega),aaw (by omega)]
   simp
 ·have nd:=h.nd
  have hn:s.length∉A.fp:=fun q=>Nat.lt_irrefl _ (lt _ q)
  show(A.o::A.a::A.b::A.c::(A.ls++[s.length])).Nodup
  rw[show A.o::A.a::A.b::A.c::(A.ls++[s.length])=A.fp++[s.length]from rfl]
  rw[List.nodup_append]
  exact⟨nd,by simp,fun a ha b hb=>by simp at hb;subst hb;exact fun e=>hn (e▸ha)⟩
 ·simp only[Ad.fp,List.mem_cons,not_or]at hn
  rw[aaw (Ne.symm hn.2.2.1),aaw (Ne.symm hn.2.1),app _ hl]
theorem BAt.pAt{A:Ad}{B:Bk}(h:BAt s A B){i:Nat}{c:List Spt}(hc:B.pc[i]?=some c):∃l,A.ls[i]?=some l∧s[l]?=some (.lst (c.map tS)):=by
 have hi:i<A.ls.length:=by rw[h.len];exact(List.getElem?_eq_some_iff.mp hc).1
 have e:A.ls[i]?=some A.ls[i]:=by simp[hi]
 exact⟨_,e,h.pc i _ c e hc⟩
theorem adC{A:Ad}{B:Bk}(h:BAt s A B){i:Nat}{c:List Spt}(hc:B.pc[i]?=some c):run true fns sub0 aad (k+2) arK [slf A,.val (.int i)] s=.ok (.val (aal c)) s:=by
 rw[aaf (F:=axo) rfl rfl]
 obtain⟨l,el,es⟩:=h.pAt hc
 have hi:i<A.ls.length:=(List.getElem?_eq_some_iff.mp el).1
 have hct:=aaz (k:=k) (s:=s) (r:=.val (.loc A.a)) (ts:=A.ls.map .loc) (z:=i) (by rw[h.d1];rfl) ⟨by omega,by simp[hi]⟩
 have hg:=ack (ts:=A.ls.map T.loc) (n:=i) (t:=.loc l) (by simp[el])
 have hd:=ac6 es
 simp[axl,h.f1,h.d1,hct,hg,hd]
theorem acl{A:Ad}{B:Bk}(h:BAt s A B){i j:Nat}{m:List (List Spt)}{l:List Spt}(hm:B.mrk[i]?=some m)(hj:m[j]?=some l):run true fns sub0 aad (k+2) aiL [slf A,.val (.int i),.val (.int j)] s=.ok (.val (aal l)) s:=by
 rw[aaf (F:=arZ) rfl rfl]
 have hi:i<B.mrk.length:=(List.getElem?_eq_some_iff.mp hm).1
 have hj':j<m.length:=(List.getElem?_eq_some_iff.mp hj).1
 have hc:=aaz (k:=k) (s:=s) (r:=.val (.loc A.b)) (ts:=B.mrk.map mkT) (z:=i) (by rw[h.d2];rfl) ⟨by omega,by simp[hi]⟩
 have hg:=ack (ts:=B.mrk.map mkT) (n:=i) (t:=mkT m) (by simp[hm])
 have hc2:=aaz (k:=k) (s:=s) (r:=.val (mkT m)) (ts:=m.map aal) (z:=j) rfl ⟨by omega,by simp[hj']⟩
 have hg2:aaQ (.val (mkT m)) (j:Int)=some (aal l):=abj (by simp[hj])
 have hd:∀s,(R.val (mkT m)).dr s=.val (mkT m):=fun _=>rfl
 simp[arL,h.f2,h.d2,hc,hg,hc2,hd,hg2]
def avT(a b c d:Int):Bool:=[a,b,c,d].all (aiQ 200)
theorem BAt.setP{A:Ad}{B:Bk}(h:BAt s A B){i l:Nat}{c:List Spt}(hl:A.ls[i]?=some l):BAt (s.set l (.lst (c.map tS))) A ⟨B.size,B.pc.set i c,B.mrk,B.sm⟩:=by
 have hm:=List.mem_of_getElem? hl
 obtain⟨⟨_,_,_,n4⟩,⟨_,_,n7⟩,⟨_,n9⟩,n10⟩:=h.ne
 have hlt:=h.lt l (by simp[Ad.fp,hm])
 have hne:∀x,x∉A.ls→l≠x:=fun x hx e=>hx (e▸hm)
 refine⟨?_,?_,?_,?_,by simp[h.len],fun i' l' c' hl' hc'=>?_,h.nd⟩
 ·rw[aaw (hne _ n4)];exact h.ins
 ·rw[aaw (hne _ n7)];exact h.pcs
 ·rw[aaw (hne _ n9)];exact h.mks
 ·rw[aaw (hne _ n10)];exact h.sms
 ·have hc':(B.pc.set i c)[i']?=some c':=hc'
  by_cases hi:i=i'
  ·subst hi
   rw[hl]at hl'
   cases hl'
   have hil:i<B.pc.length:=by rw[←h.len];exact(List.getElem?_eq_some_iff.mp hl).1
   rw[List.getElem?_set_self hil]at hc'
   cases hc'
   rw[adw hlt]
  ·rw[List.getElem?_set_ne hi]at hc'
   have nd:=h.nd
   have ndl:A.ls.Nodup:=by
    simp only[Ad.fp,List.nodup_cons]at nd
    exact nd.2.2.2.2
   have hll:l≠l':=fun e=>by
    subst e
    obtain⟨a1,a2⟩:=List.getElem?_eq_some_iff.mp hl
    obtain⟨b1,b2⟩:=List.getElem?_eq_some_iff.mp hl'
    exact hi ((List.getElem_inj ndl).mp (a2.trans b2.symm))
   rw[aaw hll]
   exact h.pc i' l' c' hl' hc'
section
variable{A:Ad}{B:Bk}(h:BAt s A B){a b c d:Int}
include h
theorem agN{i j:Nat}{cs:List Spt}{p:Spt}(hc:B.pc[i]?=some cs)(hj:cs[j]?=some p)(hw:avT a b c d=true):
  ∃s',run true fns sub0 aad (k+2) awm [slf A,.val (.int i),.val (.int j),.val (.tup [.int a,.int b]),.val (.tup [.int c,.int d])] s=.ok (.val .non) s'∧BAt s' A ⟨B.size,B.pc.set i (cs.set j ⟨p.x,p.y,a,b,c,d⟩),B.mrk,B.sm⟩∧adq A.fp s s'∧s'.length=s.length:=by
 obtain⟨l,el,es⟩:=h.pAt hc
 have hi:i<A.ls.length:=(List.getElem?_eq_some_iff.mp el).1
 have hjl:j<cs.length:=(List.getElem?_eq_some_iff.mp hj).1
 have hm:=List.mem_of_getElem? el
 refine⟨s.set l (.lst ((cs.set j ⟨p.x,p.y,a,b,c,d⟩).map tS)),?_,h.setP el,⟨by simp,fun x _ hn=>?_⟩,by simp⟩
 ·rw[aaf (F:=av6) rfl rfl]
  have hct:=aaz (k:=k) (s:=s) (r:=.val (.loc A.a)) (ts:=A.ls.map .loc) (z:=i) (by rw[h.d1];rfl) ⟨by omega,by simp[hi]⟩
  have hg:=ack (ts:=A.ls.map T.loc) (n:=i) (t:=.loc l) (by simp[el])
  have hc2:=aaz (k:=k) (s:=s) (r:=.val (.loc l)) (ts:=cs.map tS) (z:=j) (by rw[ac6 es];rfl) ⟨by omega,by simp[hjl]⟩
  have a1:=abB (k:=k) (s:=s) [a,b,c,d] 200
  rw[show([a,b,c,d].all (aiQ 200))=avT a b c d from rfl,hw]at a1
  simp only[tI,iL,List.map_cons,List.map_nil]at a1
  have hd:=ac6 es
  have hL:=abL es
  have hg2:=ack (ts:=cs.map tS) (n:=j) (t:=tS p) (by simp[hj])
  have hcut:aem (.val (tS p)) none (some 2)=some (.val (.tup [.int p.x,.int p.y])):=rfl
  have hdr:(R.val (tS p)).dr s=.val (tS p):=rfl
  have hadd:opR .add (.val (.tup [.int p.x,.int p.y])) (.val (.tup [.int a,.int b,.int c,.int d]))=some (.val (tS ⟨p.x,p.y,a,b,c,d⟩)):=by
   simp[opR,tS]
   decide
  have hix:L2.ixN (cs.map tS).length (j:Int)=some j:=by simp[L2.ixN,hjl]
  simp[axe,h.f1,h.d1,hct,hg,hc2,a1,hd,hL,hg2,hdr,hcut,hadd]
  simp at hix
  simp[hix,List.map_set]
 ·rw[aaw (fun e=>hn (by simp[Ad.fp,←e,hm]))]
end
theorem acx{A:Ad}{B:Bk}(hb:BAt s A B){z:Int}{r:R}(h:z<0∨B.mrk.length≤z):run true fns sub0 aad (k+2) aiL [slf A,.val (.int z),r] s=.exc ai5 s:=by
 rw[aaf (F:=arZ) rfl rfl]
 have hc:=aaD (k:=k) (s:=s) (r:=.val (.loc A.b)) (ts:=B.mrk.map mkT) (z:=z) (by rw[hb.d2];rfl) (by simp;exact h)
 simp[arL,hb.f2,hc]
theorem ach{A:Ad}{B:Bk}(hb:BAt s A B){i:Nat}{m:List (List Spt)}{z:Int}(h:B.mrk[i]?=some m)(hz:z<0∨m.length≤z):run true fns sub0 aad (k+2) aiL [slf A,.val (.int i),.val (.int z)] s=.exc ai5 s:=by
 rw[aaf (F:=arZ) rfl rfl]
 have hi:i<B.mrk.length:=(List.getElem?_eq_some_iff.mp h).1
 have hc:=aaz (k:=k) (s:=s) (r:=.val (.loc A.b)) (ts:=B.mrk.map mkT) (z:=i) (by rw[hb.d2];rfl) ⟨by omega,by simp[hi]⟩
 have hg:=ack (ts:=B.mrk.map mkT) (n:=i) (t:=mkT m) (by simp[h])
 have hc2:=aaD (k:=k) (s:=s) (r:=.val (mkT m)) (ts:=m.map aal) (z:=z) rfl (by simp;exact hz)
 simp[arL,hb.f2,hb.d2,hc,hg,hc2]
def aa9(B:Bk)(p q:Int):Option (List Spt):=if 0≤p∧0≤q then(B.mrk[p.toNat]?).bind (·[q.toNat]?)else none
def an8(s:Sto)(o:Option (List Spt)):Res R:=match o with
 | some l=>.ok (.val (aal l)) s
 | none=>.exc ai5 s
theorem agu{A:Ad}{B:Bk}(hb:BAt s A B)(p q:Int):run true fns sub0 aad (k+2) aiL [slf A,.val (.int p),.val (.int q)] s=an8 s (aa9 B p q):=by
 unfold aa9
 by_cases hp:p<0
 ·rw[if_neg (by omega)]
  exact acx hb (.inl hp)
 cases hm:B.mrk[p.toNat]? with
 | none=>
  have hl:B.mrk.length≤p.toNat:=List.getElem?_eq_none_iff.mp hm
  rw[acx hb (.inr (by omega))]
  split<;>rfl
 | some m=>
  have ep:p=(p.toNat:Int):=by omega
  by_cases hq:q<0
  ·rw[if_neg (by omega)]
   have:=ach (k:=k) hb (i:=p.toNat) (z:=q) hm (.inl hq)
   rw[←ep]at this
   exact this
  rw[if_pos (by omega)]
  have eq:q=(q.toNat:Int):=by omega
  cases hl:m[q.toNat]? with
  | none=>
   have hl':m.length≤q.toNat:=List.getElem?_eq_none_iff.mp hl
   have:=ach (k:=k) hb (i:=p.toNat) (z:=q) hm (.inr (by omega))
   rw[←ep]at this
   rw[this]
   simp[hl,an8]
  | some l=>
   have:=acl (k:=k) hb (i:=p.toNat) (j:=q.toNat) hm hl
   rw[←ep,←eq]at this
   rw[this]
   simp[hl,an8]
def inR(n:Nat)(i:Int):Bool:=decide (0≤i)&&decide (i<n)
def abf(a b:Nat)(ps:List (Int×Int)):Bool:=ps.all fun p=>inR a p.1&&inR b p.2
theorem adD{l l':List Spt}{A0 A1 A2 A3:Option IP.B}:∀(ps:List (Int×Int)) (c:Option IP.B),∃c',abr (.one 6) (fun σ s=>exs (cfX fns sub0 (k+1)) acw σ s) (ps.map pT) [A0,A1,A2,A3,some (.val (aal l)),some (.val (aal l')),c] s
   = if abf l.length l'.length ps then .next [A0,A1,A2,A3,some (.val (aal l)),some (.val (aal l')),c'] s else .exc ai5 [A0,A1,A2,A3,some (.val (aal l)),some (.val (aal l')),c'] s
 | [],c=>⟨c,rfl⟩
 | p::ps,c=>by
  have h0:aaQ (.val (pT p)) 0=some (.int p.1):=rfl
  have h1:aaQ (.val (pT p)) 1=some (.int p.2):=rfl
  have hd:∀s,(R.val (pT p)).dr s=.val (pT p):=fun _=>rfl
  rw[List.map_cons]
  unfold abr
  show ∃c',(exs (cfX fns sub0 (k+1)) acw [A0,A1,A2,A3,some (.val (aal l)),some (.val (aal l')),some (.val (pT p))] s).bind _=_
  by_cases q1:inR l.length p.1=true
  ·have e1:=aaz (k:=k) (s:=s) (r:=.val (aal l)) (ts:=l.map tS) (z:=p.1) rfl (by unfold inR at q1;simp at q1 ⊢;exact q1)
   by_cases q2:inR l'.length p.2=true
   ·have e2:=aaz (k:=k) (s:=s) (r:=.val (aal l')) (ts:=l'.map tS) (z:=p.2) rfl (by unfold inR at q2;simp at q2 ⊢;exact q2)
    obtain⟨c',e⟩:=adD (l:=l) (l':=l') (A0:=A0) (A1:=A1) (A2:=A2) (A3:=A3) ps (some (.val (pT p)))
    refine⟨c',?_⟩
    have:exs (cfX fns sub0 (k+1)) acw [A0,A1,A2,A3,some (.val (aal l)),some (.val (aal l')),some (.val (pT p))] s=.next [A0,A1,A2,A3,some (.val (aal l)),some (.val (aal l')),some (.val (pT p))] s:=by simp[h0,h1,hd,e1,e2]
    have hq:abf l.length l'.length (p::ps)=abf l.length l'.length ps:=by
     unfold abf
     rw[List.all_cons,q1,q2]
     rfl
    rw[this,SR.bind_next,e,hq]
   ·have e2:=aaD (k:=k) (s:=s) (r:=.val (aal l')) (ts:=l'.map tS) (z:=p.2) rfl (by unfold inR at q2;simp at q2 ⊢;omega)
    refine⟨some (.val (pT p)),?_⟩
    have:exs (cfX fns sub0 (k+1)) acw [A0,A1,A2,A3,some (.val (aal l)),some (.val (aal l')),some (.val (pT p))] s=.exc ai5 [A0,A1,A2,A3,some (.val (aal l)),some (.val (aal l')),some (.val (pT p))] s:=by simp[h0,h1,hd,e1,e2]
    rw[this]
    simp[abf,q1,q2]
  ·have e1:=aaD (k:=k) (s:=s) (r:=.val (aal l)) (ts:=l.map tS) (z:=p.1) rfl (by unfold inR at q1;simp at q1 ⊢;omega)
   refine⟨some (.val (pT p)),?_⟩
   have:exs (cfX fns sub0 (k+1)) acw [A0,A1,A2,A3,some (.val (aal l)),some (.val (aal l')),some (.val (pT p))] s=.exc ai5 [A0,A1,A2,A3,some (.val (aal l)),some (.val (aal l')),some (.val (pT p))] s:=by simp[h0,h1,hd,e1]
   rw[this]
   simp[abf,q1]
def abN(B:Bk)(a b:Option (List Spt))(ps:List (Int×Int)):Bool:=match a,b with
 | some l,some l'=>abf l.length l'.length ps
 | _,_=>false
theorem aeh{A:Ad}{B:Bk}(hb:BAt s A B)(x:Sm):run true fns sub0 aad (k+3) iz9 [slf A,.val (.tup [.int x.f1,.int x.f2]),.val (.tup [.int x.g1,.int x.g2]),.val (.tup (x.ps.map pT))] s=if abN B (aa9 B x.f1 x.f2) (aa9 B x.g1 x.g2) x.ps then .ok (.val .non) s else .exc ai5 s:=by
 rw[aaf (F:=Fz9) rfl rfl]
 have m1:=agu (k:=k) hb x.f1 x.f2
 have m2:=agu (k:=k) hb x.g1 x.g2
 cases h1:aa9 B x.f1 x.f2 with
 | none=>
  rw[h1]at m1
  have m1:run true fns sub0 aad (k+2) aiL [slf A,.val (.int x.f1),.val (.int x.f2)] s=.exc ai5 s:=m1
  simp[bz9,hb.li,m1,abN]
 | some l=>
  rw[h1]at m1
  have m1:run true fns sub0 aad (k+2) aiL [slf A,.val (.int x.f1),.val (.int x.f2)] s=.ok (.val (aal l)) s:=m1
  cases h2:aa9 B x.g1 x.g2 with
  | none=>
   rw[h2]at m2
   have m2:run true fns sub0 aad (k+2) aiL [slf A,.val (.int x.g1),.val (.int x.g2)] s=.exc ai5 s:=m2
   simp[bz9,hb.li,m1,m2,abN]
  | some l'=>
   rw[h2]at m2
   have m2:run true fns sub0 aad (k+2) aiL [slf A,.val (.int x.g1),.val (.int x.g2)] s=.ok (.val (aal l')) s:=m2
   obtain⟨c',e⟩:=adD (k:=k+1) (s:=s) (l:=l) (l':=l') (A0:=some (.val (.loc A.o))) (A1:=some (.val (.tup [.int x.f1,.int x.f2]))) (A2:=some (.val (.tup [.int x.g1,.int x.g2]))) (A3:=some (.val (.tup (x.ps.map pT)))) x.ps none
   have h0:∀a b:Int,aaQ (.val (.tup [.int a,.int b])) 0=some (.int a):=fun _ _=>rfl
   have hx:exs (cfX fns sub0 (k+2)) bz9 (aam Fz9 [slf A,.val (.tup [.int x.f1,.int x.f2]),.val (.tup [.int x.g1,.int x.g2]),.val (.tup (x.ps.map pT))]) s=if abf l.length l'.length x.ps then .next [some (.val (.loc A.o)),some (.val (.tup [.int x.f1,.int x.f2])),some (.val (.tup [.int x.g1,.int x.g2])),some (.val (.tup (x.ps.map pT))),some (.val (aal l)),some (.val (aal l')),c'] s else .exc ai5 [some (.val (.loc A.o)),some (.val (.tup [.int x.f1,.int x.f2])),some (.val (.tup [.int x.g1,.int x.g2])),some (.val (.tup (x.ps.map pT))),some (.val (aal l)),some (.val (aal l')),c'] s:=by
    refine(aaa (σ1:=[some (.val (.loc A.o)),some (.val (.tup [.int x.f1,.int x.f2])),some (.val (.tup [.int x.g1,.int x.g2])),some (.val (.tup (x.ps.map pT))),some (.val (aal l)),none,none]) (s1:=s) (by simp[hb.li,m1])).trans ?_
    refine(aaa (σ1:=[some (.val (.loc A.o)),some (.val (.tup [.int x.f1,.int x.f2])),some (.val (.tup [.int x.g1,.int x.g2])),some (.val (.tup (x.ps.map pT))),some (.val (aal l)),some (.val (aal l')),none]) (s1:=s) (by simp[hb.li,m2])).trans ?_
    have hfor:ex (cfX fns sub0 (k+2)) (.for_ (.one 6) (.var 3) acw) [some (.val (.loc A.o)),some (.val (.tup [.int x.f1,.int x.f2])),some (.val (.tup [.int x.g1,.int x.g2])),some (.val (.tup (x.ps.map pT))),some (.val (aal l)),some (.val (aal l')),none] s=abr (.one 6) (fun σ s=>exs (cfX fns sub0 (k+2)) acw σ s) (x.ps.map pT) [some (.val (.loc A.o)),some (.val (.tup [.int x.f1,.int x.f2])),some (.val (.tup [.int x.g1,.int x.g2])),some (.val (.tup (x.ps.map pT))),some (.val (aal l)),some (.val (aal l')),none] s:=by
     rw[ex.eq_11]
     simp[ab8]
    rw[acA,hfor,e]
    split<;>simp
   rw[show Fz9.body=bz9 from rfl,hx]
   show aaC true false _=_
   simp only[abN]
   by_cases hpo:abf l.length l'.length x.ps=true<;>simp[hpo]
def aba(x:Sm):Bool:=((x.f1==x.g1)&&(x.f2==x.g2))||decide (x.e<0)||decide (400<x.e)||decide (4<x.ps.length)
theorem acZ(a b c d:Int):eqD 8 (.tup [.int a,.int b]) (.tup [.int c,.int d])=some ((a==c)&&(b==d)):=by
 simp[eqD,eqL]
theorem aeF(x:Sm):run true fns sub0 aad (k+1) ax8 [.val (.tup [.int x.f1,.int x.f2]),.val (.tup [.int x.g1,.int x.g2]),.val (.int x.e),.val (.tup (x.ps.map pT))] s=if aba x then .exc xz2 s else .ok (.val .non) s:=by
 rw[aaf (F:=av7) rfl rfl]
 by_cases h1:((x.f1==x.g1)&&(x.f2==x.g2))=true
 ·simp only[aba,h1]
  simp only[Bool.and_eq_true,beq_iff_eq]at h1
  simp[anI,acZ,h1]
 ·by_cases h2:x.e<0
  ·simp only[aba,h2]
   simp[anI,acZ,h1,h2]
  ·by_cases h3:400<x.e
   ·simp only[aba,h3]
    simp[anI,acZ,h1,h2,h3]
   ·by_cases h4:4<x.ps.length
    ·simp only[aba,h4]
     simp[anI,acZ,h1,h2,h3,show(4:Int)<x.ps.length by omega]
    ·have h4':¬(4:Int)<x.ps.length:=by omega
     simp only[Bool.not_eq_true]at h1
     simp[aba,anI,acZ,h1,h2,h3,h4,h4']
abbrev fT(x:Sm):T:=.tup [.int x.f1,.int x.f2]
abbrev gT(x:Sm):T:=.tup [.int x.g1,.int x.g2]
def akn(B:Bk)(x:Sm):Int:=if 30≤B.sm.length then 1 else if abN B (aa9 B x.f1 x.f2) (aa9 B x.g1 x.g2) x.ps=true then(if aba x=true then 4 else 0)else 2
theorem ajV{A:Ad}{B:Bk}(hb:BAt s A B)(x:Sm){pv:T}(hpv:pv=.lst (x.ps.map pT)∨(pv=.non∧x.ps=[]))(h30:¬30≤B.sm.length):exs (cfX fns sub0 (k+3)) bz7 (aam Fz7 [slf A,.val (fT x),.val (gT x),.val (.bl x.t),.val (.int x.e),.val pv]) s=exs (cfX fns sub0 (k+3)) (bz7.drop 2) [some (.val (.loc A.o)),some (.val (fT x)),some (.val (gT x)),some (.val (.bl x.t)),some (.val (.int x.e)),some (.val pv),some (.val (.tup (x.ps.map pT)))] s:=by
 have h30':¬(30:Int)≤B.sm.length:=by omega
 refine(aaa (σ1:=[some (.val (.loc A.o)),some (.val (fT x)),some (.val (gT x)),some (.val (.bl x.t)),some (.val (.int x.e)),some (.val pv),none]) (s1:=s) (by simp[hb.f3,hb.d3,h30'])).trans ?_
 refine(aaa (σ1:=[some (.val (.loc A.o)),some (.val (fT x)),some (.val (gT x)),some (.val (.bl x.t)),some (.val (.int x.e)),some (.val pv),some (.val (.tup (x.ps.map pT)))]) (s1:=s) ?_).trans rfl
 rcases hpv with rfl|⟨rfl,hp⟩
 ·simp[R.isNon]
 ·simp[R.isNon,hp]
theorem ahk{A:Ad}{B:Bk}(hb:BAt s A B)(x:Sm){pv:T}(hpv:pv=.lst (x.ps.map pT)∨(pv=.non∧x.ps=[]))(hd:akn B x=0):
  ∃s',run true fns sub0 aad (k+4) iz7 [slf A,.val (fT x),.val (gT x),.val (.bl x.t),.val (.int x.e),.val pv] s=.ok (.val (.int B.sm.length)) s'∧BAt s' A ⟨B.size,B.pc,B.mrk,B.sm++[x]⟩∧adq A.fp s s'∧s'.length=s.length:=by
 unfold akn at hd
 by_cases h30:30≤B.sm.length
 ·rw[if_pos h30]at hd;cases hd
 rw[if_neg h30]at hd
 by_cases hp:abN B (aa9 B x.f1 x.f2) (aa9 B x.g1 x.g2) x.ps=true
 rotate_left
 ·rw[if_neg hp]at hd;cases hd
 rw[if_pos hp]at hd
 by_cases hbs:aba x=true
 ·rw[if_pos hbs]at hd;cases hd
 have cp:=aeh (k:=k) hb x
 have cs:=aeF (k:=k+2) (s:=s) x
 rw[if_pos hp]at cp
 rw[if_neg hbs]at cs
 have hl:B.sm.length<lim:=Nat.lt_of_lt_of_le (show B.sm.length<1000 by omega) abw
 obtain⟨⟨n1,n2,n3,n4⟩,⟨n5,n6,n7⟩,⟨n8,n9⟩,n10⟩:=hb.ne
 have ltC:=hb.lt A.c (by simp[Ad.fp])
 have es:(s.set A.c (.lst (B.sm.map seT++[seT x])))[A.c]?=some (.lst (B.sm.map seT++[seT x])):=adw ltC
 refine⟨s.set A.c (.lst (B.sm.map seT++[seT x])),?_,⟨?_,?_,?_,?_,hb.len,fun i l c hl hc=>?_,hb.nd⟩,⟨by simp,fun l _ hn=>?_⟩,by simp⟩
 ·rw[aaf (F:=Fz7) rfl rfl,show Fz7.body=bz7 from rfl,ajV hb x hpv h30]
  have f3:ae2 (s.set A.c (.lst (B.sm.map seT++[seT x]))) (.val (.loc A.o)) 0 3=some (.loc A.c):=by rw[abu (by rw[aaw (Ne.symm n3)];exact hb.ins)];rfl
  have d3:=ac6 es
  have e0:T.tup [fT x,gT x,.bl x.t,.int x.e,.tup (x.ps.map pT)]=seT x:=rfl
  simp[bz7,hb.li,hb.f3,hb.l3,cp,cs,hl,e0,f3,d3]
 ·rw[aaw (Ne.symm n3)];exact hb.ins
 ·rw[aaw (Ne.symm n6)];exact hb.pcs
 ·rw[aaw (Ne.symm n8)];exact hb.mks
 ·rw[es];simp
 ·have hne:A.c≠l:=fun e=>n10 (by rw[e];exact List.mem_of_getElem? hl)
  rw[aaw hne];exact hb.pc i l c hl hc
 ·simp only[Ad.fp,List.mem_cons,not_or]at hn
  rw[aaw (Ne.symm hn.2.2.2.1)]
theorem ald{A:Ad}{B:Bk}(hb:BAt s A B){i:Nat}{x:Sm}(h:B.sm[i]?=some x):run true fns sub0 aad (k+2) ap3 [slf A,.val (.int i)] s=.ok (.val (paT x)) s:=by
 rw[aaf (F:=avt) rfl rfl]
 have hi:i<B.sm.length:=(List.getElem?_eq_some_iff.mp h).1
 have hc:=aaz (k:=k) (s:=s) (r:=.val (.loc A.c)) (ts:=B.sm.map seT) (z:=i) (by rw[hb.d3];rfl) ⟨by omega,by simp[hi]⟩
 have hg:=ack (ts:=B.sm.map seT) (n:=i) (t:=seT x) (by simp[h])
 have h4:aaQ (.val (seT x)) 4=some (.tup (x.ps.map pT)):=rfl
 have hd:∀s,(R.val (seT x)).dr s=.val (seT x):=fun _=>rfl
 have hcut:aem (.val (seT x)) none (some 4)=some (.val (.tup [fT x,gT x,.bl x.t,.int x.e])):=rfl
 have hadd:opR .add (.val (.tup [fT x,gT x,.bl x.t,.int x.e])) (.val (.tup [.lst (x.ps.map pT)]))=some (.val (paT x)):=by
  simp[opR,paT]
  decide
 have hb':b1R .list (.val (.tup (x.ps.map pT)))=some (.val (.lst (x.ps.map pT))):=rfl
 simp[axd,hb.f3,hb.d3,hc,hg,h4,hd,hcut,hadd,hb']
end Pg
end IP
end
noncomputable section
namespace IP
namespace Pg
open L2
variable{k:Nat}{s:Sto}{A2:Option IP.B}
theorem aau{m n f:Nat}{rs:List R}{s:Sto}{r:Res R}(h:run true fns sub0 aad n f rs s=r)(e:n=m):(cfX fns sub0 m).cf f rs s=r:=by
 subst e
 exact h
structure Pz where
 (c:List Spt)
 m:List (List Spt)
structure Pz.ok(p:Pz):Prop where
 h3:3≤p.c.length
 h24:p.c.length≤24
 hm:p.m.length=p.c.length
 h4:∀l∈p.m,l.length≤4
 hc:∀x∈p.c,x.fit
 hf:∀l∈p.m,∀x∈l,x.fit
def pzT(p:Pz):T:=.lst [aal p.c,mkT p.m]
theorem anq{C:Cf}(d:Int):∃n:Nat,(3≤n∧n≤24)∧exs C aqZ (aam arQ [.val (.int d)]) s=exs C (aqZ.drop 2) [some (.val (.int d)),some (.val (.int n)),none,none,none] s:=by
 have h4:=abd d (j:=4) (by decide)
 have m4:=aaM (i:=d) (j:=4) (by decide)
 have d4:=aaS (i:=d) (j:=4) (by decide) (by decide)
 have m11:=aaM (i:=Int.fdiv d 4) (j:=11) (by decide)
 by_cases h:Int.fmod (Int.fdiv d 4) 11=1
 ·refine⟨24,⟨by decide,by decide⟩,?_⟩
  refine(aaa (σ1:=[some (.val (.int d)),some (.val (.int (3+Int.fmod d 4))),none,none,none]) (s1:=s) (by simp[m4])).trans ?_
  exact aaa (σ1:=[some (.val (.int d)),some (.val (.int (24:Nat))),none,none,none]) (s1:=s) (by simp[d4,m11,h])
 ·refine⟨(3+Int.fmod d 4).toNat,⟨by omega,by omega⟩,?_⟩
  rw[show(((3+Int.fmod d 4).toNat:Nat):Int)=3+Int.fmod d 4 by omega]
  refine(aaa (σ1:=[some (.val (.int d)),some (.val (.int (3+Int.fmod d 4))),none,none,none]) (s1:=s) (by simp[m4])).trans ?_
  exact aaa (σ1:=[some (.val (.int d)),some (.val (.int (3+Int.fmod d 4))),none,none,none]) (s1:=s) (by simp[d4,m11,h])
theorem amj{C:Cf}{σ:Fr}(d:Int)(n i:Nat)(hn:n≤24)(hi:i<n)(hσ:σ=[some (.val (.int d)),some (.val (.int n)),A2,none,some (.val (.int i))])
  (hC:∀(d:Int) (n:Nat),n≤4→∃l:List Spt,l.length=n∧(∀p∈l,p.fit)∧C.cf apI [.val (.int d),.val (.int n),.val (.int 20000),.val (.int 200)] s=.ok (.val (aal l)) s):
  ∃l:List Spt,(l.length≤4∧∀p∈l,p.fit)∧ev C afv .v σ s=.ok (.val (aal l)) s:=by
 subst hσ
 have d44:=aaS (i:=d) (j:=44) (by decide) (by decide)
 have dk:=aaS (i:=Int.fdiv d 44) (j:=(i:Int)+1) (by omega) (by omega)
 have mk:=aaM (i:=Int.fdiv (Int.fdiv d 44) ((i:Int)+1)) (j:=5) (by decide)
 have hp:=abd (Int.fdiv (Int.fdiv d 44) ((i:Int)+1)) (j:=5) (by decide)
 generalize Int.fmod (Int.fdiv (Int.fdiv d 44) ((i:Int)+1)) 5=z at mk hp
 obtain⟨l,l1,l2,l3⟩:=hC (d+1+i) z.toNat (by omega)
 rw[show((z.toNat:Nat):Int)=z by omega]at l3
 exact⟨l,⟨by omega,l2⟩,by simp[d44,dk,mk,l3]⟩
theorem adg(d:Int):∃p:Pz,p.ok∧run true fns sub0 aad (k+2) avQ [.val (.int d)] s=.ok (.val (pzT p)) s:=by
 have hC:∀(d:Int) (n:Nat),n≤24→∃l:List Spt,l.length=n∧(∀p∈l,p.fit)∧(cfX fns sub0 (k+1)).cf apI [.val (.int d),.val (.int n),.val (.int 20000),.val (.int 200)] s=.ok (.val (aal l)) s:=by
  intro d n hn
  obtain⟨l,h1,h2,h3⟩:=aib (k:=k) (s:=s) d n (by omega) (far:=20000) (stp:=200) ⟨by decide,by decide⟩ ⟨by decide,by decide⟩
  exact⟨l,h1,h2,aau h3 rfl⟩
 rw[aaf (F:=arQ) rfl rfl,show arQ.body=aqZ from rfl]
 generalize cfX fns sub0 (k+1)=C at hC
 obtain⟨n,⟨n1,n2⟩,key⟩:=anq (s:=s) (C:=C) d
 obtain⟨c,c1,c2,c3⟩:=hC d n n2
 obtain⟨m,m1,m2,m3⟩:=agt (C:=C) (e:=afv) (i:=4) (a:=.var 1) (σ:=[some (.val (.int d)),some (.val (.int n)),some (.val (aal c)),none,none]) (s:=s) (n:=n) aal (fun l=>l.length≤4∧∀p∈l,p.fit) (by simp) (by omega) (fun i hi=>amj d n i n2 hi rfl (fun d n hn=>hC d n (by omega)))
 refine⟨⟨c,m⟩,⟨by show 3≤c.length;rw[c1];exact n1,by show c.length≤24;rw[c1];exact n2,by show m.length=c.length;rw[m1,c1],fun l hl=>(m2 l hl).1,c2,fun l hl=>(m2 l hl).2⟩,?_⟩
 have hx:exs C (aqZ.drop 2) [some (.val (.int d)),some (.val (.int n)),none,none,none] s=.ret (.val (pzT ⟨c,m⟩)) s:=by
  refine(aaa (σ1:=[some (.val (.int d)),some (.val (.int n)),some (.val (aal c)),none,none]) (s1:=s) (aaI (aaj (aab (s1:=s) (x:=.val (.int d)) rfl (aab (s1:=s) (x:=.val (.int n)) rfl (aab (s1:=s) (x:=.val (.int 20000)) rfl (aab (s1:=s) (x:=.val (.int 200)) rfl aae)))) c3))).trans ?_
  refine(aaa (σ1:=[some (.val (.int d)),some (.val (.int n)),some (.val (aal c)),some (.val (mkT m)),none]) (s1:=s) (aaI m3)).trans ?_
  simp[pzT]
 rw[key,hx]
 rfl
theorem aqu(d:Int)(hd:aaE d):∃v,run true fns sub0 aad (k+1) auH [.val (.int d)] s=.ok (.val (.int v)) s:=by
 have hmul:=ad6 (i:=d) (j:=48271) (ab2 (by have:=hd.1;have:=hd.2;omega))
 have hmod:=aaM (i:=d*48271+11) (j:=2147483647) (by decide)
 refine⟨Int.fmod (d*48271+11) 2147483647,?_⟩
 rw[aaf (F:=av2) rfl rfl]
 simp[awY,hmul,hmod]
end Pg
end IP
end
noncomputable section
namespace IP
namespace Pg
open L2
variable{k:Nat}{s:Sto}
theorem aqU(i:Int){n:Nat}(h:0<n):∃m:Nat,m<n∧Int.fmod i n=m:=by
 have:=abd i (j:=(n:Int)) (by omega)
 exact⟨(Int.fmod i n).toNat,by omega,by omega⟩
theorem acS(i:Int){n:Nat}(h:0<n):∃m:Nat,m<n∧opR .mod (.val (.int i)) (.val (.int n))=some (.val (.int m)):=by
 obtain⟨m,h1,h2⟩:=aqU i h
 exact⟨m,h1,by rw[aaM (by omega),h2]⟩
theorem amF{n i:Nat}(h:i<n)(h2:2≤n):∃m:Nat,m<n∧m≠i∧opR .mod (.val (.int ((i:Int)+1))) (.val (.int n))=some (.val (.int m)):=by
 by_cases h1:i+1<n
 ·exact⟨i+1,h1,by omega,by rw[aaM (by omega),Int.fmod_eq_emod_of_nonneg _ (by omega),Int.emod_eq_of_lt (by omega) (by omega)];rfl⟩
 ·have:((i:Int)+1)=n:=by omega
  exact⟨0,by omega,by omega,by rw[aaM (by omega),this,Int.fmod_self];rfl⟩
def adL(mk:List (List (List Spt)))(x:Sm):Prop:=abN ⟨0,[],mk,[]⟩ (aa9 ⟨0,[],mk,[]⟩ x.f1 x.f2) (aa9 ⟨0,[],mk,[]⟩ x.g1 x.g2) x.ps=true∧aba x=false
theorem aiw{mk:List (List (List Spt))}{m:List (List Spt)}{l:List Spt}{p i:Nat}(h1:mk[p]?=some m)(h2:m[i]?=some l):aa9 ⟨0,[],mk,[]⟩ p i=some l:=by
 unfold aa9
 rw[if_pos (by omega)]
 simp[h1,h2]
theorem agZ{C:Cf}{A2 A3 A4 A5 A6:Option IP.B}(d e:Int){a b:Nat}(ha:0<a)(hb:0<b)(t:Nat)(ht:t≤4)(c:Option IP.B):∃(ps:List (Int×Int)) (c':Option IP.B),ps.length=t∧(∀p∈ps,inR a p.1=true∧inR b p.2=true)∧
  abr (.one 10) (fun σ s=>exs C adE σ s) (aao 0 t) [some (.val (.int d)),some (.val (.int e)),A2,A3,A4,A5,A6,some (.val (.int a)),some (.val (.int b)),some (.own []),c] s
   = .next [some (.val (.int d)),some (.val (.int e)),A2,A3,A4,A5,A6,some (.val (.int a)),some (.val (.int b)),some (.own (ps.map pT)),c'] s:=by
 obtain⟨σ',e1,ps,c',rfl,h1,h2⟩:=aa2 (g:=.one 10) (body:=fun σ s=>exs C adE σ s) (s:=s)
  (fun m σ=>∃(ps:List (Int×Int)) (c':Option IP.B),σ=[some (.val (.int d)),some (.val (.int e)),A2,A3,A4,A5,A6,some (.val (.int a)),some (.val (.int b)),some (.own (ps.map pT)),c']∧ps.length=m∧∀p∈ps,inR a p.1=true∧inR b p.2=true) (aao 0 t) 0 _ ⟨[],c,rfl,rfl,by simp⟩ (by
   rintro m x σ hm ⟨ps,c',rfl,h1,h2⟩
   obtain⟨rfl,hlt⟩:=aa1 hm
   have d1:=aaS (i:=d) (j:=1200) (by decide) (by decide)
   have d2:=aaS (i:=e) (j:=240) (by decide) (by decide)
   obtain⟨u,hu,mu⟩:=acS (Int.fdiv d 1200+(0+m)) ha
   obtain⟨v,hv,mv⟩:=acS (Int.fdiv e 240+(0+m)) hb
   have hlim:ps.length<lim:=Nat.lt_of_lt_of_le (show ps.length<1000 by omega) abw
   refine⟨[some (.val (.int d)),some (.val (.int e)),A2,A3,A4,A5,A6,some (.val (.int a)),some (.val (.int b)),some (.own (ps.map pT)),some (.val (.int (0+m)))],[some (.val (.int d)),some (.val (.int e)),A2,A3,A4,A5,A6,some (.val (.int a)),some (.val (.int b)),some (.own ((ps++[((u:Int),(v:Int))]).map pT)),some (.val (.int (0+m)))],rfl,?_,ps++[((u:Int),(v:Int))],_,rfl,by simp[h1],?_⟩
   ·have e5:ev C (.tup [(.bin .mod (.bin .add (.bin .fdiv (.var 0) (.cst (.int 1200))) (.var 10)) (.var 7)),(.bin .mod (.bin .add (.bin .fdiv (.var 1) (.cst (.int 240))) (.var 10)) (.var 8))]) .v [some (.val (.int d)),some (.val (.int e)),A2,A3,A4,A5,A6,some (.val (.int a)),some (.val (.int b)),some (.own (ps.map pT)),some (.val (.int (0+m)))] s=.ok (.val (pT ((u:Int),(v:Int)))) s:=by
     simp only[Int.zero_add]at mu mv
     simp[d1,d2,mu,mv,pT]
    rw[aaa (akQ (ts:=ps.map pT) rfl e5 (by simp;omega)),aak]
    simp[aai]
   ·intro p hp
    rcases List.mem_append.mp hp with z|z
    ·exact h2 p z
    ·rw[List.mem_singleton.mp z]
     unfold inR
     simp
     omega)
 exact⟨ps,c',by rw[h1,aaJ];omega,h2,e1⟩
theorem akx{C:Cf}(d e:Int)(pz:List Pz)(h0:0<pz.length)(hz:∀p∈pz,p.ok):∃x:Sm,adL (pz.map (·.m)) x∧x.ps.length≤4∧exs C axa (aam atS [.val (.int d),.val (.int e),.val (.lst (pz.map pzT))]) s=.ret (.val (paT x)) s:=by
 obtain⟨P,hP,mP⟩:=acS d h0
 obtain⟨Q,hQ,mQ⟩:=acS e h0
 obtain⟨zp,ep,gp⟩:∃z,pz[P]?=some z∧aaQ (.val (.lst (pz.map pzT))) (P:Int)=some (pzT z):=⟨pz[P],by simp,abj (by simp[hP])⟩
 obtain⟨zq,eq,gq⟩:∃z,pz[Q]?=some z∧aaQ (.val (.lst (pz.map pzT))) (Q:Int)=some (pzT z):=⟨pz[Q],by simp,abj (by simp[hQ])⟩
 have op:=hz zp (List.mem_of_getElem? ep)
 have oq:=hz zq (List.mem_of_getElem? eq)
 have h0':∀z,aaQ (.val (pzT z)) 0=some (aal z.c):=fun _=>rfl
 have h1':∀z,aaQ (.val (pzT z)) 1=some (mkT z.m):=fun _=>rfl
 have hd:∀z s,(R.val (pzT z)).dr s=.val (pzT z):=fun _ _=>rfl
 have hdm:∀z s,(R.val (mkT z)).dr s=.val (mkT z):=fun _ _=>rfl
 have d10:=aaS (i:=d) (j:=10) (by decide) (by decide)
 have e10:=aaS (i:=e) (j:=10) (by decide) (by decide)
 obtain⟨I,hI,mI⟩:=acS (Int.fdiv d 10) (show 0<zp.c.length by have:=op.h3;omega)
 obtain⟨J0,hJ0,mJ0⟩:=acS (Int.fdiv e 10) (show 0<zq.c.length by have:=oq.h3;omega)
 have key:∃J:Nat,J<zq.c.length∧¬(P=Q∧I=J)∧ex C (.ifs (.and (.cmp .eq (.var 3) (.var 4)) (.cmp .eq (.var 5) (.var 6))) [(.asg 6 (.bin .mod (.bin .add (.var 5) (.cst (.int 1))) (.b1 .len (.sub (.sub (.var 2) (.var 4)) (.cst (.int 0))))))] []) [some (.val (.int d)),some (.val (.int e)),some (.val (.lst (pz.map pzT))),some (.val (.int P)),some (.val (.int Q)),some (.val (.int I)),some (.val (.int J0)),none,none,none,none] s
   = .next [some (.val (.int d)),some (.val (.int e)),some (.val (.lst (pz.map pzT))),some (.val (.int P)),some (.val (.int Q)),some (.val (.int I)),some (.val (.int J)),none,none,none,none] s:=by
  by_cases hPQ:P=Q
  ·by_cases hIJ:I=J0
   ·subst hPQ
    rw[ep]at eq
    cases eq
    obtain⟨J,j1,j2,j3⟩:=amF hI (by have:=op.h3;omega)
    exact⟨J,j1,fun h=>j2 h.2.symm,by simp[hIJ,gp,h0',hd];simp[←hIJ,j3]⟩
   ·exact⟨J0,hJ0,fun h=>hIJ h.2,by simp[hPQ,show ¬(I:Int)=J0 by omega]⟩
  ·exact⟨J0,hJ0,fun h=>hPQ h.1,by simp[show ¬(P:Int)=Q by omega]⟩
 obtain⟨J,hJ,nPQ,key⟩:=key
 have hm1:I<zp.m.length:=by rw[op.hm];exact hI
 have hm2:J<zq.m.length:=by rw[oq.hm];exact hJ
 obtain⟨l,el,gl⟩:∃l,zp.m[I]?=some l∧aaQ (.val (mkT zp.m)) (I:Int)=some (aal l):=⟨zp.m[I],by simp,abj (by simp[hm1])⟩
 obtain⟨l',el',gl'⟩:∃l,zq.m[J]?=some l∧aaQ (.val (mkT zq.m)) (J:Int)=some (aal l):=⟨zq.m[J],by simp,abj (by simp[hm2])⟩
 have key2:∃(ps:List (Int×Int)) (c:Option IP.B),ps.length≤4∧(∀p∈ps,inR l.length p.1=true∧inR l'.length p.2=true)∧ex C (.ifs (.and (.cmp .gt (.var 7) (.cst (.int 0))) (.cmp .gt (.var 8) (.cst (.int 0)))) [(.for_ (.one 10) (.rng1 (.bin .mod (.bin .fdiv (.var 0) (.cst (.int 240))) (.cst (.int 5)))) adE)] []) [some (.val (.int d)),some (.val (.int e)),some (.val (.lst (pz.map pzT))),some (.val (.int P)),some (.val (.int Q)),some (.val (.int I)),some (.val (.int J)),some (.val (.int l.length)),some (.val (.int l'.length)),some (.own []),none] s
   = .next [some (.val (.int d)),some (.val (.int e)),some (.val (.lst (pz.map pzT))),some (.val (.int P)),some (.val (.int Q)),some (.val (.int I)),some (.val (.int J)),some (.val (.int l.length)),some (.val (.int l'.length)),some (.own (ps.map pT)),c] s:=by
  by_cases ha:0<l.length
  ·by_cases hb:0<l'.length
   ·have d240:=aaS (i:=d) (j:=240) (by decide) (by decide)
    obtain⟨t,ht,mt⟩:=acS (Int.fdiv d 240) (n:=5) (by decide)
    obtain⟨ps,c',p1,p2,p3⟩:=agZ (C:=C) (s:=s) (A2:=some (.val (.lst (pz.map pzT)))) (A3:=some (.val (.int P))) (A4:=some (.val (.int Q))) (A5:=some (.val (.int I))) (A6:=some (.val (.int J))) d e ha hb t (by omega) none
    refine⟨ps,c',by omega,p2,?_⟩
    rw[agH (s1:=s) (by simp[ha,hb])]
    have e1:ev C (.bin .mod (.bin .fdiv (.var 0) (.cst (.int 240))) (.cst (.int 5))) .v [some (.val (.int d)),some (.val (.int e)),some (.val (.lst (pz.map pzT))),some (.val (.int P)),some (.val (.int Q)),some (.val (.int I)),some (.val (.int J)),some (.val (.int l.length)),some (.val (.int l'.length)),some (.own []),none] s=.ok (.val (.int t)) s:=by
     have mt:opR .mod (.val (.int (Int.fdiv d 240))) (.val (.int 5))=some (.val (.int t)):=mt
     simp[d240,mt]
    rw[aaa ((aaW (ts:=aao 0 t) (s1:=s) (aaY e1 (by omega)) (by intro _ h;cases h)).trans p3),aak]
   ·refine⟨[],none,by simp,by simp,?_⟩
    rw[aaG (s1:=s) (by simp[show l'=[]from List.length_eq_zero_iff.mp (by omega)]),aak]
    rfl
  ·refine⟨[],none,by simp,by simp,?_⟩
   rw[aaG (s1:=s) (by simp[show l=[]from List.length_eq_zero_iff.mp (by omega)]),aak]
   rfl
 obtain⟨ps,c,p1,p2,key2⟩:=key2
 have d5:=aaS (i:=d) (j:=5000) (by decide) (by decide)
 have m2:=aaM (i:=Int.fdiv d 5000) (j:=2) (by decide)
 have e1k:=aaS (i:=e) (j:=1000) (by decide) (by decide)
 have m401:=aaM (i:=Int.fdiv e 1000) (j:=401) (by decide)
 have hp:=abd (Int.fdiv e 1000) (j:=401) (by decide)
 generalize Int.fmod (Int.fdiv d 5000) 2=u at m2
 generalize Int.fmod (Int.fdiv e 1000) 401=w at m401 hp
 refine⟨⟨P,I,Q,J,u==1,w,ps⟩,⟨?_,?_⟩,p1,?_⟩
 ·rw[aiw (m:=zp.m) (l:=l) (by simp[ep]) el,aiw (m:=zq.m) (l:=l') (by simp[eq]) el']
  exact List.all_eq_true.mpr fun p hp=>by rw[(p2 p hp).1,(p2 p hp).2];rfl
 ·simp only[aba]
  simp
  omega
 ·refine(aaa (σ1:=[some (.val (.int d)),some (.val (.int e)),some (.val (.lst (pz.map pzT))),some (.val (.int P)),none,none,none,none,none,none,none]) (s1:=s) (by simp[mP])).trans ?_
  refine(aaa (σ1:=[some (.val (.int d)),some (.val (.int e)),some (.val (.lst (pz.map pzT))),some (.val (.int P)),some (.val (.int Q)),none,none,none,none,none,none]) (s1:=s) (by simp[mQ])).trans ?_
  refine(aaa (σ1:=[some (.val (.int d)),some (.val (.int e)),some (.val (.lst (pz.map pzT))),some (.val (.int P)),some (.val (.int Q)),some (.val (.int I)),none,none,none,none,none]) (s1:=s) (by simp[gp,h0',hd,d10,mI])).trans ?_
  refine(aaa (σ1:=[some (.val (.int d)),some (.val (.int e)),some (.val (.lst (pz.map pzT))),some (.val (.int P)),some (.val (.int Q)),some (.val (.int I)),some (.val (.int J0)),none,none,none,none]) (s1:=s) (by simp[gq,h0',hd,e10,mJ0])).trans ?_
  refine(aaa key).trans ?_
  refine(aaa (σ1:=[some (.val (.int d)),some (.val (.int e)),some (.val (.lst (pz.map pzT))),some (.val (.int P)),some (.val (.int Q)),some (.val (.int I)),some (.val (.int J)),some (.val (.int l.length)),none,none,none]) (s1:=s) (by simp[gp,h1',hd,hdm,gl])).trans ?_
  refine(aaa (σ1:=[some (.val (.int d)),some (.val (.int e)),some (.val (.lst (pz.map pzT))),some (.val (.int P)),some (.val (.int Q)),some (.val (.int I)),some (.val (.int J)),some (.val (.int l.length)),some (.val (.int l'.length)),none,none]) (s1:=s) (by simp[gq,h1',hd,hdm,gl'])).trans ?_
  refine(aaa (σ1:=[some (.val (.int d)),some (.val (.int e)),some (.val (.lst (pz.map pzT))),some (.val (.int P)),some (.val (.int Q)),some (.val (.int I)),some (.val (.int J)),some (.val (.int l.length)),some (.val (.int l'.length)),some (.own []),none]) (s1:=s) (by simp[abn,aai])).trans ?_
  refine(aaa key2).trans ?_
  refine(aaa (σ1:=[some (.val (.int d)),some (.val (.int e)),some (.val (.lst (pz.map pzT))),some (.val (.int P)),some (.val (.int Q)),some (.val (.int I)),some (.val (.int J)),some (.val (.int l.length)),some (.val (.int l'.length)),some (.val (.lst (ps.map pT))),c]) (s1:=s) (by simp[frz])).trans ?_
  simp[d5,m2,e1k,m401,paT]
theorem adp(d e:Int)(pz:List Pz)(h0:0<pz.length)(hz:∀p∈pz,p.ok):∃x:Sm,adL (pz.map (·.m)) x∧run true fns sub0 aad (k+1) au9 [.val (.int d),.val (.int e),.val (.lst (pz.map pzT))] s=.ok (.val (paT x)) s:=by
 obtain⟨x,h1,_,h2⟩:=akx (C:=cfX fns sub0 k) (s:=s) d e pz h0 hz
 exact⟨x,h1,(aaf (F:=atS) rfl rfl).trans (congrArg (aaC true false) h2)⟩
def plT(pz:List Pz)(xs:List Sm):T:=.lst [.lst (pz.map pzT),.lst (xs.map paT)]
theorem ajO{C:Cf}{row:List Int}(hr:∀v∈row,aaE v)(at_ n m:Nat)(hn:n≤10)(hm:m≤30)(h0:0<m→0<n)(hl:at_+n+m≤row.length)
  (h1:∀d,∃p:Pz,p.ok∧C.cf avQ [.val (.int d)] s=.ok (.val (pzT p)) s)
  (h2:∀d,aaE d→∃v,C.cf auH [.val (.int d)] s=.ok (.val (.int v)) s)
  (h3:∀d e (pz:List Pz),0<pz.length→(∀p∈pz,p.ok)→∃x:Sm,adL (pz.map (·.m)) x∧C.cf au9 [.val (.int d),.val (.int e),.val (.lst (pz.map pzT))] s=.ok (.val (paT x)) s):
  ∃(pz:List Pz) (xs:List Sm),pz.length=n∧xs.length=m∧(∀p∈pz,p.ok)∧(∀x∈xs,adL (pz.map (·.m)) x)∧exs C avI (aam auV [.val (.lst (iL row)),.val (.int at_),.val (.int n),.val (.int m)]) s=.ret (.val (plT pz xs)) s:=by
 obtain⟨pz,p1,p2,p3⟩:=agt (C:=C) (e:=aiC) (i:=8) (a:=.var 2) (σ:=[some (.val (.lst (iL row))),some (.val (.int at_)),some (.val (.int n)),some (.val (.int m)),none,none,none,none,none]) (s:=s) (n:=n) pzT (·.ok) rfl (by omega) (fun i hi=>by
  obtain⟨v,v1,v2,_⟩:=ad9 hr (m:=at_+i) (by omega)
  obtain⟨p,q1,q2⟩:=h1 v
  refine⟨p,q1,?_⟩
  rw[Int.natCast_add]at v2
  simp[v2,q2])
 obtain⟨σ',e1,xs,c1,c2,rfl,x1,x2⟩:=aa2 (g:=.one 6) (body:=fun σ s=>exs C aiR σ s) (s:=s)
  (fun i σ=>∃(xs:List Sm) (c1 c2:Option IP.B),σ=[some (.val (.lst (iL row))),some (.val (.int at_)),some (.val (.int n)),some (.val (.int m)),some (.val (.lst (pz.map pzT))),some (.own (xs.map paT)),c1,c2,none]∧xs.length=i∧∀x∈xs,adL (pz.map (·.m)) x) (aao 0 m) 0 _ ⟨[],none,none,rfl,rfl,by simp⟩ (by
   rintro i t σ hi ⟨xs,c1,c2,rfl,x1,x2⟩
   obtain⟨rfl,hlt⟩:=aa1 hi
   obtain⟨v,v1,v2,_⟩:=ad9 hr (m:=at_+n+i) (by omega)
   obtain⟨w,w1⟩:=h2 v v1
   obtain⟨x,q1,q2⟩:=h3 v w pz (by have:=h0 (by omega);omega) p2
   refine⟨[some (.val (.lst (iL row))),some (.val (.int at_)),some (.val (.int n)),some (.val (.int m)),some (.val (.lst (pz.map pzT))),some (.own (xs.map paT)),some (.val (.int (0+i))),c2,none],[some (.val (.lst (iL row))),some (.val (.int at_)),some (.val (.int n)),some (.val (.int m)),some (.val (.lst (pz.map pzT))),some (.own ((xs++[x]).map paT)),some (.val (.int (0+i))),some (.val (.int v)),none],rfl,?_,xs++[x],_,_,rfl,by simp[x1],?_⟩
   ·rw[Int.natCast_add,Int.natCast_add]at v2
    refine(aaa (σ1:=[some (.val (.lst (iL row))),some (.val (.int at_)),some (.val (.int n)),some (.val (.int m)),some (.val (.lst (pz.map pzT))),some (.own (xs.map paT)),some (.val (.int (0+i))),some (.val (.int v)),none]) (s1:=s) (by simp[v2])).trans ?_
    have e5:ev C (.call au9 [(.var 7),(.call auH [(.var 7)] []),(.var 4)] []) .v [some (.val (.lst (iL row))),some (.val (.int at_)),some (.val (.int n)),some (.val (.int m)),some (.val (.lst (pz.map pzT))),some (.own (xs.map paT)),some (.val (.int (0+i))),some (.val (.int v)),none] s=.ok (.val (paT x)) s:=
     aaj (aab (s1:=s) (x:=.val (.int v)) rfl (aab (s1:=s) (x:=.val (.int w)) (aaj (aab (s1:=s) (x:=.val (.int v)) rfl aae) w1) (aab (s1:=s) (x:=.val (.lst (pz.map pzT))) rfl aae))) q2
    rw[aaa (akQ (ts:=xs.map paT) rfl e5 (by simp;omega)),aak]
    simp[aai]
   ·intro y hy
    rcases List.mem_append.mp hy with z|z
    ·exact x2 y z
    ·rw[List.mem_singleton.mp z];exact q1)
 refine⟨pz,xs,p1,by rw[x1,aaJ,Nat.zero_add,Int.sub_zero,Int.toNat_natCast],p2,x2,?_⟩
 refine(aaa (σ1:=[some (.val (.lst (iL row))),some (.val (.int at_)),some (.val (.int n)),some (.val (.int m)),some (.val (.lst (pz.map pzT))),none,none,none,none]) (s1:=s) (aaI p3)).trans ?_
 refine(aaa (σ1:=[some (.val (.lst (iL row))),some (.val (.int at_)),some (.val (.int n)),some (.val (.int m)),some (.val (.lst (pz.map pzT))),some (.own []),none,none,none]) (s1:=s) (by simp[abn,aai])).trans ?_
 refine(aaa ((aaW (ts:=aao 0 m) (s1:=s) (aaY (n:=m) rfl (by omega)) (by intro _ h;cases h)).trans e1)).trans ?_
 refine(aaa (σ1:=[some (.val (.lst (iL row))),some (.val (.int at_)),some (.val (.int n)),some (.val (.int m)),some (.val (.lst (pz.map pzT))),some (.val (.lst (xs.map paT))),c1,c2,none]) (s1:=s) (by simp[frz])).trans ?_
 simp[plT]
theorem apE{row:List Int}(hr:∀v∈row,aaE v)(at_ n m:Nat)(hn:n≤10)(hm:m≤30)(h0:0<m→0<n)(hl:at_+n+m≤row.length):∃(pz:List Pz) (xs:List Sm),pz.length=n∧xs.length=m∧(∀p∈pz,p.ok)∧(∀x∈xs,adL (pz.map (·.m)) x)∧run true fns sub0 aad (k+3) awg [.val (.lst (iL row)),.val (.int at_),.val (.int n),.val (.int m)] s=.ok (.val (plT pz xs)) s:=by
 obtain⟨pz,xs,a1,a2,a3,a4,a5⟩:=ajO (C:=cfX fns sub0 (k+2)) (s:=s) hr at_ n m hn hm h0 hl
  (fun d=>by obtain⟨p,q,e⟩:=adg (k:=k) (s:=s) d;exact⟨p,q,aau e rfl⟩)
  (fun d hd=>by obtain⟨p,e⟩:=aqu (k:=k+1) (s:=s) d hd;exact⟨p,aau e rfl⟩)
  (fun d e pz h hz=>by obtain⟨p,q,e⟩:=adp (k:=k+1) (s:=s) d e pz h hz;exact⟨p,q,aau e rfl⟩)
 exact⟨pz,xs,a1,a2,a3,a4,(aaf (F:=auV) rfl rfl).trans (congrArg (aaC true false) a5)⟩
theorem aex{z:Int}(h:-6≤z∧z≤6):run true fns sub0 aad (k+1) ayd [.val (.int z)] s=.ok (.val .non) s:=by
 rw[aaf (F:=avm) rfl rfl]
 simp[avN,show ¬z < -6 by omega,show ¬6<z by omega]
section
variable{A:Ad}{B:Bk}(hb:BAt s A B)
include hb
theorem agB{st ch:Int}(h0:0≤st)(h:-6≤B.size+ch∧B.size+ch≤6):∃s',run true fns sub0 aad (k+2) iz8 [slf A,.val (.int st),.val (.int ch)] s=.ok (.val (.int (B.size+ch))) s'∧BAt s' A ⟨B.size+ch,B.pc,B.mrk,B.sm⟩∧adq A.fp s s'∧s'.length=s.length:=by
 have hc:=aex (k:=k) (s:=s) h
 have ltO:=hb.lt A.o (by simp[Ad.fp])
 obtain⟨⟨n1,n2,n3,n4⟩,_⟩:=hb.ne
 have es:(s.set A.o (.ins 0 [some (.int (B.size+ch)),some (.loc A.a),some (.loc A.b),some (.loc A.c)]))[A.o]?=some (.ins 0 [some (.int (B.size+ch)),some (.loc A.a),some (.loc A.b),some (.loc A.c)]):=adw ltO
 refine⟨s.set A.o (.ins 0 [some (.int (B.size+ch)),some (.loc A.a),some (.loc A.b),some (.loc A.c)]),?_,⟨es,?_,?_,?_,hb.len,fun i l c hl hc=>?_,hb.nd⟩,⟨by simp,fun l _ hn=>?_⟩,by simp⟩
 ·rw[aaf (F:=Fz8) rfl rfl]
  have f0:ae2 (s.set A.o (.ins 0 [some (.int (B.size+ch)),some (.loc A.a),some (.loc A.b),some (.loc A.c)])) (.val (.loc A.o)) 0 0=some (.int (B.size+ch)):=by rw[abu es];rfl
  simp[bz8,show ¬st<0 by omega,hb.f0,hb.li,hc,f0]
 ·rw[aaw n1];exact hb.pcs
 ·rw[aaw n2];exact hb.mks
 ·rw[aaw n3];exact hb.sms
 ·have hm:=List.mem_of_getElem? hl
  have hne:A.o≠l:=fun e=>n4 (by rw[e];exact hm)
  rw[aaw hne];exact hb.pc i l c hl hc
 ·simp only[Ad.fp,List.mem_cons,not_or]at hn
  rw[aaw (Ne.symm hn.1)]
theorem ajo{st:Int}:run true fns sub0 aad (k+3) asm [slf A,.val (.int st)] s=run true fns sub0 aad (k+2) iz8 [slf A,.val (.int st),.val (.int st)] s:=by
 rw[aaf (F:=awR) rfl rfl]
 simp[axf,hb.li]
 cases run true fns sub0 aad (k+2) iz8 [slf A,.val (.int st),.val (.int st)] s<;>rfl
theorem ahV{st:Int}:run true fns sub0 aad (k+3) asl [slf A,.val (.int st)] s=run true fns sub0 aad (k+2) iz8 [slf A,.val (.int st),.val (.int (-st))] s:=by
 rw[aaf (F:=axi) rfl rfl]
 simp[awV,hb.li]
 cases run true fns sub0 aad (k+2) iz8 [slf A,.val (.int st),.val (.int (-st))] s<;>rfl
end
theorem am1{B:Bk}{x:Sm}(h:adL B.mrk x)(hl:B.sm.length<30):akn B x=0:=by
 unfold akn
 rw[if_neg (by omega),if_pos (show abN B (aa9 B x.f1 x.f2) (aa9 B x.g1 x.g2) x.ps=true from h.1),if_neg (by rw[h.2];decide)]
structure New(s0 s:Sto)(A:Ad)(B:Bk):Prop where
 at_:BAt s A B
 keep:adq [] s0 s
 new:∀l∈A.fp,s0.length≤l
theorem New.step{s0 s s':Sto}{A A':Ad}{B B':Bk}(h:New s0 s A B)(h1:BAt s' A' B')(hk:adq A.fp s s')(hn:∀l∈A'.fp,l∈A.fp∨s.length≤l):New s0 s' A' B' where
 at_:=h1
 keep:=⟨Nat.le_trans h.keep.1 hk.1,fun l hl _=>by
  rw[hk.2 l (Nat.lt_of_lt_of_le hl h.keep.1) (fun q=>by have:=h.new l q;omega)]
  exact h.keep.2 l hl (by simp)⟩
 new:=fun l hl=>by
  rcases hn l hl with z|z
  ·exact h.new l z
  ·exact Nat.le_trans h.keep.1 z
structure FCf(C:Cf):Prop where
 add:∀{s:Sto}{A:Ad}{B:Bk} (_:BAt s A B) (p:Pz) (_:p.ok) (_:B.pc.length<10) (_:B.mrk.length≤10),∃s',C.cf iz6 [slf A,.val (aal p.c),.val (mkT p.m)] s=.ok (.val (.int B.pc.length)) s'∧BAt s' ⟨A.o,A.a,A.b,A.c,A.ls++[s.length]⟩ ⟨B.size,B.pc++[p.c],B.mrk++[p.m],B.sm⟩∧adq A.fp s s'
 sew:∀{s:Sto}{A:Ad}{B:Bk} (_:BAt s A B) (x:Sm) (_:akn B x=0),∃s',C.cf iz7 [slf A,.val (fT x),.val (gT x),.val (.bl x.t),.val (.int x.e),.val (.lst (x.ps.map pT))] s=.ok (.val (.int B.sm.length)) s'∧BAt s' A ⟨B.size,B.pc,B.mrk,B.sm++[x]⟩∧adq A.fp s s'
 out:∀{s:Sto}{A:Ad}{B:Bk} (_:BAt s A B) (z:Int) (_:0≤z) (_:-6≤B.size+z∧B.size+z≤6),∃s',C.cf asm [slf A,.val (.int z)] s=.ok (.val (.int (B.size+z))) s'∧BAt s' A ⟨B.size+z,B.pc,B.mrk,B.sm⟩∧adq A.fp s s'
 inn:∀{s:Sto}{A:Ad}{B:Bk} (_:BAt s A B) (z:Int) (_:0≤z) (_:-6≤B.size+-z∧B.size+-z≤6),∃s',C.cf asl [slf A,.val (.int z)] s=.ok (.val (.int (B.size+-z))) s'∧BAt s' A ⟨B.size+-z,B.pc,B.mrk,B.sm⟩∧adq A.fp s s'
theorem fcf:FCf (cfX fns sub0 (k+4))where
 add:=fun hb p ho h1 h2=>by
  obtain⟨s',e,q1,q2,_⟩:=acP (k:=k) hb p.c p.m (.inl rfl) h1 ho.h3 ho.h24 ho.hm ho.h4 ho.hc ho.hf h2
  exact⟨s',aau e rfl,q1,q2⟩
 sew:=fun hb x h=>by
  obtain⟨s',e,q1,q2,_⟩:=ahk (k:=k) hb x (.inl rfl) h
  exact⟨s',aau e rfl,q1,q2⟩
 out:=fun hb z h0 h=>by
  obtain⟨s',e,q1,q2,_⟩:=agB (k:=k+1) hb h0 h
  exact⟨s',aau ((ajo (k:=k+1) hb).trans e) rfl,q1,q2⟩
 inn:=fun hb z h0 h=>by
  obtain⟨s',e,q1,q2,_⟩:=agB (k:=k+1) hb h0 h
  exact⟨s',aau ((ahV (k:=k+1) hb).trans e) rfl,q1,q2⟩
end Pg
end IP
end
noncomputable section
namespace IP
namespace Pg
open L2
open PySem (Str)
variable{k:Nat}{s:Sto}{C:Cf}
theorem aa7{α:Type}{l:List α}{m:Nat}{a:α}(h:l[m]?=some a):l.take (m+1)=l.take m++[a]:=by
 rw[List.take_add_one,h];rfl
abbrev aaU(i:Int):Str:=PySem.Str.ofString (toString i)
theorem aav(x:String):(PySem.Str.ofString x).length=x.length:=by
 rw[PySem.Str.ofString_eq_toList]
 simp[PySem.Str.length,String.length_toList]
theorem adG:∀(n m:Nat),m<10^(n+1)→(toString m).length≤n+1:=by
 intro n m h
 have:(toString m).length=(Nat.toDigits 10 m).length:=by
  show(Nat.repr m).length=_
  rw[←String.length_toList,Nat.toList_repr]
 rw[this]
 exact(Nat.length_toDigits_le_iff (by decide) (by omega)).mpr h
theorem agi{i:Int}(h:-1000000≤i∧i≤1000000):(aaU i).length≤8:=by
 rw[aav]
 cases i with
 | ofNat m=>
  have:(toString m).length≤7:=adG 6 m (by have:=h.2;simp at this;omega)
  exact Nat.le_trans this (by decide)
 | negSucc m=>
  have:(toString (m+1)).length≤7:=adG 6 (m+1) (by omega)
  show("-"++toString (m+1)).length≤8
  rw[String.length_append]
  have e:"-".length=1:=by decide
  omega
def wd:T→Str
 | .int i=>aaU i
 | .str x=>x
 | _=>.empty
def wok(t:T):Prop:=(∃i:Int,t=.int i∧-1000000≤i∧i≤1000000)∨∃x:Str,t=.str x∧x.length≤8
theorem abv{i:Int}(h:-1000000≤i∧i≤1000000):wok (.int i):=.inl ⟨i,rfl,h⟩
theorem aoN{t:T}(h:wok t):(wd t).length≤8:=by
 rcases h with⟨i,rfl,h⟩|⟨x,rfl,h⟩
 ·exact agi h
 ·exact h
theorem al2{t:T}(h:wok t):b1R .str (.val t)=some (.val (.str (wd t))):=by
 rcases h with⟨i,rfl,h⟩|⟨x,rfl,h⟩
 ·have:i.natAbs<big:=Nat.lt_trans (show i.natAbs<2^64 by omega) alf
  simp only[b1R,this,if_true];rfl
 ·rfl
theorem akX{t:T}(h:wok t)(s:Sto):(R.val t).dr s=.val t:=by
 rcases h with⟨i,rfl,h⟩|⟨x,rfl,h⟩<;>rfl
theorem acQ:∀xs:List Str,ade (xs.map T.str)=some xs
 | []=>rfl
 | x::r=>by
  rw[List.map_cons]
  show(ade (r.map T.str)).map (x::·)=_
  rw[acQ r];rfl
theorem agF{B:Nat}:∀xs:List Str,(∀y∈xs,y.length≤B)→(xs.map (·.length)).sum≤xs.length*B
 | [],_=>by simp
 | y::r,h=>by
  have h1:=h y (List.mem_cons_self ..)
  have h2:=agF r fun z hz=>h z (List.mem_cons_of_mem _ hz)
  simp only[List.map_cons,List.sum_cons,List.length_cons,Nat.succ_mul]
  omega
theorem adX(sep:Str):∀xs:List Str,(PySem.Str.join sep xs).length≤(xs.map (·.length)).sum+xs.length*sep.length
 | []=>Nat.zero_le _
 | [x]=>by show x.length≤_;simp
 | x::y::r=>by
  show(x++sep++PySem.Str.join sep (y::r)).length≤_
  have:=adX sep (y::r)
  rw[PySem.Str.length_append,PySem.Str.length_append]
  simp only[List.map_cons,List.sum_cons,List.length_cons,Nat.succ_mul]at this ⊢
  omega
theorem agr{sep:Str}{xs:List Str}(h:(xs.map (·.length)).sum+xs.length*sep.length≤lim):aff sep (.val (.lst (xs.map T.str)))=some (.val (.str (PySem.Str.join sep xs))):=by
 unfold aff
 simp only[ajc,Option.bind_eq_bind,Option.bind_some,acQ,h,if_true]
theorem ai4{x:Str}{b:E}{σ:Fr}{s s1:Sto}{y r:R}(h:ev C b .v σ s=.ok y s1)(h2:aff x (y.dr s1)=some r):ev C (.join x b) .v σ s=.ok r s1:=by
 show fin .v ((ev C b .v σ s).bind fun y s1=>.of (aff x (y.dr s1)) s1)=_
 rw[h]
 simp[h2]
theorem adc{a b:E}{σ:Fr}{s s1 s2:Sto}{x y r:R}(h:ev C a .v σ s=.ok x s1)(h':ev C b .v σ s1=.ok y s2)(h2:opR .add x y=some r):ev C (.bin .add a b) .v σ s=.ok r s2:=by
 show fin .v ((ev C a .v σ s).bind fun x s1=>(ev C b .v σ s1).bind fun y s2=>.of (opR .add x y) s2)=_
 rw[h]
 simp[h',h2]
theorem afm{xs ys:List T}(h:xs.length+ys.length≤1000):opR .add (.val (.lst xs)) (.val (.lst ys))=some (.val (.lst (xs++ys))):=by
 have:xs.length+ys.length≤lim:=Nat.le_trans h abw
 simp[opR,this]
abbrev bl:Str:=PySem.Str.ofString " "
abbrev lf:Str:=PySem.Str.ofString "\n"
def abD(w:Str)(ts:List T):Str:=PySem.Str.join bl (w::ts.map wd)
theorem aji{w:Str}{ts:List T}(hw:w.length≤8)(hl:ts.length≤6)(h:∀t∈ts,wok t):((w::ts.map wd).map (·.length)).sum+(w::ts.map wd).length*bl.length≤63:=by
 have h1:=agF (B:=8) (w::ts.map wd) (by
  intro y hy
  rcases List.mem_cons.mp hy with rfl|hy
  ·exact hw
  ·obtain⟨t,ht,rfl⟩:=List.mem_map.mp hy
   exact aoN (h t ht))
 have h2:bl.length=1:=by rw[aav];decide
 rw[h2]
 simp only[List.length_cons,List.length_map]at h1 ⊢
 omega
theorem acm{w:Str}{ts:List T}(hw:w.length≤8)(hl:ts.length≤6)(h:∀t∈ts,wok t):(abD w ts).length≤63:=Nat.le_trans (adX _ _) (aji hw hl h)
theorem ap4:63≤lim:=Nat.le_trans (by decide) abw
theorem ai3{w:Str}{ts:List T}{t:T}(ht:(R.val t).sq2=some ts)(hw:w.length≤8)(hl:ts.length≤6)(h:∀t∈ts,wok t):exs C arw [some (.val (.str w)),some (.val t),none] s=.ret (.val (.str (abD w ts))) s:=by
 refine aaH (abo (ai4 (y:=.val (.lst ((w::ts.map wd).map T.str))) (s1:=s) ?_ (agr (Nat.le_trans (aji hw hl h) ap4))))
 refine adc (s1:=s) (x:=.val (.lst [.str w])) (y:=.val (.lst (ts.map fun t=>T.str (wd t)))) (by simp) (aa8 ts id (fun t=>T.str (wd t)) (by rw[List.map_id];simp[ht]) fun t ht=>?_) ?_
 ·refine aih (s1:=s) (r:=.val t) (by simp) ?_
  rw[akX (h t ht)]
  exact al2 (h t ht)
 ·rw[afm (by simp;omega)]
  simp[List.map_map,Function.comp_def]
theorem amv{w:Str}{ts:List T}{t:T}(ht:(R.val t).sq2=some ts)(hw:w.length≤8)(hl:ts.length≤6)(h:∀t∈ts,wok t):run true fns sub0 aad (k+1) aeP [.val (.str w),.val t] s=.ok (.val (.str (abD w ts))) s:=
 (aaf (F:=aoA) rfl rfl).trans (congrArg (aaC true false) (ai3 ht hw hl h))
theorem aoI{w:Str}{ts:List T}{t:T}(ht:(R.val t).sq2=some ts)(hw:w.length≤8)(hl:ts.length≤6)(h:∀t∈ts,wok t):run true fns sub0 aad (k+1) amN [.val (.str w),.val t] s=.ok (.val (.str (abD w ts))) s:=
 (aaf (F:=aws) rfl rfl).trans (congrArg (aaC true false) (ai3 ht hw hl h))
abbrev st(x:String):Str:=PySem.Str.ofString x
abbrev sN(p:Spt):List T:=[.int p.x,.int p.y,.int p.a,.int p.b,.int p.c,.int p.d]
def ah1(p:Spt):Str:=abD (st "corner") (sN p)
def aj8(p:Spt):Str:=abD (st "mark") (sN p)
def ab4(q:List (Spt×List Spt)):List Str:=q.flatMap fun p=>ah1 p.1::p.2.map aj8
def ajB(p:Int×Int):Str:=abD (st "pair") [.int p.1,.int p.2]
def adm(t:Bool):Str:=if t then st "turned" else st "straight"
def ahx(x:Sm):Str:=abD (st "seam") [.int x.f1,.int x.f2,.int x.g1,.int x.g2,.str (adm x.t),.int x.e]
def acq(x:Sm):List Str:=ahx x::x.ps.map ajB
abbrev rT(l:List Str):List T:=l.map .str
theorem agM{p:Spt}(h:p.fit):∀t∈sN p,wok t:=by
 obtain⟨h1,h2,h3,h4,h5,h6⟩:=h
 intro t ht
 simp only[List.mem_cons,List.not_mem_nil,or_false]at ht
 rcases ht with rfl|rfl|rfl|rfl|rfl|rfl<;>exact abv (by omega)
theorem ard{a:E}{σ:Fr}{s s1:Sto}{ts:List T}(h:ev C a .v σ s=.ok (.val (.lst ts)) s1):ev C (.enm a) .j σ s=.ok (.val (.lst (enT 0 ts))) s1:=by
 show akr .j ((ev C a .v σ s).bind fun x s1=>onL x fun ts=>.ok (.val (.lst (enT 0 ts))) s1)=_
 rw[h];rfl
theorem ago{a:E}{es:List E}{c f:Nat}{ds:List T}{σ:Fr}{s s1:Sto}{ts:List T}(h:ev C (.meth a c f es ds) .v σ s=.ok (.val (.lst ts)) s1):ev C (.meth a c f es ds) .i σ s=.ok (.val (.lst ts)) s1:=by
 show fin .i (ev C (.meth a c f es ds) .v σ s)=_
 rw[h];rfl
theorem aq0{ts:List T}{m:Nat}{t:T}(h:(enT 0 ts)[m]?=some t):∃u,ts[m]?=some u∧t=.tup [.int (m:Int),u]:=by
 rw[afP,Nat.zero_add]at h
 obtain⟨u,h1,h2⟩:=Option.map_eq_some_iff.mp h
 exact⟨u,h1,h2.symm⟩
theorem abC:100000≤lim:=by decide
theorem ah8{e:E}{i:Nat}{σ:Fr}{s s1:Sto}{ts us:List T}(ho:ab5 σ i=some ts)(h:ev C e .v σ s=.ok (.val (.lst us)) s1)(hl:ts.length+us.length≤100000):ex C (.ext i e) σ s=.next (aai σ i (ts++us)) s1:=by
 rw[arr,ho,adT,h]
 have:ts.length+us.length≤lim:=Nat.le_trans hl abC
 simp[this]
theorem abq{e:E}{i:Nat}{σ:Fr}{s s1:Sto}{t:T}{ts:List T}(ho:ab5 σ i=some ts)(h:ev C e .v σ s=.ok (.val t) s1)(hl:ts.length<100000):ex C (.app i e) σ s=.next (aai σ i (ts++[t])) s1:=by
 rw[aoD,ho,adT,h]
 have:ts.length<lim:=Nat.lt_of_lt_of_le hl abC
 simp[this]
structure RCf(C:Cf)(A:Ad)(B:Bk)(s:Sto):Prop where
 row:∀{w:Str}{ts:List T}{t:T},(R.val t).sq2=some ts→w.length≤8→ts.length≤6→(∀t∈ts,wok t)→C.cf aeP [.val (.str w),.val t] s=.ok (.val (.str (abD w ts))) s
 spots:∀{i:Nat}{c:List Spt},B.pc[i]?=some c→C.cf arK [slf A,.val (.int i)] s=.ok (.val (aal c)) s
 marks:∀{i j:Nat}{m:List (List Spt)}{l:List Spt},B.mrk[i]?=some m→m[j]?=some l→C.cf aiL [slf A,.val (.int i),.val (.int j)] s=.ok (.val (aal l)) s
theorem afy{α β:Type}{a:List α}{b:List β}{m:Nat}{x:α}{y:β}(h:a[m]?=some x)(h':b[m]?=some y):(a.zip b)[m]?=some (x,y):=by
 simp[List.zip,List.getElem?_zipWith,h,h']
theorem abK:∀q:List (Spt×List Spt),(∀p∈q,p.2.length≤4)→(ab4 q).length≤5*q.length
 | [],_=>Nat.le_refl _
 | p::q,h=>by
  have h1:=h p (List.mem_cons_self ..)
  have h2:=abK q fun z hz=>h z (List.mem_cons_of_mem _ hz)
  simp only[ab4,List.flatMap_cons,List.length_append,List.length_cons,List.length_map]at h2 ⊢
  omega
theorem aeU(q:List (Spt×List Spt))(p:Spt)(l:List Spt):ab4 (q++[(p,l)])=ab4 q++(ah1 p::l.map aj8):=by
 simp[ab4]
theorem ads{A:Ad}{B:Bk}(hA:(slf A).locI s 0=some (A.o,[some (.int B.size),some (.loc A.a),some (.loc A.b),some (.loc A.c)]))(H:RCf C A B s){i:Nat}{c:List Spt}{mk:List (List Spt)}(hc:B.pc[i]?=some c)(hm:B.mrk[i]?=some mk)(hl:mk.length=c.length)(h24:c.length≤24)(h4:∀l∈mk,l.length≤4)(fc:∀x∈c,x.fit)(fm:∀l∈mk,∀x∈l,x.fit):
  exs C awA (aam atc [slf A,.val (.int i)]) s=.retO (rT (st "piece"::ab4 (c.zip mk))) s:=by
 have hz:(c.zip mk).length=c.length:=by simp;omega
 have h4':∀p∈c.zip mk,p.2.length≤4:=fun p hp=>h4 _ (List.of_mem_zip hp).2
 refine(aaa (σ1:=[some (.val (.loc A.o)),some (.val (.int i)),some (.own [.str (st "piece")]),none,none,none]) (s1:=s) (by simp[abn,aai])).trans ?_
 obtain⟨σ',e,c3,c4,rfl⟩:=aa2 (g:=.many [3,4]) (body:=fun σ s=>exs C aj0 σ s) (s:=s)
  (fun m σ=>∃c3 c4:Option IP.B,σ=[some (.val (.loc A.o)),some (.val (.int i)),some (.own (rT (st "piece"::ab4 ((c.zip mk).take m)))),c3,c4,none]) (enT 0 (c.map tS)) 0 [some (.val (.loc A.o)),some (.val (.int i)),some (.own [.str (st "piece")]),none,none,none] ⟨none,none,rfl⟩ (by
   rintro m t σ hm' ⟨c3,c4,rfl⟩
   obtain⟨u,hu,rfl⟩:=aq0 hm'
   rw[Nat.zero_add]at *
   rw[List.getElem?_map]at hu
   cases hp:c[m]? with
   | none=>rw[hp]at hu;cases hu
   | some p=>
    rw[hp]at hu
    cases hu
    have hml:=(List.getElem?_eq_some_iff.mp hp).1
    have hq:mk[m]?=some (mk[m]'(by omega)):=by simp[hl,hml]
    generalize mk[m]'(by omega)=l at hq
    have hk:=aa7 (afy hp hq)
    have hlen:=abK ((c.zip mk).take m) fun z hz=>h4' z (List.mem_of_mem_take hz)
    have htl:((c.zip mk).take m).length≤24:=by simp;omega
    have hl4:=h4 l (List.mem_of_getElem? hq)
    refine⟨_,_,rfl,?_,some (.val (.int m)),some (.val (tS p)),rfl⟩
    rw[hk,aeU]
    have e1:ev C (.call aeP [(.cst (.str (st "corner"))),(.var 4)] []) .v [some (.val (.loc A.o)),some (.val (.int i)),some (.own (rT (st "piece"::ab4 ((c.zip mk).take m)))),some (.val (.int m)),some (.val (tS p)),none] s=.ok (.val (.str (ah1 p))) s:=
     aaj (aab (s1:=s) (x:=.val (.str (st "corner"))) rfl (aab (s1:=s) (x:=.val (tS p)) rfl aae)) (H.row (t:=tS p) rfl (by rw[aav];decide) (by simp) (agM (fc p (List.mem_of_getElem? hp))))
    refine(aaa (abq (t:=.str (ah1 p)) (by rfl) e1 (by simp;omega))).trans ?_
    refine(aaa (ah8 (s1:=s) (us:=l.map fun x=>T.str (aj8 x)) (by rfl) (aa8 (i:=5) l tS (fun x=>T.str (aj8 x)) ?_ fun x hx=>?_) (by simp;omega))).trans ?_
    ·exact ago (aay (s1:=s) (x:=slf A) rfl hA (aab (s1:=s) (x:=.val (.int i)) rfl (aab (s1:=s) (x:=.val (.int m)) rfl aae)) (H.marks hm hq))
    ·exact aaj (aab (s1:=s) (x:=.val (.str (st "mark"))) rfl (aab (s1:=s) (x:=.val (tS x)) rfl aae)) (H.row (t:=tS x) rfl (by rw[aav];decide) (by simp) (agM (fm l (List.mem_of_getElem? hq) x hx)))
    ·rw[aak]
     simp[aai,rT,List.map_map,Function.comp_def])
 refine(aaa ((aaW (s1:=s) (ts:=enT 0 (c.map tS)) (ard (aay (s1:=s) (x:=slf A) rfl hA (aab (s1:=s) (x:=.val (.int i)) rfl aae) (H.spots hc))) (by intro _ h;cases h)).trans e)).trans ?_
 rw[Nat.zero_add,adM,List.length_map,←hz,List.take_length]
 rfl
structure Sm.fit(x:Sm):Prop where
 f1:-1000000≤x.f1∧x.f1≤1000000
 f2:-1000000≤x.f2∧x.f2≤1000000
 g1:-1000000≤x.g1∧x.g1≤1000000
 g2:-1000000≤x.g2∧x.g2≤1000000
 e:-1000000≤x.e∧x.e≤1000000
 n:x.ps.length≤4
 p:∀p∈x.ps,(-1000000≤p.1∧p.1≤1000000)∧(-1000000≤p.2∧p.2≤1000000)
theorem ak7(t:Bool):(adm t).length≤8:=by cases t<;>(unfold adm;simp only[if_true,if_false,Bool.false_eq_true];rw[aav];decide)
theorem ajq{x:Sm}(h:x.fit):∀t∈[T.int x.f1,.int x.f2,.int x.g1,.int x.g2,.str (adm x.t),.int x.e],wok t:=by
 intro t ht
 simp only[List.mem_cons,List.not_mem_nil,or_false]at ht
 rcases ht with rfl|rfl|rfl|rfl|rfl|rfl
 ·exact abv h.f1
 ·exact abv h.f2
 ·exact abv h.g1
 ·exact abv h.g2
 ·exact .inr ⟨_,rfl,ak7 _⟩
 ·exact abv h.e
theorem ai2{x:Sm}(h:x.fit){p:Int×Int}(hp:p∈x.ps):∀t∈[T.int p.1,.int p.2],wok t:=by
 intro t ht
 simp only[List.mem_cons,List.not_mem_nil,or_false]at ht
 rcases ht with rfl|rfl
 ·exact abv (h.p p hp).1
 ·exact abv (h.p p hp).2
theorem ajn{xs ys:List T}(h1:xs≠[])(h2:ys≠[])(h:xs.length+ys.length≤1000):opR .add (.val (.tup xs)) (.val (.tup ys))=some (.val (.tup (xs++ys))):=by
 have:xs.length+ys.length≤lim:=Nat.le_trans h abw
 simp[opR,this,h1,h2]
theorem apx{a b c:E}{σ:Fr}{s:Sto}{t:Bool}{x y:R}(h:ev C c .t σ s=.ok (.val (.bl t)) s)(h1:ev C a .v σ s=.ok x s)(h2:ev C b .v σ s=.ok y s):ev C (.ife c a b) .v σ s=.ok (if t then x else y) s:=by
 cases t
 ·rw[agd h,h2];rfl
 ·rw[agb h,h1];rfl
theorem ak9{e:E}{r:List S}{σ:Fr}{s s1:Sto}{ts:List T}(hf:abn C e=true)(h:ev C e .v σ s=.ok (.val (.lst ts)) s1):exs C (.retO e::r) σ s=.retO ts s1:=by
 rw[acA,am5,hf,h];rfl
theorem aea(H:∀{w:Str}{ts:List T}{t:T},(R.val t).sq2=some ts→w.length≤8→ts.length≤6→(∀t∈ts,wok t)→C.cf aeP [.val (.str w),.val t] s=.ok (.val (.str (abD w ts))) s)(x:Sm)(hx:x.fit):
  exs C awf (aam auk [.val (paT x)]) s=.retO (rT (acq x)) s:=by
 have g0:aaQ (.val (paT x)) 0=some (fT x):=rfl
 have g1:aaQ (.val (paT x)) 1=some (gT x):=rfl
 have g2:aaQ (.val (paT x)) 2=some (.bl x.t):=rfl
 have g3:aaQ (.val (paT x)) 3=some (.int x.e):=rfl
 have g4:aaQ (.val (paT x)) 4=some (.lst (x.ps.map pT)):=rfl
 have hd:∀s,(R.val (paT x)).dr s=.val (paT x):=fun _=>rfl
 refine(aaa (σ1:=[some (.val (paT x)),some (.val (.str (adm x.t))),none]) (s1:=s) (aaI ?_)).trans ?_
 ·have h1:=apx (C:=C) (a:=.cst (.str (st "turned"))) (b:=.cst (.str (st "straight"))) (c:=.sub (.var 0) (.cst (.int 2))) (σ:=[some (.val (paT x)),none,none]) (s:=s) (t:=x.t) (x:=.val (.str (st "turned"))) (y:=.val (.str (st "straight"))) (by simp[hd,g2]) rfl rfl
  refine h1.trans ?_
  cases x.t<;>rfl
 have hr:ev C (.bin .add (.bin .add (.sub (.var 0) (.cst (.int 0))) (.sub (.var 0) (.cst (.int 1)))) (.tup [(.var 1),(.sub (.var 0) (.cst (.int 3)))])) .v [some (.val (paT x)),some (.val (.str (adm x.t))),none] s=.ok (.val (.tup [.int x.f1,.int x.f2,.int x.g1,.int x.g2,.str (adm x.t),.int x.e])) s:=by
  refine adc (s1:=s) (adc (s1:=s) (x:=.val (fT x)) (y:=.val (gT x)) (by simp[hd,g0]) (by simp[hd,g1]) (ajn (by simp) (by simp) (by simp))) (y:=.val (.tup [.str (adm x.t),.int x.e])) (by simp[hd,g3]) (ajn (by simp) (by simp) (by simp))
 have h1:ev C (.call aeP [(.cst (.str (st "seam"))),(.bin .add (.bin .add (.sub (.var 0) (.cst (.int 0))) (.sub (.var 0) (.cst (.int 1)))) (.tup [(.var 1),(.sub (.var 0) (.cst (.int 3)))]))] []) .v [some (.val (paT x)),some (.val (.str (adm x.t))),none] s=.ok (.val (.str (ahx x))) s:=
  aaj (aab (s1:=s) (x:=.val (.str (st "seam"))) rfl (aab (s1:=s) hr aae)) (H rfl (by rw[aav];decide) (by simp) (ajq hx))
 have h2:ev C (.comp aig (.one 2) (.sub (.var 0) (.cst (.int 4)))) .v [some (.val (paT x)),some (.val (.str (adm x.t))),none] s=.ok (.val (.lst (x.ps.map fun p=>T.str (ajB p)))) s:=
  aa8 (i:=2) x.ps pT (fun p=>T.str (ajB p)) (by simp[hd,g4]) fun p hp=>
   aaj (aab (s1:=s) (x:=.val (.str (st "pair"))) rfl (aab (s1:=s) (x:=.val (pT p)) rfl aae)) (H (t:=pT p) rfl (by rw[aav];decide) (by simp) (ai2 hx hp))
 have hl:=hx.n
 have h3:=adc (a:=.lst [(.call aeP [(.cst (.str (st "seam"))),(.bin .add (.bin .add (.sub (.var 0) (.cst (.int 0))) (.sub (.var 0) (.cst (.int 1)))) (.tup [(.var 1),(.sub (.var 0) (.cst (.int 3)))]))] [])]) (s1:=s) (x:=.val (.lst [.str (ahx x)])) (by show fin .v ((evs C [_] _ _).bind _)=_;rw[afn,h1];rfl) h2 (afm (by simp;omega))
 refine(ak9 rfl h3).trans ?_
 simp[acq,rT,List.map_map,Function.comp_def]
def bkL(B:Bk):List Str:=abD (st "gradecut") [.int B.size]::((B.pc.zip B.mrk).flatMap fun p=>st "piece"::ab4 (p.1.zip p.2))++B.sm.flatMap acq++[st "end"]
def txt(l:List Str):Str:=PySem.Str.join .empty (l.map (·++lf))
structure Bk.fit(B:Bk):Prop where
 z:-6≤B.size∧B.size≤6
 np:B.pc.length≤10
 ns:B.sm.length≤30
 ml:B.mrk.length=B.pc.length
 pc:∀(i:Nat) (c:List Spt) (m:List (List Spt)),B.pc[i]?=some c→B.mrk[i]?=some m→m.length=c.length∧c.length≤24∧(∀l∈m,l.length≤4)∧(∀x∈c,x.fit)∧∀l∈m,∀x∈l,x.fit
 sm:∀x∈B.sm,x.fit
theorem aca{α:Type}(f:α→List Str)(n:Nat):∀q:List α,(∀p∈q,(f p).length≤n)→(q.flatMap f).length≤q.length*n
 | [],_=>by simp
 | p::q,h=>by
  have h1:=h p (List.mem_cons_self ..)
  have h2:=aca f n q fun z hz=>h z (List.mem_cons_of_mem _ hz)
  simp only[List.flatMap_cons,List.length_append,List.length_cons,Nat.succ_mul]
  omega
theorem Bk.fit.pie{B:Bk}(h:B.fit){p:List Spt×List (List Spt)}(hp:p∈B.pc.zip B.mrk):p.2.length=p.1.length∧p.1.length≤24∧(∀l∈p.2,l.length≤4)∧(∀x∈p.1,x.fit)∧∀l∈p.2,∀x∈l,x.fit:=by
 obtain⟨i,hi⟩:=List.getElem?_of_mem hp
 obtain⟨h1,h2⟩:=List.getElem?_zip_eq_some.mp hi
 exact h.pc i _ _ h1 h2
theorem Bk.fit.pl{B:Bk}(h:B.fit)(q:List (List Spt×List (List Spt)))(hq:∀p∈q,p∈B.pc.zip B.mrk):(q.flatMap fun p=>st "piece"::ab4 (p.1.zip p.2)).length≤q.length*121:=by
 refine aca _ _ _ fun p hp=>?_
 obtain⟨h1,h2,h3,_⟩:=h.pie (hq p hp)
 have:=abK (p.1.zip p.2) fun z hz=>h3 _ (List.of_mem_zip hz).2
 simp only[List.length_zip,List.length_cons]at this ⊢
 omega
theorem Bk.fit.sl{B:Bk}(h:B.fit)(q:List Sm)(hq:∀p∈q,p∈B.sm):(q.flatMap acq).length≤q.length*5:=by
 refine aca _ _ _ fun p hp=>?_
 have:=(h.sm p (hq p hp)).n
 simp only[acq,List.length_cons,List.length_map]
 omega
theorem apH{q:List (Spt×List Spt)}(h:∀p∈q,p.1.fit∧∀x∈p.2,x.fit):∀y∈ab4 q,y.length≤63:=by
 intro y hy
 obtain⟨p,hp,hy⟩:=List.mem_flatMap.mp hy
 obtain⟨h1,h2⟩:=h p hp
 rcases List.mem_cons.mp hy with rfl|hy
 ·exact acm (by rw[aav];decide) (by simp) (agM h1)
 ·obtain⟨x,hx,rfl⟩:=List.mem_map.mp hy
  exact acm (by rw[aav];decide) (by simp) (agM (h2 x hx))
theorem apQ{x:Sm}(h:x.fit):∀y∈acq x,y.length≤63:=by
 intro y hy
 rcases List.mem_cons.mp hy with rfl|hy
 ·exact acm (by rw[aav];decide) (by simp) (ajq h)
 ·obtain⟨p,hp,rfl⟩:=List.mem_map.mp hy
  exact acm (by rw[aav];decide) (by simp) (ai2 h hp)
theorem afs{z:Int}(h:-6≤z∧z≤6):∀t∈[T.int z],wok t:=by
 intro t ht
 rcases List.mem_singleton.mp ht with rfl
 exact abv (by omega)
theorem Bk.fit.b63{B:Bk}(h:B.fit):∀y∈bkL B,y.length≤63:=by
 intro y hy
 simp only[bkL,List.cons_append,List.mem_cons,List.mem_append,List.not_mem_nil,or_false,List.mem_flatMap]at hy
 rcases hy with rfl|(⟨p,hp,rfl|hy⟩|⟨x,hx,hy⟩)|rfl
 ·exact acm (by rw[aav];decide) (by simp) (afs h.z)
 ·rw[aav];decide
 ·obtain⟨_,_,_,h1,h2⟩:=h.pie hp
  exact apH (fun z hz=>⟨h1 _ (List.of_mem_zip hz).1,h2 _ (List.of_mem_zip hz).2⟩) y hy
 ·exact apQ (h.sm x hx) y hy
 ·rw[aav];decide
theorem Bk.fit.bl{B:Bk}(h:B.fit):(bkL B).length≤1400:=by
 have h1:=h.pl (B.pc.zip B.mrk) fun _ h=>h
 have h2:=h.sl B.sm fun _ h=>h
 have h3:=h.np
 have h4:=h.ns
 simp only[List.length_zip,h.ml,Nat.min_self]at h1
 simp only[bkL,List.cons_append,List.length_cons,List.length_append,List.length_nil]
 omega
theorem alC{e:E}{i:Nat}{it:E}{σ:Fr}(l:List Str)(hi:ev C it .i σ s=.ok (.val (.lst (rT l))) s)(he:∀y:Str,ev C e .v (put σ i (.str y)) s=.of (opR .add (.val (.str y)) (.val (.str lf))) s)(h1:∀y∈l,y.length≤63)(h2:l.length≤1400):ev C (.join .empty (.comp e (.one i) it)) .v σ s=.ok (.val (.str (txt l))) s:=by
 have hlf:lf.length=1:=by rw[aav];decide
 refine ai4 (y:=.val (.lst (l.map fun y=>T.str (y++lf)))) (s1:=s) (aa8 (i:=i) l T.str (fun y=>.str (y++lf)) hi fun y hy=>?_) ?_
 ·rw[he]
  have:=h1 y hy
  have:y.length+lf.length≤lim:=Nat.le_trans (show y.length+lf.length≤100000 by omega) abC
  simp[opR,this]
 ·have e:l.map (fun y=>T.str (y++lf))=(l.map (·++lf)).map T.str:=by simp[List.map_map,Function.comp_def]
  rw[e]
  have h3:=agF (B:=64) (l.map (·++lf)) (by
   intro y hy
   obtain⟨z,hz,rfl⟩:=List.mem_map.mp hy
   rw[PySem.Str.length_append]
   have:=h1 z hz
   omega)
  rw[List.length_map]at h3
  refine agr (Nat.le_trans ?_ abC)
  have h0:PySem.Str.empty.length=0:=rfl
  rw[h0]
  omega
structure WCf(C:Cf)(A:Ad)(B:Bk)(s:Sto):Prop where
 row:∀{w:Str}{ts:List T}{t:T},(R.val t).sq2=some ts→w.length≤8→ts.length≤6→(∀t∈ts,wok t)→C.cf aeP [.val (.str w),.val t] s=.ok (.val (.str (abD w ts))) s
 pie:∀{i:Nat}{c:List Spt}{m:List (List Spt)},B.pc[i]?=some c→B.mrk[i]?=some m→C.cf aw8 [slf A,.val (.int i)] s=.ok (.val (.lst (rT (st "piece"::ab4 (c.zip m))))) s
 sea:∀{x:Sm},x.fit→C.cf av1 [.val (paT x)] s=.ok (.val (.lst (rT (acq x)))) s
 npc:C.cf apw [slf A] s=.ok (.val (.int B.pc.length)) s
 nsm:C.cf arV [slf A] s=.ok (.val (.int B.sm.length)) s
 told:∀{i:Nat}{x:Sm},B.sm[i]?=some x→C.cf ap3 [slf A,.val (.int i)] s=.ok (.val (paT x)) s
abbrev pcL(B:Bk)(m:Nat):List Str:=((B.pc.zip B.mrk).take m).flatMap fun p=>st "piece"::ab4 (p.1.zip p.2)
theorem ale(a b:List Str):rT (a++b)=rT a++rT b:=List.map_append
theorem aiF{e:E}{i:Nat}{σ:Fr}{s s1:Sto}{ts:List T}(hf:abn C e=true)(h:ev C e .v σ s=.ok (.val (.lst ts)) s1):ex C (.mk i e) σ s=.next (aai σ i ts) s1:=by
 rw[arb,hf,h];rfl
theorem ae1{A:Ad}{B:Bk}(h:BAt s A B)(hf:B.fit)(H:WCf C A B s){g:Str}:
  ∃c2,abr (.one 2) (fun σ s=>exs C af4 σ s) (aao 0 B.pc.length) [some (.val (.loc A.o)),some (.own (rT [g])),none,none,none] s=.next [some (.val (.loc A.o)),some (.own (rT (g::(B.pc.zip B.mrk).flatMap fun p=>st "piece"::ab4 (p.1.zip p.2)))),c2,none,none] s:=by
 obtain⟨σ',e,c2,rfl⟩:=aa2 (g:=.one 2) (body:=fun σ s=>exs C af4 σ s) (s:=s)
  (fun m σ=>∃c2:Option IP.B,σ=[some (.val (.loc A.o)),some (.own (rT (g::pcL B m))),c2,none,none]) (aao 0 B.pc.length) 0 [some (.val (.loc A.o)),some (.own (rT [g])),none,none,none] ⟨none,rfl⟩ (by
   rintro m t σ hm' ⟨c2,rfl⟩
   obtain⟨rfl,hm⟩:=aa1 hm'
   rw[Nat.zero_add]at *
   have hml:m<B.pc.length:=by omega
   have hc:B.pc[m]?=some B.pc[m]:=by simp[hml]
   have hk:B.mrk[m]?=some (B.mrk[m]'(by rw[hf.ml];exact hml)):=by simp[hf.ml,hml]
   generalize B.pc[m]=c at hc
   generalize B.mrk[m]'(by rw[hf.ml];exact hml)=mk at hk
   have hz:=aa7 (afy hc hk)
   have h1:(pcL B m).length≤((B.pc.zip B.mrk).take m).length*121:=hf.pl ((B.pc.zip B.mrk).take m) fun _ h=>List.mem_of_mem_take h
   have h2:((B.pc.zip B.mrk).take m).length≤10:=by have:=hf.np;simp;omega
   obtain⟨q1,q2,q3,_⟩:=hf.pc m c mk hc hk
   have h3:=abK (c.zip mk) fun z hz=>q3 _ (List.of_mem_zip hz).2
   have h4:(c.zip mk).length≤24:=by simp;omega
   refine⟨[some (.val (.loc A.o)),some (.own (rT (g::pcL B m))),some (.val (.int m)),none,none],_,by simp[aaq,put],?_,some (.val (.int m)),rfl⟩
   refine(aaa (ah8 (s1:=s) (by rfl) (aaj (aab (s1:=s) (x:=slf A) rfl (aab (s1:=s) (x:=.val (.int m)) rfl aae)) (H.pie hc hk)) (by simp only[List.length_map,List.length_cons];omega))).trans ?_
   rw[aak,←ale,show pcL B (m+1)=pcL B m++(st "piece"::ab4 (c.zip mk))by unfold pcL;rw[hz,List.flatMap_append];simp]
   rfl)
 refine⟨c2,?_⟩
 rw[e,Nat.zero_add,aaJ,show((B.pc.length:Int)-0).toNat=B.pc.length by omega]
 have:(B.pc.zip B.mrk).take B.pc.length=B.pc.zip B.mrk:=List.take_of_length_le (by simp;omega)
 rw[show pcL B B.pc.length=_ by unfold pcL;rw[this]]
theorem afN{A:Ad}{B:Bk}(h:BAt s A B)(hf:B.fit)(H:WCf C A B s){g:List Str}(hg:g.length≤1300){c2:Option IP.B}:
  ∃c3,abr (.one 3) (fun σ s=>exs C afI σ s) (aao 0 B.sm.length) [some (.val (.loc A.o)),some (.own (rT g)),c2,none,none] s=.next [some (.val (.loc A.o)),some (.own (rT (g++B.sm.flatMap acq))),c2,c3,none] s:=by
 obtain⟨σ',e,c3,rfl⟩:=aa2 (g:=.one 3) (body:=fun σ s=>exs C afI σ s) (s:=s)
  (fun m σ=>∃c3:Option IP.B,σ=[some (.val (.loc A.o)),some (.own (rT (g++(B.sm.take m).flatMap acq))),c2,c3,none]) (aao 0 B.sm.length) 0 [some (.val (.loc A.o)),some (.own (rT g)),c2,none,none] ⟨none,by simp⟩ (by
   rintro m t σ hm' ⟨c3,rfl⟩
   obtain⟨rfl,hm⟩:=aa1 hm'
   rw[Nat.zero_add]at *
   have hml:m<B.sm.length:=by omega
   have hc:B.sm[m]?=some B.sm[m]:=by simp[hml]
   generalize B.sm[m]=x at hc
   have hz:=aa7 hc
   have h1:=hf.sl (B.sm.take m) fun _ h=>List.mem_of_mem_take h
   have h2:(B.sm.take m).length≤30:=by have:=hf.ns;simp;omega
   have hx:=hf.sm x (List.mem_of_getElem? hc)
   have h3:=hx.n
   refine⟨[some (.val (.loc A.o)),some (.own (rT (g++(B.sm.take m).flatMap acq))),c2,some (.val (.int m)),none],_,by simp[aaq,put],?_,some (.val (.int m)),rfl⟩
   have e1:ev C (.meth (.var 0) 0 ap3 [(.var 3)] []) .v [some (.val (.loc A.o)),some (.own (rT (g++(B.sm.take m).flatMap acq))),c2,some (.val (.int m)),none] s=.ok (.val (paT x)) s:=
    aay (s1:=s) (x:=slf A) rfl h.li (aab (s1:=s) (x:=.val (.int m)) rfl aae) (H.told hc)
   refine(aaa (ah8 (s1:=s) (by rfl) (aaj (aab (s1:=s) e1 aae) (H.sea hx)) (by simp only[List.length_map,List.length_append,acq,List.length_cons];omega))).trans ?_
   rw[aak,←ale,hz,List.flatMap_append,List.append_assoc]
   simp[aai])
 refine⟨c3,?_⟩
 rw[e,Nat.zero_add,aaJ,show((B.sm.length:Int)-0).toNat=B.sm.length by omega,List.take_length]
theorem aio{A:Ad}{B:Bk}(h:BAt s A B)(hf:B.fit)(H:WCf C A B s):exs C avz (aam ar9 [slf A]) s=.ret (.val (.str (txt (bkL B)))) s:=by
 have hnp:=hf.np
 have hns:=hf.ns
 have h1:=hf.pl (B.pc.zip B.mrk) fun _ h=>h
 have h2:=hf.sl B.sm fun _ h=>h
 simp only[List.length_zip,hf.ml,Nat.min_self]at h1
 obtain⟨c2,e2⟩:=ae1 h hf H (g:=abD (st "gradecut") [.int B.size])
 obtain⟨c3,e3⟩:=afN h hf H (g:=abD (st "gradecut") [.int B.size]::(B.pc.zip B.mrk).flatMap fun p=>st "piece"::ab4 (p.1.zip p.2)) (c2:=c2) (by simp only[List.length_cons];omega)
 have e0:ev C (.call aeP [(.cst (.str (st "gradecut"))),(.lst [(.fld (.var 0) 0 0)])] []) .v [some (.val (.loc A.o)),none,none,none,none] s=.ok (.val (.str (abD (st "gradecut") [.int B.size]))) s:=
  aaj (aab (s1:=s) (x:=.val (.str (st "gradecut"))) rfl (aab (s1:=s) (x:=.val (.lst [.int B.size])) (by simp[h.f0]) aae)) (H.row rfl (by rw[aav];decide) (by simp) (afs hf.z))
 refine(aaa (aiF (i:=1) (ts:=[.str (abD (st "gradecut") [.int B.size])]) rfl (by show fin .v ((evs C [_] _ _).bind _)=_;rw[afn];rw[show ev C _ .v (aam ar9 [slf A]) s=_ from e0];rfl))).trans ?_
 refine(aaa ((aaW (aaY (s1:=s) (n:=B.pc.length) (aay (s1:=s) (x:=slf A) rfl h.li aae H.npc) (by omega)) (by intro _ h;cases h)).trans e2)).trans ?_
 refine(aaa ((aaW (aaY (s1:=s) (n:=B.sm.length) (aay (s1:=s) (x:=slf A) rfl h.li aae H.nsm) (by omega)) (by intro _ h;cases h)).trans e3)).trans ?_
 refine(aaa (abq (s1:=s) (t:=.str (st "end")) (by rfl) rfl (by simp only[List.length_map,List.cons_append,List.length_cons,List.length_append];omega))).trans ?_
 refine aaH (abo (alC (i:=4) (bkL B) ?_ (fun y=>rfl) hf.b63 hf.bl))
 simp[aai,bkL,rT]
theorem aej{A:Ad}{B:Bk}(h:BAt s A B):run true fns sub0 aad (k+1) apw [slf A] s=.ok (.val (.int B.pc.length)) s:=by
 rw[aaf (F:=awk) rfl rfl]
 simp[axk,h.f1,h.d1,h.len]
theorem agg{A:Ad}{B:Bk}(h:BAt s A B):run true fns sub0 aad (k+1) arV [slf A] s=.ok (.val (.int B.sm.length)) s:=by
 rw[aaf (F:=awz) rfl rfl]
 simp[avE,h.f3,h.d3]
theorem aeM{A:Ad}{B:Bk}(h:BAt s A B)(hf:B.fit){i:Nat}{c:List Spt}{m:List (List Spt)}(hc:B.pc[i]?=some c)(hm:B.mrk[i]?=some m):run true fns sub0 aad (k+3) aw8 [slf A,.val (.int i)] s=.ok (.val (.lst (rT (st "piece"::ab4 (c.zip m))))) s:=by
 obtain⟨h1,h2,h3,h4,h5⟩:=hf.pc i c m hc hm
 exact(aaf (F:=atc) rfl rfl).trans (congrArg (aaC true true) (ads h.li ⟨fun a b c d=>aau (amv (k:=k+1) a b c d) rfl,fun a=>aau (adC (k:=k) h a) rfl,fun a b=>aau (acl (k:=k) h a b) rfl⟩ hc hm h1 h2 h3 h4 h5))
theorem aft{x:Sm}(hx:x.fit):run true fns sub0 aad (k+2) av1 [.val (paT x)] s=.ok (.val (.lst (rT (acq x)))) s:=
 (aaf (F:=auk) rfl rfl).trans (congrArg (aaC true true) (aea (fun a b c d=>aau (amv (k:=k) a b c d) rfl) x hx))
theorem alG{A:Ad}{B:Bk}(h:BAt s A B)(hf:B.fit):run true fns sub0 aad (k+4) aue [slf A] s=.ok (.val (.str (txt (bkL B)))) s:=
 (aaf (F:=ar9) rfl rfl).trans (congrArg (aaC true false) (aio h hf ⟨fun a b c d=>aau (amv (k:=k+2) a b c d) rfl,fun a b=>aau (aeM (k:=k) h hf a b) rfl,fun a=>aau (aft (k:=k+1) a) rfl,aau (aej (k:=k+2) h) rfl,aau (agg (k:=k+2) h) rfl,fun a=>aau (ald (k:=k+1) h a) rfl⟩))
theorem apn(l:List Str)(h1:∀y∈l,y.length≤63)(h2:l.length≤1400):run true fns sub0 aad (k+1) avW [.val (.lst (rT l))] s=.ok (.val (.str (txt l))) s:=
 (aaf (F:=awe) rfl rfl).trans (congrArg (aaC true false) (aaH (abo (alC (i:=1) l (by simp) (fun y=>rfl) h1 h2))))
theorem akC(x:Sm):abD (st "seam") [.int x.f1,.int x.f2,.int x.g1,.int x.g2]++(if x.t then st " turned " else st " straight ")++aaU x.e=ahx x:=by
 have e1:st " turned "=bl++(st "turned"++bl):=by decide +kernel
 have e2:st " straight "=bl++(st "straight"++bl):=by decide +kernel
 unfold ahx abD adm
 cases x.t
 ·simp only[if_false,Bool.false_eq_true,e2,List.map_cons,List.map_nil,wd,PySem.Str.join,PySem.Str.append_assoc]
 ·simp only[if_true,e1,List.map_cons,List.map_nil,wd,PySem.Str.join,PySem.Str.append_assoc]
section
variable{P Z a3 a4 a5 a6 a7 a8 a9 a10 a11 a12 a13:Option IP.B}
variable(H:∀{w:Str}{ts:List T}{t:T},(R.val t).sq2=some ts→w.length≤8→ts.length≤6→(∀t∈ts,wok t)→C.cf amN [.val (.str w),.val t] s=.ok (.val (.str (abD w ts))) s)
include H
theorem akN{g:List Str}(hg:g.length≤2000)(l:List Spt)(hl:l.length≤4)(hf:∀x∈l,x.fit):
  ∃c6,abr (.one 6) (fun σ s=>exs C af5 σ s) (l.map tS) [P,Z,some (.own (rT g)),a3,a4,a5,a6,a7,a8,a9,a10,a11,a12,a13] s=.next [P,Z,some (.own (rT (g++l.map aj8))),a3,a4,a5,c6,a7,a8,a9,a10,a11,a12,a13] s:=by
 obtain⟨σ',e,c6,rfl⟩:=aa2 (g:=.one 6) (body:=fun σ s=>exs C af5 σ s) (s:=s)
  (fun m σ=>∃c6,σ=[P,Z,some (.own (rT (g++(l.take m).map aj8))),a3,a4,a5,c6,a7,a8,a9,a10,a11,a12,a13]) (l.map tS) 0 [P,Z,some (.own (rT g)),a3,a4,a5,a6,a7,a8,a9,a10,a11,a12,a13] ⟨a6,by simp⟩ (by
   rintro m t σ hm ⟨c6,rfl⟩
   rw[Nat.zero_add]at *
   rw[List.getElem?_map]at hm
   obtain⟨x,hx,rfl⟩:=Option.map_eq_some_iff.mp hm
   have hk:=aa7 hx
   refine⟨_,_,rfl,?_,some (.val (tS x)),rfl⟩
   refine(aaa (abq (t:=.str (aj8 x)) (by rfl) (aaj (s1:=s) (aab (s1:=s) (x:=.val (.str (st "mark"))) rfl (aab (s1:=s) (x:=.val (tS x)) rfl aae)) (H (t:=tS x) rfl (by rw[aav];decide) (by simp) (agM (hf x (List.mem_of_getElem? hx))))) (by simp only[List.length_map,List.length_append,List.length_take];omega))).trans ?_
   rw[aak,hk]
   simp[aai])
 refine⟨c6,?_⟩
 rw[e,Nat.zero_add,List.length_map,List.take_length]
theorem aha{g:List Str}(hg:g.length≤1700)(c:List Spt)(mk:List (List Spt))(hl:mk.length=c.length)(h24:c.length≤24)(h4:∀l∈mk,l.length≤4)(fc:∀x∈c,x.fit)(fm:∀l∈mk,∀x∈l,x.fit):
  ∃c5 c6,abr (.one 5) (fun σ s=>exs C afj σ s) (aao 0 c.length) [P,Z,some (.own (rT g)),some (.val (aal c)),some (.val (mkT mk)),a5,a6,a7,a8,a9,a10,a11,a12,a13] s=.next [P,Z,some (.own (rT (g++ab4 (c.zip mk)))),some (.val (aal c)),some (.val (mkT mk)),c5,c6,a7,a8,a9,a10,a11,a12,a13] s:=by
 have hz:(c.zip mk).length=c.length:=by simp;omega
 have h4':∀p∈c.zip mk,p.2.length≤4:=fun p hp=>h4 _ (List.of_mem_zip hp).2
 obtain⟨σ',e,c5,c6,rfl⟩:=aa2 (g:=.one 5) (body:=fun σ s=>exs C afj σ s) (s:=s)
  (fun m σ=>∃c5 c6,σ=[P,Z,some (.own (rT (g++ab4 ((c.zip mk).take m)))),some (.val (aal c)),some (.val (mkT mk)),c5,c6,a7,a8,a9,a10,a11,a12,a13]) (aao 0 c.length) 0 [P,Z,some (.own (rT g)),some (.val (aal c)),some (.val (mkT mk)),a5,a6,a7,a8,a9,a10,a11,a12,a13] ⟨a5,a6,by simp[ab4]⟩ (by
   rintro m t σ hm ⟨c5,c6,rfl⟩
   obtain⟨rfl,hm⟩:=aa1 hm
   rw[Nat.zero_add]at *
   have hml:m<c.length:=by omega
   have hp:c[m]?=some c[m]:=by simp[hml]
   have hq:mk[m]?=some (mk[m]'(by omega)):=by simp[hl,hml]
   generalize c[m]=p at hp
   generalize mk[m]'(by omega)=l at hq
   have hk:=aa7 (afy hp hq)
   have hlen:=abK ((c.zip mk).take m) fun z hz=>h4' z (List.mem_of_mem_take hz)
   have htl:((c.zip mk).take m).length≤24:=by simp;omega
   have e1:ev C (.call amN [(.cst (.str (st "corner"))),(.sub (.var 3) (.var 5))] []) .v [P,Z,some (.own (rT (g++ab4 ((c.zip mk).take m)))),some (.val (aal c)),some (.val (mkT mk)),some (.val (.int m)),c6,a7,a8,a9,a10,a11,a12,a13] s=.ok (.val (.str (ah1 p))) s:=by
    have hsub:aaQ (.val (aal c)) (m:Int)=some (tS p):=abj (by simp[hp])
    have hd:∀s,(R.val (aal c)).dr s=.val (aal c):=fun _=>rfl
    exact aaj (aab (s1:=s) (x:=.val (.str (st "corner"))) rfl (aab (s1:=s) (x:=.val (tS p)) (by simp[hd,hsub]) aae)) (H (t:=tS p) rfl (by rw[aav];decide) (by simp) (agM (fc p (List.mem_of_getElem? hp))))
   obtain⟨c6',e2⟩:=akN H (P:=P) (Z:=Z) (a3:=some (.val (aal c))) (a4:=some (.val (mkT mk))) (a5:=some (.val (.int m))) (a6:=c6) (a7:=a7) (a8:=a8) (a9:=a9) (a10:=a10) (a11:=a11) (a12:=a12) (a13:=a13) (g:=g++ab4 ((c.zip mk).take m)++[ah1 p]) (by simp only[List.length_append,List.length_cons,List.length_nil];omega) l (h4 l (List.mem_of_getElem? hq)) (fm l (List.mem_of_getElem? hq))
   refine⟨[P,Z,some (.own (rT (g++ab4 ((c.zip mk).take m)))),some (.val (aal c)),some (.val (mkT mk)),some (.val (.int m)),c6,a7,a8,a9,a10,a11,a12,a13],_,by simp[aaq,put],?_,some (.val (.int m)),c6',rfl⟩
   refine(aaa (abq (t:=.str (ah1 p)) (by rfl) e1 (by simp only[List.length_map,List.length_append];omega))).trans ?_
   rw[show aai [P,Z,some (.own (rT (g++ab4 ((c.zip mk).take m)))),some (.val (aal c)),some (.val (mkT mk)),some (.val (.int m)),c6,a7,a8,a9,a10,a11,a12,a13] 2 (rT (g++ab4 ((c.zip mk).take m))++[T.str (ah1 p)])=[P,Z,some (.own (rT (g++ab4 ((c.zip mk).take m)++[ah1 p]))),some (.val (aal c)),some (.val (mkT mk)),some (.val (.int m)),c6,a7,a8,a9,a10,a11,a12,a13]by simp[aai]]
   have hsub:aaQ (.val (mkT mk)) (m:Int)=some (aal l):=abj (by simp[hq])
   have hd:∀s,(R.val (mkT mk)).dr s=.val (mkT mk):=fun _=>rfl
   refine(aaa ((aaW (s1:=s) (ts:=l.map tS) (by simp[hd,hsub]) (by intro _ h;cases h)).trans e2)).trans ?_
   rw[aak,hk,aeU]
   simp)
 refine⟨c5,c6,?_⟩
 rw[e,Nat.zero_add,aaJ,show((c.length:Int)-0).toNat=(c.zip mk).length by omega,List.take_length]
end
end Pg
end IP
end
noncomputable section
namespace IP
namespace Pg
open PySem
theorem ahW{c:Nat}:∀{p q x y:List Nat},c∉p→c∉q→p++c::x=q++c::y→p=q∧x=y
 | [],[],x,y,_,_,h=>by simpa using h
 | [],b::q,x,y,_,hq,h=>by
  simp only[List.nil_append,List.cons_append,List.cons.injEq]at h
  exact absurd (by rw[h.1];exact List.mem_cons_self) hq
 | a::p,[],x,y,hp,_,h=>by
  simp only[List.nil_append,List.cons_append,List.cons.injEq]at h
  exact absurd (by rw[←h.1];exact List.mem_cons_self) hp
 | a::p,b::q,x,y,hp,hq,h=>by
  simp only[List.cons_append,List.cons.injEq]at h
  obtain⟨h1,h2⟩:=ahW (fun z=>hp (List.mem_cons_of_mem _ z)) (fun z=>hq (List.mem_cons_of_mem _ z)) h.2
  exact⟨by rw[h.1,h1],h2⟩
theorem ahX{a b:Str}(h:a.cps.toList=b.cps.toList):a=b:=by
 cases a;cases b
 simp at h
 rw[h]
theorem abZ(c:Nat)(p q:Str)(r:List Str):(Str.join ⟨#[c]⟩ (p::q::r)).cps.toList=p.cps.toList++c::(Str.join ⟨#[c]⟩ (q::r)).cps.toList:=by
 show((p++(⟨#[c]⟩:Str)++Str.join ⟨#[c]⟩ (q::r)).cps).toList=_
 rw[Str.cps_append,Str.cps_append]
 simp
theorem ags(c:Nat):∀(ps qs:List Str),ps≠[]→qs≠[]→(∀p∈ps,c∉p.cps.toList)→(∀p∈qs,c∉p.cps.toList)→Str.join ⟨#[c]⟩ ps=Str.join ⟨#[c]⟩ qs→ps=qs
 | [],_,h,_,_,_,_=>absurd rfl h
 | _,[],_,h,_,_,_=>absurd rfl h
 | [p],[q],_,_,_,_,h=>by rw[show p=q from h]
 | [p],q::q'::r,_,_,hp,_,h=>by
  have:p.cps.toList=q.cps.toList++c::(Str.join ⟨#[c]⟩ (q'::r)).cps.toList:=by rw[←abZ];exact congrArg (fun z:Str=>z.cps.toList) h
  exact absurd (by rw[this];simp) (hp p (by simp))
 | p::p'::r,[q],_,_,_,hq,h=>by
  have:q.cps.toList=p.cps.toList++c::(Str.join ⟨#[c]⟩ (p'::r)).cps.toList:=by rw[←abZ];exact congrArg (fun z:Str=>z.cps.toList) h.symm
  exact absurd (by rw[this];simp) (hq q (by simp))
 | p::p'::r,q::q'::t,_,_,hp,hq,h=>by
  have e:=congrArg (fun z:Str=>z.cps.toList) h
  rw[abZ,abZ]at e
  obtain⟨h1,h2⟩:=ahW (hp p (by simp)) (hq q (by simp)) e
  rw[ahX h1,ags c (p'::r) (q'::t) (by simp) (by simp) (fun z hz=>hp z (List.mem_cons_of_mem _ hz)) (fun z hz=>hq z (List.mem_cons_of_mem _ hz)) (ahX h2)]
theorem adA(c:Nat){ps:List Str}(h0:ps≠[])(h:∀p∈ps,c∉p.cps.toList):Txt.split (Str.join ⟨#[c]⟩ ps) ⟨#[c]⟩=ps:=by
 refine ags c _ _ ?_ h0 (StrLaws.split_free _ c) h (StrLaws.join_split _ _)
 intro e
 have:=PyProof.Rows.split_pos (Str.join ⟨#[c]⟩ ps) ⟨#[c]⟩
 rw[e]at this
 exact absurd this (by decide)
end Pg
end IP
end
noncomputable section
namespace IP
namespace Pg
open L2
open PySem (Str)
theorem adh(m:Nat):∀c∈(Nat.toDigits 10 m).map Char.toNat,48≤c∧c≤57:=by
 intro c hc
 obtain⟨ch,hch,e⟩:=List.mem_map.mp hc
 have r:=PyProof.Rows.digit_range (Nat.isDigit_of_mem_toDigits (by decide) (by decide) hch)
 rw[←e]
 exact r
theorem ajL(m:Nat):(aaU (m:Int)).cps.toList=(Nat.toDigits 10 m).map Char.toNat:=PySem.W.KIN.signs_num m
theorem agn(m:Nat):(aaU (Int.negSucc m)).cps.toList=45::(Nat.toDigits 10 (m+1)).map Char.toNat:=by
 show(PySem.Str.ofString ("-"++toString (m+1))).cps.toList=_
 rw[PySem.Str.ofString_eq_toList]
 simp only[String.toList_append,List.map_append]
 have:(toString (m+1)).toList=Nat.toDigits 10 (m+1):=Nat.toList_repr
 rw[this]
 rfl
theorem aeT(i:Int):∀c∈(aaU i).cps.toList,c=45∨(48≤c∧c≤57):=by
 intro c hc
 cases i with
 | ofNat m=>exact .inr (adh m c (by rw[←ajL m];exact hc))
 | negSucc m=>
  rw[agn]at hc
  rcases List.mem_cons.mp hc with h|h
  ·exact .inl h
  ·exact .inr (adh (m+1) c h)
theorem ae9{i:Int}(h:-99999≤i∧i≤999999):(aaU i).length≤6:=by
 rw[aav]
 cases i with
 | ofNat m=>exact adG 5 m (by have:=h.2;simp at this;omega)
 | negSucc m=>
  have:(toString (m+1)).length≤5:=adG 4 (m+1) (by omega)
  show("-"++toString (m+1)).length≤6
  rw[String.length_append]
  have e:"-".length=1:=by decide
  omega
theorem ajr{i:Int}(h:-99999≤i∧i≤999999):PySem.intText? (aaU i)=some i:=by
 have hl:=ae9 h
 cases i with
 | ofNat m=>exact PySem.W.KIN.num_reads (Int.natCast_nonneg m) (Int.lt_of_le_of_lt h.2 (by decide))
 | negSucc m=>
  have hne:(Nat.toDigits 10 (m+1)).map Char.toNat≠[]:=by
   intro e
   exact Nat.toDigits_ne_nil (List.map_eq_nil_iff.mp e)
  have e:=PySem.intText_neg (agn m) (adh (m+1)) hne (Nat.le_trans hl (by decide))
  rw[PySem.W.KIN.val_back]at e
  exact e
def W(y:Str):List Str:=PySem.Txt.split y bl
def ac7(x:Str):Prop:=32∉x.cps.toList∧10∉x.cps.toList
theorem ara:bl=⟨#[32]⟩:=by decide
theorem auX:lf=⟨#[10]⟩:=by decide
theorem adv(i:Int):ac7 (aaU i):=⟨fun h=>by have:=aeT i _ h;omega,fun h=>by have:=aeT i _ h;omega⟩
theorem an3{w:Str}{ts:List T}(hw:ac7 w)(h:∀t∈ts,ac7 (wd t)):W (abD w ts)=w::ts.map wd:=by
 unfold W abD
 rw[ara]
 refine adA 32 (by simp) fun p hp=>?_
 rcases List.mem_cons.mp hp with rfl|hp
 ·exact hw.1
 ·obtain⟨t,ht,rfl⟩:=List.mem_map.mp hp
  exact(h t ht).1
theorem agm{c:Nat}(h32:c≠32):∀{ps:List Str},c∈(PySem.Str.join ⟨#[32]⟩ ps).cps.toList→∃p∈ps,c∈p.cps.toList
 | [],h=>by simp[PySem.Str.join,PySem.Str.empty]at h
 | [p],h=>⟨p,by simp,h⟩
 | p::q::r,h=>by
  rw[abZ]at h
  rcases List.mem_append.mp h with h|h
  ·exact⟨p,by simp,h⟩
  ·rcases List.mem_cons.mp h with h|h
   ·exact absurd h h32
   ·obtain⟨x,hx,hc⟩:=agm h32 h
    exact⟨x,List.mem_cons_of_mem _ hx,hc⟩
theorem ace{w:Str}{ts:List T}(hw:ac7 w)(h:∀t∈ts,ac7 (wd t)):10∉(abD w ts).cps.toList:=by
 intro hc
 unfold abD at hc
 rw[ara]at hc
 obtain⟨p,hp,hd⟩:=agm (by decide) hc
 rcases List.mem_cons.mp hp with hp|hp
 ·rw[hp]at hd;exact hw.2 hd
 ·obtain⟨t,ht,rfl⟩:=List.mem_map.mp hp
  exact(h t ht).2 hd
theorem aid:∀l:List Str,PySem.Str.join .empty (l.map (·++lf))=PySem.Str.join lf (l++[.empty])
 | []=>rfl
 | [x]=>by
  show x++lf=x++lf++.empty
  rw[PySem.Str.append_empty]
 | x::y::r=>by
  have:=aid (y::r)
  show(x++lf)++.empty++PySem.Str.join .empty ((y::r).map (·++lf))=x++lf++PySem.Str.join lf ((y::r)++[.empty])
  rw[this,PySem.Str.append_empty]
theorem ahL{l:List Str}(h:∀y∈l,10∉y.cps.toList):PySem.Txt.split (txt l) lf=l++[.empty]:=by
 unfold txt
 rw[aid,auX]
 refine adA 10 (by simp) fun p hp=>?_
 rcases List.mem_append.mp hp with hp|hp
 ·exact h p hp
 ·rcases List.mem_singleton.mp hp with rfl
  simp[PySem.Str.empty]
end Pg
end IP
end
noncomputable section
namespace IP
namespace Pg
open L2
open PySem (Str)
variable{k:Nat}{s:Sto}{C:Cf}
theorem ano{g:Tg}{i:Nat}{b:List S}{σ:Fr}{ts:List T}(h:ev C (.var i) .i σ s=.ok (.val (.lst ts)) s)(ho:ab8 σ i=false):ex C (.for_ g (.var i) b) σ s=abr g (fun σ s=>exs C b σ s) ts σ s:=by
 show(ev C (.var i) .i σ s).st σ _=_
 rw[h]
 simp[ho]
section
variable{P Z a3 a4 a5 a6 a7 a8 a9 a10 a11 a12 a13:Option IP.B}
variable(H:∀{w:Str}{ts:List T}{t:T},(R.val t).sq2=some ts→w.length≤8→ts.length≤6→(∀t∈ts,wok t)→C.cf amN [.val (.str w),.val t] s=.ok (.val (.str (abD w ts))) s)
include H
theorem ajl{g:Str}(pz:List Pz)(hp:pz.length≤10)(ho:∀p∈pz,p.ok):
  ∃c3 c4 c5 c6,abr (.many [3,4]) (fun σ s=>exs C afr σ s) (pz.map pzT) [P,Z,some (.own (rT [g])),a3,a4,a5,a6,a7,a8,a9,a10,a11,a12,a13] s=.next [P,Z,some (.own (rT (g::pz.flatMap fun p=>st "piece"::ab4 (p.c.zip p.m)))),c3,c4,c5,c6,a7,a8,a9,a10,a11,a12,a13] s:=by
 obtain⟨σ',e,c3,c4,c5,c6,rfl⟩:=aa2 (g:=.many [3,4]) (body:=fun σ s=>exs C afr σ s) (s:=s)
  (fun m σ=>∃c3 c4 c5 c6,σ=[P,Z,some (.own (rT (g::(pz.take m).flatMap fun p=>st "piece"::ab4 (p.c.zip p.m)))),c3,c4,c5,c6,a7,a8,a9,a10,a11,a12,a13]) (pz.map pzT) 0 [P,Z,some (.own (rT [g])),a3,a4,a5,a6,a7,a8,a9,a10,a11,a12,a13] ⟨a3,a4,a5,a6,by simp⟩ (by
   rintro m t σ hm ⟨c3,c4,c5,c6,rfl⟩
   rw[Nat.zero_add]at *
   rw[List.getElem?_map]at hm
   obtain⟨p,hx,rfl⟩:=Option.map_eq_some_iff.mp hm
   have hk:=aa7 hx
   have hok:=ho p (List.mem_of_getElem? hx)
   have h1:=aca (fun p:Pz=>st "piece"::ab4 (p.c.zip p.m)) 121 (pz.take m) (fun q hq=>by
    have hq:=ho q (List.mem_of_mem_take hq)
    have h1:=abK (q.c.zip q.m) fun z hz=>hq.h4 _ (List.of_mem_zip hz).2
    have h2:=hq.h24
    simp only[List.length_zip,List.length_cons]at h1 ⊢
    omega)
   have h2:(pz.take m).length≤10:=by simp;omega
   generalize hG:g::(pz.take m).flatMap (fun p=>st "piece"::ab4 (p.c.zip p.m))=G
   have hGl:G.length≤1300:=by rw[←hG];simp only[List.length_cons];omega
   obtain⟨c5',c6',e2⟩:=aha H (P:=P) (Z:=Z) (a5:=c5) (a6:=c6) (a7:=a7) (a8:=a8) (a9:=a9) (a10:=a10) (a11:=a11) (a12:=a12) (a13:=a13) (g:=G++[st "piece"]) (by simp only[List.length_append,List.length_cons,List.length_nil];omega) p.c p.m hok.hm hok.h24 hok.h4 hok.hc hok.hf
   refine⟨[P,Z,some (.own (rT G)),some (.val (aal p.c)),some (.val (mkT p.m)),c5,c6,a7,a8,a9,a10,a11,a12,a13],[P,Z,some (.own (rT (G++(st "piece"::ab4 (p.c.zip p.m))))),some (.val (aal p.c)),some (.val (mkT p.m)),c5',c6',a7,a8,a9,a10,a11,a12,a13],rfl,?_,some (.val (aal p.c)),some (.val (mkT p.m)),c5',c6',?_⟩
   ·refine(aaa (abq (s1:=s) (t:=.str (st "piece")) (by rfl) rfl (by simp only[List.length_map];omega))).trans ?_
    rw[show aai [P,Z,some (.own (rT G)),some (.val (aal p.c)),some (.val (mkT p.m)),c5,c6,a7,a8,a9,a10,a11,a12,a13] 2 (rT G++[T.str (st "piece")])=[P,Z,some (.own (rT (G++[st "piece"]))),some (.val (aal p.c)),some (.val (mkT p.m)),c5,c6,a7,a8,a9,a10,a11,a12,a13]by simp[aai]]
    have h24:=hok.h24
    refine(aaa ((aaW (aaY (s1:=s) (n:=p.c.length) (by simp) (by omega)) (by intro _ h;cases h)).trans e2)).trans ?_
    rw[aak]
    simp
   ·rw[hk,List.flatMap_append,←List.cons_append,hG]
    simp)
 refine⟨c3,c4,c5,c6,?_⟩
 rw[e,Nat.zero_add,List.length_map,List.take_length]
theorem ajU{g:List Str}(hg:g.length≤2000)(x:Sm)(hf:x.fit):
  ∃c13,abr (.one 13) (fun σ s=>exs C afV σ s) (x.ps.map pT) [P,Z,some (.own (rT g)),a3,a4,a5,a6,a7,a8,a9,a10,a11,a12,a13] s=.next [P,Z,some (.own (rT (g++x.ps.map ajB))),a3,a4,a5,a6,a7,a8,a9,a10,a11,a12,c13] s:=by
 have hn:=hf.n
 obtain⟨σ',e,c13,rfl⟩:=aa2 (g:=.one 13) (body:=fun σ s=>exs C afV σ s) (s:=s)
  (fun m σ=>∃c13,σ=[P,Z,some (.own (rT (g++(x.ps.take m).map ajB))),a3,a4,a5,a6,a7,a8,a9,a10,a11,a12,c13]) (x.ps.map pT) 0 [P,Z,some (.own (rT g)),a3,a4,a5,a6,a7,a8,a9,a10,a11,a12,a13] ⟨a13,by simp⟩ (by
   rintro m t σ hm ⟨c6,rfl⟩
   rw[Nat.zero_add]at *
   rw[List.getElem?_map]at hm
   obtain⟨p,hx,rfl⟩:=Option.map_eq_some_iff.mp hm
   have hk:=aa7 hx
   refine⟨_,_,rfl,?_,some (.val (pT p)),rfl⟩
   refine(aaa (abq (t:=.str (ajB p)) (by rfl) (aaj (s1:=s) (aab (s1:=s) (x:=.val (.str (st "pair"))) rfl (aab (s1:=s) (x:=.val (pT p)) rfl aae)) (H (t:=pT p) rfl (by rw[aav];decide) (by simp) (ai2 hf (List.mem_of_getElem? hx)))) (by simp only[List.length_map,List.length_append,List.length_take];omega))).trans ?_
   rw[aak,hk]
   simp[aai])
 refine⟨c13,?_⟩
 rw[e,Nat.zero_add,List.length_map,List.take_length]
theorem akj{g:List Str}(hg:g.length≤1300)(xs:List Sm)(hp:xs.length≤30)(hf:∀x∈xs,x.fit):
  ∃c7 c8 c9 c10 c11 c12 c13,abr (.many [7,8,9,10,11]) (fun σ s=>exs C af0 σ s) (xs.map paT) [P,Z,some (.own (rT g)),a3,a4,a5,a6,a7,a8,a9,a10,a11,a12,a13] s=.next [P,Z,some (.own (rT (g++xs.flatMap acq))),a3,a4,a5,a6,c7,c8,c9,c10,c11,c12,c13] s:=by
 obtain⟨σ',e,c7,c8,c9,c10,c11,c12,c13,rfl⟩:=aa2 (g:=.many [7,8,9,10,11]) (body:=fun σ s=>exs C af0 σ s) (s:=s)
  (fun m σ=>∃c7 c8 c9 c10 c11 c12 c13,σ=[P,Z,some (.own (rT (g++(xs.take m).flatMap acq))),a3,a4,a5,a6,c7,c8,c9,c10,c11,c12,c13]) (xs.map paT) 0 [P,Z,some (.own (rT g)),a3,a4,a5,a6,a7,a8,a9,a10,a11,a12,a13] ⟨a7,a8,a9,a10,a11,a12,a13,by simp⟩ (by
   rintro m t σ hm ⟨c7,c8,c9,c10,c11,c12,c13,rfl⟩
   rw[Nat.zero_add]at *
   rw[List.getElem?_map]at hm
   obtain⟨x,hx,rfl⟩:=Option.map_eq_some_iff.mp hm
   have hk:=aa7 hx
   have hfx:=hf x (List.mem_of_getElem? hx)
   have h1:=aca acq 5 (xs.take m) (fun q hq=>by
    have:=(hf q (List.mem_of_mem_take hq)).n
    simp only[acq,List.length_cons,List.length_map]
    omega)
   have h2:(xs.take m).length≤30:=by simp;omega
   generalize hG:g++(xs.take m).flatMap acq=G
   have hGl:G.length≤1450:=by rw[←hG];simp only[List.length_append];omega
   have s4:∀t∈[T.int x.f1,.int x.f2,.int x.g1,.int x.g2],wok t:=fun t ht=>ajq hfx t (by
    simp only[List.mem_cons,List.not_mem_nil,or_false]at ht ⊢
    rcases ht with h|h|h|h
    ·exact .inl h
    ·exact .inr (.inl h)
    ·exact .inr (.inr (.inl h))
    ·exact .inr (.inr (.inr (.inl h))))
   generalize hR:abD (st "seam") [T.int x.f1,.int x.f2,.int x.g1,.int x.g2]=r4
   have hr4:r4.length≤63:=by rw[←hR];exact acm (by rw[aav];decide) (by simp) s4
   have e1:∀c12,ev C (.call amN [(.cst (.str (st "seam"))),(.lst [(.sub (.var 7) (.cst (.int 0))),(.sub (.var 7) (.cst (.int 1))),(.sub (.var 8) (.cst (.int 0))),(.sub (.var 8) (.cst (.int 1)))])] []) .v [P,Z,some (.own (rT G)),a3,a4,a5,a6,some (.val (fT x)),some (.val (gT x)),some (.val (.bl x.t)),some (.val (.int x.e)),some (.val (.lst (x.ps.map pT))),c12,c13] s=.ok (.val (.str r4)) s:=fun c12=>by
    rw[←hR]
    exact aaj (aab (s1:=s) (x:=.val (.str (st "seam"))) rfl (aab (s1:=s) (x:=.val (.lst [T.int x.f1,.int x.f2,.int x.g1,.int x.g2])) (by simp) aae)) (H rfl (by rw[aav];decide) (by simp) s4)
   have hw:(if x.t then st " turned " else st " straight ").length≤20:=by
    cases x.t<;>(simp only[if_true,if_false,Bool.false_eq_true];rw[aav];decide)
   have hsub:aaQ (.val (.lst [.str (st " straight "),.str (st " turned ")])) (if x.t then 1 else 0)=some (.str (if x.t then st " turned " else st " straight ")):=by
    cases x.t<;>rfl
   have e2:ev C (.bin .add (.bin .add (.var 12) (.sub (.lst [(.cst (.str (st " straight "))),(.cst (.str (st " turned ")))]) (.b1 .int (.var 9)))) (.b1 .str (.var 10))) .v [P,Z,some (.own (rT G)),a3,a4,a5,a6,some (.val (fT x)),some (.val (gT x)),some (.val (.bl x.t)),some (.val (.int x.e)),some (.val (.lst (x.ps.map pT))),some (.val (.str r4)),c13] s=.ok (.val (.str (ahx x))) s:=by
    have q:=abv hfx.e
    rw[←akC x,hR]
    have l1:r4.length+(if x.t then st " turned " else st " straight ").length≤lim:=Nat.le_trans (show _≤100000 by omega) abC
    have l2:(r4++(if x.t then st " turned " else st " straight ")).length+(aaU x.e).length≤lim:=by
     rw[PySem.Str.length_append]
     have:=agi hfx.e
     exact Nat.le_trans (show _≤100000 by omega) abC
    refine adc (s1:=s) (x:=.val (.str (r4++(if x.t then st " turned " else st " straight ")))) (adc (s1:=s) (x:=.val (.str r4)) (y:=.val (.str (if x.t then st " turned " else st " straight "))) (by simp) (by simp[hsub]) (by simp[opR,l1])) (y:=.val (.str (aaU x.e))) (aih (s1:=s) (r:=.val (.int x.e)) (by simp) (by rw[akX q];exact al2 q)) (by simp only[opR,l2,if_true])
   obtain⟨c13',e3⟩:=ajU H (P:=P) (Z:=Z) (a3:=a3) (a4:=a4) (a5:=a5) (a6:=a6) (a7:=some (.val (fT x))) (a8:=some (.val (gT x))) (a9:=some (.val (.bl x.t))) (a10:=some (.val (.int x.e))) (a11:=some (.val (.lst (x.ps.map pT)))) (a12:=some (.val (.str r4))) (a13:=c13) (g:=G++[ahx x]) (by simp only[List.length_append,List.length_cons,List.length_nil];omega) x hfx
   refine⟨[P,Z,some (.own (rT G)),a3,a4,a5,a6,some (.val (fT x)),some (.val (gT x)),some (.val (.bl x.t)),some (.val (.int x.e)),some (.val (.lst (x.ps.map pT))),c12,c13],[P,Z,some (.own (rT (G++acq x))),a3,a4,a5,a6,some (.val (fT x)),some (.val (gT x)),some (.val (.bl x.t)),some (.val (.int x.e)),some (.val (.lst (x.ps.map pT))),some (.val (.str r4)),c13'],rfl,?_,some (.val (fT x)),some (.val (gT x)),some (.val (.bl x.t)),some (.val (.int x.e)),some (.val (.lst (x.ps.map pT))),some (.val (.str r4)),c13',?_⟩
   ·refine(aaa (aaI (e1 c12))).trans ?_
    refine(aaa (abq (s1:=s) (t:=.str (ahx x)) (by rfl) e2 (by simp only[List.length_map];omega))).trans ?_
    rw[show aai [P,Z,some (.own (rT G)),a3,a4,a5,a6,some (.val (fT x)),some (.val (gT x)),some (.val (.bl x.t)),some (.val (.int x.e)),some (.val (.lst (x.ps.map pT))),some (.val (.str r4)),c13] 2 (rT G++[T.str (ahx x)])=[P,Z,some (.own (rT (G++[ahx x]))),a3,a4,a5,a6,some (.val (fT x)),some (.val (gT x)),some (.val (.bl x.t)),some (.val (.int x.e)),some (.val (.lst (x.ps.map pT))),some (.val (.str r4)),c13]by simp[aai]]
    refine(aaa ((ano (ts:=x.ps.map pT) rfl rfl).trans e3)).trans ?_
    rw[aak]
    simp[acq]
   ·rw[hk,List.flatMap_append,←List.append_assoc,hG]
    simp)
 refine⟨c7,c8,c9,c10,c11,c12,c13,?_⟩
 rw[e,Nat.zero_add,List.length_map,List.take_length]
end
abbrev plB(pz:List Pz)(xs:List Sm)(z:Int):Bk:=⟨z,pz.map (·.c),pz.map (·.m),xs⟩
theorem adH:∀pz:List Pz,((pz.map (·.c)).zip (pz.map (·.m))).flatMap (fun p=>st "piece"::ab4 (p.1.zip p.2))=pz.flatMap fun p=>st "piece"::ab4 (p.c.zip p.m)
 | []=>rfl
 | p::pz=>by
  simp only[List.map_cons,List.zip_cons_cons,List.flatMap_cons]
  rw[adH pz]
theorem ajj{pz:List Pz}{xs:List Sm}{z:Int}(hp:pz.length≤10)(ho:∀p∈pz,p.ok)(hx:xs.length≤30)(hs:∀x∈xs,x.fit)(hz:-6≤z∧z≤6):(plB pz xs z).fit where
 z:=hz
 np:=by simp;exact hp
 ns:=hx
 ml:=by simp
 pc:=fun i c m hc hm=>by
  simp only[List.getElem?_map]at hc hm
  obtain⟨p,hp,rfl⟩:=Option.map_eq_some_iff.mp hc
  rw[hp]at hm
  cases hm
  have h:=ho p (List.mem_of_getElem? hp)
  exact⟨h.hm,h.h24,h.h4,h.hc,h.hf⟩
 sm:=hs
theorem ajy(H:∀{w:Str}{ts:List T}{t:T},(R.val t).sq2=some ts→w.length≤8→ts.length≤6→(∀t∈ts,wok t)→C.cf amN [.val (.str w),.val t] s=.ok (.val (.str (abD w ts))) s){pz:List Pz}{xs:List Sm}{z:Int}(hp:pz.length≤10)(ho:∀p∈pz,p.ok)(hx:xs.length≤30)(hs:∀x∈xs,x.fit)(hz:-6≤z∧z≤6):
  exs C avU (aam asb [.val (plT pz xs),.val (.int z)]) s=.ret (.val (.lst (rT (bkL (plB pz xs z))))) s:=by
 have hf:=ajj hp ho hx hs hz
 have h1:=hf.pl _ fun _ h=>h
 rw[adH]at h1
 simp only[List.length_zip,List.length_map,Nat.min_self]at h1
 have h2:=hf.bl
 obtain⟨c3,c4,c5,c6,e2⟩:=ajl H (P:=some (.val (plT pz xs))) (Z:=some (.val (.int z))) (a3:=none) (a4:=none) (a5:=none) (a6:=none) (a7:=none) (a8:=none) (a9:=none) (a10:=none) (a11:=none) (a12:=none) (a13:=none) (g:=abD (st "gradecut") [.int z]) pz hp ho
 obtain⟨c7,c8,c9,c10,c11,c12,c13,e3⟩:=akj H (P:=some (.val (plT pz xs))) (Z:=some (.val (.int z))) (a3:=c3) (a4:=c4) (a5:=c5) (a6:=c6) (a7:=none) (a8:=none) (a9:=none) (a10:=none) (a11:=none) (a12:=none) (a13:=none) (g:=abD (st "gradecut") [.int z]::pz.flatMap fun p=>st "piece"::ab4 (p.c.zip p.m)) (by simp only[List.length_cons];omega) xs hx hs
 have g0:aaQ (.val (plT pz xs)) 0=some (.lst (pz.map pzT)):=rfl
 have g1:aaQ (.val (plT pz xs)) 1=some (.lst (xs.map paT)):=rfl
 have hd:∀s,(R.val (plT pz xs)).dr s=.val (plT pz xs):=fun _=>rfl
 have e0:ev C (.call amN [(.cst (.str (st "gradecut"))),(.lst [(.var 1)])] []) .v (aam asb [.val (plT pz xs),.val (.int z)]) s=.ok (.val (.str (abD (st "gradecut") [.int z]))) s:=
  aaj (aab (s1:=s) (x:=.val (.str (st "gradecut"))) rfl (aab (s1:=s) (x:=.val (.lst [.int z])) (by simp) aae)) (H rfl (by rw[aav];decide) (by simp) (afs hz))
 refine(aaa (aiF (i:=2) (ts:=[.str (abD (st "gradecut") [.int z])]) rfl (by show fin .v ((evs C [_] _ _).bind _)=_;rw[afn];rw[e0];rfl))).trans ?_
 refine(aaa ((aaW (s1:=s) (ts:=pz.map pzT) (by simp[aai,g0,hd]) (by intro _ h;cases h)).trans e2)).trans ?_
 refine(aaa ((aaW (s1:=s) (ts:=xs.map paT) (by simp[g1,hd]) (by intro _ h;cases h)).trans e3)).trans ?_
 refine aaH (abo (adc (s1:=s) (x:=.bor (rT (abD (st "gradecut") [T.int z]::(pz.flatMap fun p=>st "piece"::ab4 (p.c.zip p.m))++xs.flatMap acq))) (y:=.val (.lst [.str (st "end")])) (by simp) (by simp) ?_))
 have hb:bkL (plB pz xs z)=(abD (st "gradecut") [T.int z]::(pz.flatMap fun p=>st "piece"::ab4 (p.c.zip p.m))++xs.flatMap acq)++[st "end"]:=by
  show _::((pz.map (·.c)).zip (pz.map (·.m))).flatMap _++xs.flatMap acq++[st "end"]=_
  rw[adH]
 rw[hb]at h2 ⊢
 rw[List.length_append]at h2
 generalize abD (st "gradecut") [T.int z]::(pz.flatMap fun p=>st "piece"::ab4 (p.c.zip p.m))++xs.flatMap acq=L at h2
 have:(rT L).length+[T.str (st "end")].length≤lim:=Nat.le_trans (show _≤100000 by simp only[List.length_map,List.length_cons,List.length_nil]at *;omega) abC
 simp only[opR,amW,ajc]
 rw[if_pos this]
 simp[rT]
theorem amd{pz:List Pz}{xs:List Sm}{z:Int}(hp:pz.length≤10)(ho:∀p∈pz,p.ok)(hx:xs.length≤30)(hs:∀x∈xs,x.fit)(hz:-6≤z∧z≤6):
  run true fns sub0 aad (k+2) avD [.val (plT pz xs),.val (.int z)] s=.ok (.val (.lst (rT (bkL (plB pz xs z))))) s:=
 (aaf (F:=asb) rfl rfl).trans (congrArg (aaC true false) (ajy (fun a b c d=>aau (aoI (k:=k) a b c d) rfl) hp ho hx hs hz))
theorem ak4{mk:List (List (List Spt))}{x:Sm}(h:adL mk x)(h1:mk.length≤10)(h2:∀m∈mk,m.length≤24)(h3:∀m∈mk,∀l∈m,l.length≤4):x.fit:=by
 obtain⟨q1,q2⟩:=h
 have hside:∀p q:Int,∀l,aa9 ⟨0,[],mk,[]⟩ p q=some l→(-1000000≤p∧p≤1000000)∧(-1000000≤q∧q≤1000000)∧l.length≤4:=by
  intro p q l hl
  unfold aa9 at hl
  by_cases h0:0≤p∧0≤q
  ·rw[if_pos h0]at hl
   obtain⟨m,hm,hl⟩:=Option.bind_eq_some_iff.mp hl
   have e1:=(List.getElem?_eq_some_iff.mp hm).1
   have e2:=(List.getElem?_eq_some_iff.mp hl).1
   have e1:p.toNat<mk.length:=e1
   have:=h2 m (List.mem_of_getElem? hm)
   exact⟨by omega,by omega,h3 m (List.mem_of_getElem? hm) l (List.mem_of_getElem? hl)⟩
  ·rw[if_neg h0]at hl;cases hl
 unfold abN at q1
 cases ha:aa9 ⟨0,[],mk,[]⟩ x.f1 x.f2 with
 | none=>rw[ha]at q1;simp at q1
 | some a=>
  cases hb:aa9 ⟨0,[],mk,[]⟩ x.g1 x.g2 with
  | none=>rw[ha,hb]at q1;simp at q1
  | some b=>
   rw[ha,hb]at q1
   obtain⟨a1,a2,a3⟩:=hside _ _ _ ha
   obtain⟨b1,b2,b3⟩:=hside _ _ _ hb
   simp only[aba,Bool.or_eq_false_iff,decide_eq_false_iff_not]at q2
   refine⟨a1,a2,b1,b2,by omega,by omega,fun p hp=>?_⟩
   have:=List.all_eq_true.mp (show abf a.length b.length x.ps=true from q1) p hp
   simp only[inR,Bool.and_eq_true,decide_eq_true_eq]at this
   omega
end Pg
end IP
end
noncomputable section
namespace IP
namespace Pg
open L2
variable{k:Nat}{s:Sto}{C:Cf}
structure Chk(C:Cf)(s:Sto):Prop where
 whole:∀i:Int,C.cf at6 [.val (.int i)] s=.ok (.val (.bl true)) s
 nums:∀xs:List Int,xs.length≤1000→C.cf arl [.val (tI xs),.val (tI xs)] s=.ok (.val (.bl true)) s
 rows:∀l:List (List Int),l.length≤1000→(∀xs∈l,xs.length≤1000)→C.cf amT [.val (tIs l),.val (tIs l)] s=.ok (.val (.bl true)) s
theorem Chk.mk':Chk (cfX fns sub0 (k+3)) s:=⟨fun i=>aau (ahZ (k:=k+2) i) rfl,fun xs h=>aau (aes (k:=k+1) xs h) rfl,fun l h h2=>aau (apK (k:=k) l h h2) rfl⟩
abbrev sL(p:Spt):List Int:=[p.x,p.y,p.a,p.b,p.c,p.d]
theorem ahz(c:List Spt):aal c=tIs (c.map sL):=by
 simp only[tIs,List.map_map]
 rfl
theorem Chk.sp(H:Chk C s)(c:List Spt)(h:c.length≤1000):C.cf amT [.val (aal c),.val (aal c)] s=.ok (.val (.bl true)) s:=by
 rw[ahz]
 exact H.rows _ (by simp;exact h) (fun xs hx=>by
  obtain⟨p,_,rfl⟩:=List.mem_map.mp hx
  simp)
theorem Chk.ps(H:Chk C s)(ps:List (Int×Int))(h:ps.length≤1000):C.cf amT [.val (.lst (ps.map pT)),.val (.lst (ps.map pT))] s=.ok (.val (.bl true)) s:=by
 have e:T.lst (ps.map pT)=tIs (ps.map fun p=>[p.1,p.2]):=by
  simp only[tIs,List.map_map]
  rfl
 rw[e]
 exact H.rows _ (by simp;exact h) (fun xs hx=>by
  obtain⟨p,_,rfl⟩:=List.mem_map.mp hx
  simp)
theorem adR(H:Chk C s)(x:Sm)(hx:x.ps.length≤4):exs C awT (aam atw [.val (paT x),.val (paT x)]) s=.ret (.val (.bl true)) s:=by
 have g0:aaQ (.val (paT x)) 0=some (fT x):=rfl
 have g1:aaQ (.val (paT x)) 1=some (gT x):=rfl
 have g2:aaQ (.val (paT x)) 2=some (.bl x.t):=rfl
 have g3:aaQ (.val (paT x)) 3=some (.int x.e):=rfl
 have g4:aaQ (.val (paT x)) 4=some (.lst (x.ps.map pT)):=rfl
 have hd:∀s,(R.val (paT x)).dr s=.val (paT x):=fun _=>rfl
 have hl:b1R .len (.val (paT x))=some (.val (.int 5)):=rfl
 have hi:agK C.sub (.val (paT x)) .tuple=some true:=rfl
 have ib:agK C.sub (.val (.bl x.t)) .bool=some true:=rfl
 have n1:C.cf arl [.val (fT x),.val (fT x)] s=.ok (.val (.bl true)) s:=H.nums [x.f1,x.f2] (by simp)
 have n2:C.cf arl [.val (gT x),.val (gT x)] s=.ok (.val (.bl true)) s:=H.nums [x.g1,x.g2] (by simp)
 have w:C.cf at6 [.val (.int x.e)] s=.ok (.val (.bl true)) s:=H.whole x.e
 have p:C.cf amT [.val (.lst (x.ps.map pT)),.val (.lst (x.ps.map pT))] s=.ok (.val (.bl true)) s:=H.ps x.ps (by omega)
 generalize paT x=t at *
 generalize fT x=ft at *
 generalize gT x=gt at *
 refine(aaa (σ1:=[some (.val t),some (.val t)]) (s1:=s) (by simp[hd,hi,hl])).trans ?_
 refine(aaa (σ1:=[some (.val t),some (.val t)]) (s1:=s) (by simp[hd,g0,g1,n1,n2])).trans ?_
 refine(aaa (σ1:=[some (.val t),some (.val t)]) (s1:=s) (by simp[hd,g2,ib])).trans ?_
 simp[hd,g3,g4,w,p]
theorem afw(x:Sm)(hx:x.ps.length≤4):run true fns sub0 aad (k+4) auw [.val (paT x),.val (paT x)] s=.ok (.val (.bl true)) s:=
 (aaf (F:=atw) rfl rfl).trans (congrArg (aaC true false) (adR (Chk.mk' (k:=k)) x hx))
structure Ans(C:Cf)(A:Ad)(B:Bk)(s:Sto):Prop where
 npc:C.cf apw [slf A] s=.ok (.val (.int B.pc.length)) s
 nsm:C.cf arV [slf A] s=.ok (.val (.int B.sm.length)) s
 told:∀{i:Nat}{x:Sm},B.sm[i]?=some x→C.cf ap3 [slf A,.val (.int i)] s=.ok (.val (paT x)) s
 spots:∀{i:Nat}{c:List Spt},B.pc[i]?=some c→C.cf arK [slf A,.val (.int i)] s=.ok (.val (aal c)) s
 marks:∀{i j:Nat}{m:List (List Spt)}{l:List Spt},B.mrk[i]?=some m→m[j]?=some l→C.cf aiL [slf A,.val (.int i),.val (.int j)] s=.ok (.val (aal l)) s
 same:∀{x:Sm},x.ps.length≤4→C.cf auw [.val (paT x),.val (paT x)] s=.ok (.val (.bl true)) s
abbrev pV(pz:List Pz)(xs:List Sm):Option IP.B:=some (.val (plT pz xs))
theorem akM(H:Chk C s){A:Ad}{B:Bk}(h:BAt s A B)(K:Ans C A B s){i:Nat}{p:Pz}(hm:B.mrk[i]?=some p.m)(ho:p.ok){P Z c3 c7:Option IP.B}:
  ∃c7',abr (.one 7) (fun σ s=>exs C afE σ s) (aao 0 p.c.length) [some (.val (.loc A.o)),P,Z,c3,some (.val (.int i)),some (.val (aal p.c)),some (.val (mkT p.m)),c7] s=.next [some (.val (.loc A.o)),P,Z,c3,some (.val (.int i)),some (.val (aal p.c)),some (.val (mkT p.m)),c7'] s:=by
 obtain⟨σ',e,c7',rfl⟩:=aa2 (g:=.one 7) (body:=fun σ s=>exs C afE σ s) (s:=s)
  (fun _ σ=>∃c7,σ=[some (.val (.loc A.o)),P,Z,c3,some (.val (.int i)),some (.val (aal p.c)),some (.val (mkT p.m)),c7]) (aao 0 p.c.length) 0 _ ⟨c7,rfl⟩ (by
   rintro m t σ hm' ⟨c7,rfl⟩
   obtain⟨rfl,hlt⟩:=aa1 hm'
   rw[Int.zero_add]
   have hml:m<p.m.length:=by rw[ho.hm];omega
   have hq:p.m[m]?=some p.m[m]:=by simp[hml]
   generalize p.m[m]=l at hq
   have h4:=ho.h4 l (List.mem_of_getElem? hq)
   have e1:ev C (.call amT [(.meth (.var 0) 0 aiL [(.var 4),(.var 7)] []),(.sub (.var 6) (.var 7))] []) .v [some (.val (.loc A.o)),P,Z,c3,some (.val (.int i)),some (.val (aal p.c)),some (.val (mkT p.m)),some (.val (.int m))] s=.ok (.val (.bl true)) s:=by
    have hsub:aaQ (.val (mkT p.m)) (m:Int)=some (aal l):=abj (by simp[hq])
    have hd:∀s,(R.val (mkT p.m)).dr s=.val (mkT p.m):=fun _=>rfl
    exact aaj (aab (s1:=s) (aay (s1:=s) (x:=slf A) rfl h.li (aab (s1:=s) (x:=.val (.int i)) rfl (aab (s1:=s) (x:=.val (.int m)) rfl aae)) (K.marks hm hq)) (aab (s1:=s) (x:=.val (aal l)) (by simp[hd,hsub]) aae)) (H.sp l (by omega))
   refine⟨_,_,rfl,?_,some (.val (.int m)),rfl⟩
   exact(aaa ((aaG (s1:=s) (aaT (ab3 e1))).trans aak)).trans aak)
 exact⟨c7',e⟩
section
variable{pz:List Pz}{xs:List Sm}{z:Int}{A:Ad}
theorem asH{i:Nat}{p:Pz}(h:pz[i]?=some p):(plB pz xs z).pc[i]?=some p.c:=by simp[h]
theorem asi{i:Nat}{p:Pz}(h:pz[i]?=some p):(plB pz xs z).mrk[i]?=some p.m:=by simp[h]
theorem aiv(H:Chk C s)(h:BAt s A (plB pz xs z))(K:Ans C A (plB pz xs z) s)(ho:∀p∈pz,p.ok){Z c3 c4 c5 c6 c7:Option IP.B}:
  ∃c4 c5 c6 c7,abr (.one 4) (fun σ s=>exs C af7 σ s) (aao 0 pz.length) [some (.val (.loc A.o)),pV pz xs,Z,c3,none,none,none,none] s=.next [some (.val (.loc A.o)),pV pz xs,Z,c3,c4,c5,c6,c7] s:=by
 obtain⟨σ',e,c4,c5,c6,c7,rfl⟩:=aa2 (g:=.one 4) (body:=fun σ s=>exs C af7 σ s) (s:=s)
  (fun _ σ=>∃c4 c5 c6 c7,σ=[some (.val (.loc A.o)),pV pz xs,Z,c3,c4,c5,c6,c7]) (aao 0 pz.length) 0 [some (.val (.loc A.o)),pV pz xs,Z,c3,none,none,none,none] ⟨none,none,none,none,rfl⟩ (by
   rintro m t σ hm' ⟨c4,c5,c6,c7,rfl⟩
   obtain⟨rfl,hlt⟩:=aa1 hm'
   rw[Int.zero_add]
   have hml:m<pz.length:=by omega
   have hp:pz[m]?=some pz[m]:=by simp[hml]
   generalize pz[m]=p at hp
   have hok:=ho p (List.mem_of_getElem? hp)
   have h24:=hok.h24
   obtain⟨c7',e7⟩:=akM H h K (i:=m) (asi hp) hok (P:=pV pz xs) (Z:=Z) (c3:=c3) (c7:=c7)
   have g0:aaQ (.val (plT pz xs)) 0=some (.lst (pz.map pzT)):=rfl
   have hd:∀s,(R.val (plT pz xs)).dr s=.val (plT pz xs):=fun _=>rfl
   have gp:aaQ (.val (.lst (pz.map pzT))) (m:Int)=some (pzT p):=abj (by simp[hp])
   have e1:ev C (.call amT [(.meth (.var 0) 0 arK [(.var 4)] []),(.var 5)] []) .v [some (.val (.loc A.o)),pV pz xs,Z,c3,some (.val (.int m)),some (.val (aal p.c)),some (.val (mkT p.m)),c7] s=.ok (.val (.bl true)) s:=
    aaj (aab (s1:=s) (aay (s1:=s) (x:=slf A) rfl h.li (aab (s1:=s) (x:=.val (.int m)) rfl aae) (K.spots (asH hp))) (aab (s1:=s) (x:=.val (aal p.c)) rfl aae)) (H.sp p.c (by omega))
   refine⟨[some (.val (.loc A.o)),pV pz xs,Z,c3,some (.val (.int m)),c5,c6,c7],_,by simp[aaq,put],?_,some (.val (.int m)),some (.val (aal p.c)),some (.val (mkT p.m)),c7',rfl⟩
   refine(aaa (σ1:=[some (.val (.loc A.o)),pV pz xs,Z,c3,some (.val (.int m)),some (.val (aal p.c)),some (.val (mkT p.m)),c7]) (s1:=s) ?_).trans ?_
   ·have ee:ev C (.sub (.sub (.var 1) (.cst (.int 0))) (.var 4)) .v [some (.val (.loc A.o)),pV pz xs,Z,c3,some (.val (.int m)),c5,c6,c7] s=.ok (.val (pzT p)) s:=by simp[hd,g0,gp]
    rw[aoR,ee];rfl
   refine(aaa ((aaG (s1:=s) (aaT (ab3 e1))).trans aak)).trans ?_
   exact(aaa ((aaW (s1:=s) (aaY (s1:=s) (n:=p.c.length) (by simp) (by omega)) (by intro _ h;cases h)).trans e7)).trans aak)
 exact⟨c4,c5,c6,c7,e⟩
theorem akd(h:BAt s A (plB pz xs z))(K:Ans C A (plB pz xs z) s)(hx:∀x∈xs,x.fit){Z c3 c4 c5 c6 c7:Option IP.B}:
  ∃c4',abr (.one 4) (fun σ s=>exs C afz σ s) (aao 0 xs.length) [some (.val (.loc A.o)),pV pz xs,Z,c3,c4,c5,c6,c7] s=.next [some (.val (.loc A.o)),pV pz xs,Z,c3,c4',c5,c6,c7] s:=by
 obtain⟨σ',e,c4',rfl⟩:=aa2 (g:=.one 4) (body:=fun σ s=>exs C afz σ s) (s:=s)
  (fun _ σ=>∃c4,σ=[some (.val (.loc A.o)),pV pz xs,Z,c3,c4,c5,c6,c7]) (aao 0 xs.length) 0 [some (.val (.loc A.o)),pV pz xs,Z,c3,c4,c5,c6,c7] ⟨c4,rfl⟩ (by
   rintro m t σ hm' ⟨c4,rfl⟩
   obtain⟨rfl,hlt⟩:=aa1 hm'
   rw[Int.zero_add]
   have hml:m<xs.length:=by omega
   have hp:xs[m]?=some xs[m]:=by simp[hml]
   generalize xs[m]=x at hp
   have hf:=hx x (List.mem_of_getElem? hp)
   have g1:aaQ (.val (plT pz xs)) 1=some (.lst (xs.map paT)):=rfl
   have hd:∀s,(R.val (plT pz xs)).dr s=.val (plT pz xs):=fun _=>rfl
   have gp:aaQ (.val (.lst (xs.map paT))) (m:Int)=some (paT x):=abj (by simp[hp])
   have e1:ev C (.call auw [(.meth (.var 0) 0 ap3 [(.var 4)] []),(.sub (.sub (.var 1) (.cst (.int 1))) (.var 4))] []) .v [some (.val (.loc A.o)),pV pz xs,Z,c3,some (.val (.int m)),c5,c6,c7] s=.ok (.val (.bl true)) s:=
    aaj (aab (s1:=s) (aay (s1:=s) (x:=slf A) rfl h.li (aab (s1:=s) (x:=.val (.int m)) rfl aae) (K.told hp)) (aab (s1:=s) (x:=.val (paT x)) (by simp[hd,g1,gp]) aae)) (K.same hf.n)
   refine⟨_,_,rfl,?_,some (.val (.int m)),rfl⟩
   exact(aaa ((aaG (s1:=s) (aaT (ab3 e1))).trans aak)).trans aak)
 exact⟨c4',e⟩
theorem ai0{a b c:E}{σ:Fr}{x y w:T}(h1:ev C a .v σ s=.ok (.val x) s)(h2:ev C b .v σ s=.ok (.val y) s)(h3:ev C c .v σ s=.ok (.val w) s):ev C (.tup [a,b,c]) .v σ s=.ok (.val (.tup [x,y,w])) s:=by
 simp[h1,h2,h3]
theorem agW(H:Chk C s)(h:BAt s A (plB pz xs z))(K:Ans C A (plB pz xs z) s)(hp:pz.length≤10)(ho:∀p∈pz,p.ok)(hl:xs.length≤30)(hx:∀x∈xs,x.fit):exs C axp (aam att [slf A,.val (plT pz xs),.val (.int z)]) s=.ret (.val (.bl true)) s:=by
 have g0:aaQ (.val (plT pz xs)) 0=some (.lst (pz.map pzT)):=rfl
 have g1:aaQ (.val (plT pz xs)) 1=some (.lst (xs.map paT)):=rfl
 have hd:∀s,(R.val (plT pz xs)).dr s=.val (plT pz xs):=fun _=>rfl
 obtain⟨c4,c5,c6,c7,e1⟩:=aiv H h K ho (Z:=some (.val (.int z))) (c3:=some (.val (tI [pz.length,xs.length,z]))) (c4:=none) (c5:=none) (c6:=none) (c7:=none)
 obtain⟨c4',e2⟩:=akd h K hx (Z:=some (.val (.int z))) (c3:=some (.val (tI [pz.length,xs.length,z]))) (c4:=c4) (c5:=c5) (c6:=c6) (c7:=c7)
 have np:C.cf apw [slf A] s=.ok (.val (.int pz.length)) s:=by rw[K.npc];simp
 have ns:C.cf arV [slf A] s=.ok (.val (.int xs.length)) s:=K.nsm
 refine(aaa (σ1:=[some (.val (.loc A.o)),pV pz xs,some (.val (.int z)),some (.val (tI [pz.length,xs.length,z])),none,none,none,none]) (s1:=s) (aaI (ai0 (aay (s1:=s) (x:=slf A) rfl h.li aae np) (aay (s1:=s) (x:=slf A) rfl h.li aae ns) (by simp[h.f0])))).trans ?_
 have e0:ev C (.call arl [(.var 3),(.tup [(.b1 .len (.sub (.var 1) (.cst (.int 0)))),(.b1 .len (.sub (.var 1) (.cst (.int 1)))),(.var 2)])] []) .v [some (.val (.loc A.o)),pV pz xs,some (.val (.int z)),some (.val (tI [pz.length,xs.length,z])),none,none,none,none] s=.ok (.val (.bl true)) s:=
  aaj (aab (s1:=s) (x:=.val (tI [pz.length,xs.length,z])) rfl (aab (s1:=s) (x:=.val (tI [pz.length,xs.length,z])) (ai0 (by simp[hd,g0]) (by simp[hd,g1]) (by simp)) aae)) (H.nums _ (by simp))
 refine(aaa ((aaG (s1:=s) (aaT (ab3 e0))).trans aak)).trans ?_
 refine(aaa ((aaW (s1:=s) (aaY (s1:=s) (n:=pz.length) (by simp[hd,g0]) (by omega)) (by intro _ h;cases h)).trans e1)).trans ?_
 refine(aaa ((aaW (s1:=s) (aaY (s1:=s) (n:=xs.length) (by simp[hd,g1]) (by omega)) (by intro _ h;cases h)).trans e2)).trans ?_
 exact aaH (abo rfl)
theorem aoJ(h:BAt s A (plB pz xs z)):Ans (cfX fns sub0 (k+4)) A (plB pz xs z) s:=
 ⟨aau (aej (k:=k+3) h) rfl,aau (agg (k:=k+3) h) rfl,fun a=>aau (ald (k:=k+2) h a) rfl,fun a=>aau (adC (k:=k+2) h a) rfl,fun a b=>aau (acl (k:=k+2) h a b) rfl,fun a=>aau (afw (k:=k) _ a) rfl⟩
theorem akz(h:BAt s A (plB pz xs z))(hp:pz.length≤10)(ho:∀p∈pz,p.ok)(hl:xs.length≤30)(hx:∀x∈xs,x.fit):run true fns sub0 aad (k+5) at9 [slf A,.val (plT pz xs),.val (.int z)] s=.ok (.val (.bl true)) s:=
 (aaf (F:=att) rfl rfl).trans (congrArg (aaC true false) (agW (Chk.mk' (k:=k+1)) h (aoJ (k:=k) h) hp ho hl hx))
end
end Pg
end IP
end
noncomputable section
namespace IP
namespace Pg
open L2
open PySem (Str)
variable{k:Nat}{s:Sto}{C:Cf}
def wsT(ws:List Str):T:=.lst (ws.map .str)
def rwT(all:List (List Str)):T:=.lst (all.map wsT)
def RAt(s:Sto)(o:Nat)(all:List (List Str))(i:Nat):Prop:=s[o]?=some (.ins 1 [some (rwT all),some (.int i)])
structure ac3(o:Nat)(s s':Sto):Prop where
 len:s'.length=s.length
 at_:∀l,l≠o→s'[l]?=s[l]?
theorem ac3.refl(o:Nat)(s:Sto):ac3 o s s:=⟨rfl,fun _ _=>rfl⟩
theorem ac3.trans{o:Nat}{s s' s2:Sto}(h:ac3 o s s')(h2:ac3 o s' s2):ac3 o s s2:=⟨h2.len.trans h.len,fun l hl=>(h2.at_ l hl).trans (h.at_ l hl)⟩
theorem ac3.bat{o:Nat}{s s':Sto}{A:Ad}{B:Bk}(h:ac3 o s s')(hb:BAt s A B)(hn:o∉A.fp):BAt s' A B:=hb.other fun l hl=>h.at_ l fun e=>hn (e▸hl)
theorem abE{α:Type}{l:List α}{i:Nat}{a:α}{r:List α}(h:l.drop i=a::r):l[i]?=some a∧l.drop (i+1)=r∧i<l.length:=by
 have h1:l[i]?=some a:=by
  have:=congrArg (fun x=>x[0]?) h
  simpa using this
 refine⟨h1,?_,(List.getElem?_eq_some_iff.mp h1).1⟩
 rw[←List.drop_drop,h];rfl
section
variable{o i:Nat}{all:List (List Str)}{w0 w:Str}{ws:List Str}{aat:List (List Str)}
theorem RAt.lt(h:RAt s o all i):o<s.length:=(List.getElem?_eq_some_iff.mp h).1
theorem RAt.f0(h:RAt s o all i):ae2 s (.val (.loc o)) 1 0=some (rwT all):=by rw[abu h];rfl
theorem RAt.f1(h:RAt s o all i):ae2 s (.val (.loc o)) 1 1=some (.int i):=by rw[abu h];rfl
theorem RAt.li(h:RAt s o all i):(R.val (.loc o)).locI s 1=some (o,[some (rwT all),some (.int i)]):=acH h
theorem aq9(hd:all.drop i=ws::aat):aaQ (.val (rwT all)) (i:Int)=some (wsT ws):=abj (by simp[(abE hd).1])
theorem ag3{ts:List T}{n:Nat}(h:n≤ts.length):aem (.val (.lst ts)) (some (n:Int)) none=some (.val (.lst (ts.drop n))):=by
 have e:HT.sIx ts.length 0 (some (n:Int))=n:=by rw[HT.sIx_nat];omega
 have e2:HT.sIx ts.length ts.length none=ts.length:=rfl
 simp[aem,amm,e,e2,←List.length_drop,List.take_length]
theorem ajJ{ts:List T}{n:Nat}(h:n≤ts.length):aem (.val (.lst ts)) none (some (n:Int))=some (.val (.lst (ts.take n))):=by
 have e:HT.sIx ts.length ts.length (some (n:Int))=n:=by rw[HT.sIx_nat];omega
 have e2:HT.sIx ts.length 0 none=0:=rfl
 simp[aem,amm,e,e2]
theorem aeq{a:E}{es:List E}{c f:Nat}{ds:List T}{σ:Fr}{s s1:Sto}{b:Bool}(h:ev C (.meth a c f es ds) .v σ s=.ok (.val (.bl b)) s1):ev C (.meth a c f es ds) .t σ s=.ok (.val (.bl b)) s1:=by
 show fin .t (ev C (.meth a c f es ds) .v σ s)=_
 rw[h];rfl
theorem afX{a b:E}{σ:Fr}{s1 s2:Sto}(h:ev C a .t σ s=.ok (.val (.bl false)) s1)(h2:ev C b .t σ s1=.ok (.val (.bl false)) s2):ev C (.or a b) .t σ s=.ok (.val (.bl false)) s2:=by
 show(ev C a .t σ s).bind _=_
 rw[h]
 exact h2
theorem ai8{a b:E}{σ:Fr}{s1 s2:Sto}{x y:R}{t:Bool}(h:ev C a .v σ s=.ok x s1)(h':ev C b .v σ s1=.ok y s2)(h2:act .ne x y=some t):ev C (.cmp .ne a b) .t σ s=.ok (.val (.bl t)) s2:=by
 show fin .t ((ev C a .v σ s).bind fun x s1=>(ev C b .v σ s1).bind fun y s2=>.of ((act .ne x y).map fun k=>.val (.bl k)) s2)=_
 rw[h]
 simp[h',h2]
theorem ahc(h:RAt s o all i)(hd:all.drop i=(w0::ws)::aat):exs C au2 (aam atB [.val (.loc o),.val (.str w)]) s=.ret (.val (.bl (w0==w))) s:=by
 have hl:((i:Int)<(all.map wsT).length):=by simp;exact(abE hd).2.2
 have h1:=aq9 hd
 have hd1:∀s,(R.val (rwT all)).dr s=.val (rwT all):=fun _=>rfl
 have hd2:∀s,(R.val (wsT (w0::ws))).dr s=.val (wsT (w0::ws)):=fun _=>rfl
 have hlen:b1R .len (.val (rwT all))=some (.val (.int (all.map wsT).length)):=rfl
 have h0:aaQ (.val (wsT (w0::ws))) 0=some (.str w0):=abj (n:=0) rfl
 have he:eqD 8 (.str w0) (.str w)=some (w0==w):=by simp[eqD]
 have hlt:decide ((i:Int)<(all.map wsT).length)=true:=decide_eq_true hl
 simp only[List.length_map]at hlen hlt
 simp[au2,h.f0,h.f1,hd1,hd2,h1,hlen,h0,he,(abE hd).2.2]
theorem agc(h:RAt s o all i)(hd:all.drop i=(w0::ws)::aat):run true fns sub0 aad (k+1) ahw [.val (.loc o),.val (.str w)] s=.ok (.val (.bl (w0==w))) s:=
 (aaf (F:=atB) rfl rfl).trans (congrArg (aaC true false) (ahc h hd))
theorem ajW(h:RAt s o all i)(hd:all.drop i=(w::ws)::aat)(hb:C.cf ahw [.val (.loc o),.val (.str w)] s=.ok (.val (.bl true)) s){n:Nat}(hn:ws.length=n):
  ∃s',RAt s' o all (i+1)∧ac3 o s s'∧exs C arR (aam anu [.val (.loc o),.val (.str w),.val (.int n)]) s=.ret (.val (wsT ws)) s':=by
 have h1:=aq9 hd
 have hd1:∀s,(R.val (rwT all)).dr s=.val (rwT all):=fun _=>rfl
 have hd2:∀s,(R.val (wsT (w::ws))).dr s=.val (wsT (w::ws)):=fun _=>rfl
 have hlen:b1R .len (.val (wsT (w::ws)))=some (.val (.int ((n:Int)+1))):=by
  show some (R.val (T.int ((w::ws).map T.str).length))=_
  simp[hn]
 have hr':RAt (s.set o (.ins 1 [some (rwT all),some (.int ((i:Int)+1))])) o all (i+1):=by
  unfold RAt;rw[List.getElem?_set_self h.lt];simp
 refine⟨s.set o (.ins 1 [some (rwT all),some (.int ((i:Int)+1))]),hr',⟨by simp,fun l hl=>List.getElem?_set_ne (Ne.symm hl)⟩,?_⟩
 have hcut:aem (.val (wsT (w::ws))) (some 1) none=some (.val (wsT ws)):=ag3 (n:=1) (by simp)
 have hx1:exs C arR (aam anu [.val (.loc o),.val (.str w),.val (.int n)]) s=exs C (arR.drop 1) (aam anu [.val (.loc o),.val (.str w),.val (.int n)]) s:=by
  refine aaa ((aaG (s1:=s) ?_).trans aak)
  have e1:=aaT (aeq (aay (C:=C) (a:=.var 0) (es:=[.var 1]) (c:=1) (f:=ahw) (σ:=aam anu [.val (.loc o),.val (.str w),.val (.int n)]) (s1:=s) (x:=.val (.loc o)) rfl h.li (aab (s1:=s) (x:=.val (.str w)) rfl aae) hb))
  refine afX e1 (ai8 (s1:=s) (x:=.val (.int ((n:Int)+1))) (y:=.val (.int ((n:Int)+1))) ?_ ?_ (by simp))
  ·simp[h.f0,h.f1,hd1,h1,hd2,hlen]
  ·simp
 rw[hx1]
 have hs1:s.set o (.ins 1 ([some (rwT all),some (T.int i)].set 1 (some (T.int ((i:Int)+1)))))=s.set o (.ins 1 [some (rwT all),some (.int ((i:Int)+1))]):=rfl
 refine(aaa (σ1:=aam anu [.val (.loc o),.val (.str w),.val (.int n)]) (s1:=s.set o (.ins 1 [some (rwT all),some (.int ((i:Int)+1))])) (by simp[h.f1,h.li])).trans ?_
 have h1':aaQ (.val (rwT all)) ((i:Int)+1-1)=some (wsT (w::ws)):=by rw[Int.add_sub_cancel];exact h1
 generalize s.set o (.ins 1 [some (rwT all),some (.int ((i:Int)+1))])=s2 at hr' ⊢
 have f0:=hr'.f0
 have f1:ae2 s2 (.val (.loc o)) 1 1=some (.int ((i:Int)+1)):=by rw[hr'.f1];simp
 have h1'':aaQ (.val (rwT all)) (i:Int)=some (wsT (w::ws)):=h1
 refine aaH (abo ?_)
 simp[f0,f1,hd1,h1'',hd2,hcut]
end
def aw4:R→Option Bool
 | .val (.bl k)=>some k
 | _=>none
theorem ar1{c:E}{b:List S}{σ:Fr}{s:Sto}(hw:C.wl=aad):ex C (.whl c b) σ s=aad (fun σ s=>(ev C c .t σ s).bind fun x s1=>.of (aw4 x) s1) (fun σ s=>exs C b σ s) σ s:=by
 rw[show ex C (.whl c b) σ s=C.wl (fun σ s=>(ev C c .t σ s).bind fun x s1=>.of (match x with | .val (.bl k)=>some k | _=>none) s1) (fun σ s=>exs C b σ s) σ s from rfl,hw]
 congr 1
theorem acd(hw:C.wl=aad){c:E}{b:List S}(n:Nat)(I:Nat→Fr→Sto→Prop)
  (step:∀m,m<n→∀σ s,I m σ s→ev C c .t σ s=.ok (.val (.bl true)) s∧∃σ2 s2,exs C b σ s=.next σ2 s2∧I (m+1) σ2 s2)
  (last:∀σ s,I n σ s→ev C c .t σ s=.ok (.val (.bl false)) s) {σ:Fr}{s:Sto} (h:I 0 σ s):∃σ' s',ex C (.whl c b) σ s=.next σ' s'∧I n σ' s':=by
 have key:∀j m,m+j=n→∀σ s,I m σ s→∃σ' s',aa3 (fun σ s=>(ev C c .t σ s).bind fun x s1=>.of (aw4 x) s1) (fun σ s=>exs C b σ s) (j+1) σ s=.next σ' s'∧I n σ' s':=by
  intro j
  induction j with
  | zero=>
   intro m hm σ s hI
   have hm:m=n:=hm
   subst hm
   have e:=last σ s hI
   exact⟨σ,s,by unfold aa3;rw[e];rfl,hI⟩
  | succ j ih=>
   intro m hm σ s hI
   obtain⟨e,σ2,s2,e2,h2⟩:=step m (by omega) σ s hI
   obtain⟨σ',s',e3,h3⟩:=ih (m+1) (by omega) σ2 s2 h2
   refine⟨σ',s',?_,h3⟩
   unfold aa3
   rw[e]
   show(exs C b σ s).bind _=_
   rw[e2]
   exact e3
 obtain⟨σ',s',e,h2⟩:=key n 0 (Nat.zero_add n) σ s h
 refine⟨σ',s',?_,h2⟩
 rw[ar1 hw,aie (n:=n+1) (by rw[e];intro z;cases z),e]
theorem ada{e:E}{i:Nat}{σ:Fr}{α:Type}(g f:α→T):∀xs:List α,(∀x∈xs,ev C e .v (put σ i (g x)) s=.ok (.val (f x)) s)→aa0 (fun t s=>onO (aaq σ (.one i) t) fun σ'=>one (ev C e .v σ' s)) (xs.map g) s=.ok (xs.map f) s
 | [],_=>rfl
 | x::xs,h=>by
  have h0:=h x (by simp)
  have h1:=ada g f xs fun y hy=>h y (by simp[hy])
  rw[List.map_cons,List.map_cons]
  unfold aa0
  rw[show onO (aaq σ (.one i) (g x)) (fun σ'=>one (ev C e .v σ' s))=.ok (some (f x)) s by show one (ev C e .v (put σ i (g x)) s)=_;rw[h0];rfl]
  simp only[Res.bind_ok]
  rw[h1]
  rfl
def inN(i:Int):Prop:=-99999≤i∧i≤999999
theorem agh{i:Int}(h:inN i):run true fns sub0 aad (k+1) asL [.val (.str (aaU i))] s=.ok (.val (.int i)) s:=by
 rw[aaf (F:=aj9) rfl rfl]
 have h6:=ae9 h
 have hr:=ajr h
 generalize aaU i=x at h6 hr
 have e1:ev (cfX fns sub0 k) (.lenS (.var 0)) .v (aam aj9 [.val (.str x)]) s=.ok (.val (.int x.length)) s:=by
  show fin .v (.of (ar2 (.val (.str x))) s)=_
  unfold ar2
  dsimp only
  rw[if_pos (Nat.le_trans h6 (by decide))];rfl
 have e2:ev (cfX fns sub0 k) (.intS (.var 0)) .v (aam aj9 [.val (.str x)]) s=.ok (.val (.int i)) s:=by
  show fin .v (.of (aog (.val (.str x))) s)=_
  unfold aog
  dsimp only
  rw[if_pos (Nat.le_trans h6 (by decide)),hr];rfl
 have e3:ex (cfX fns sub0 k) (.tryN adY) (aam aj9 [.val (.str x)]) s=.ret (.val (.int i)) s:=by
  show(exs (cfX fns sub0 k) adY (aam aj9 [.val (.str x)]) s).nox=_
  rw[show exs (cfX fns sub0 k) adY (aam aj9 [.val (.str x)]) s=.ret (.val (.int i)) s from aaH (abo e2)]
  rfl
 have hx:exs (cfX fns sub0 k) awp (aam aj9 [.val (.str x)]) s=.ret (.val (.int i)) s:=by
  refine(aaa ((aaG (s1:=s) ?_).trans aak)).trans (aaH e3)
  show fin .t ((ev (cfX fns sub0 k) (.lenS (.var 0)) .v (aam aj9 [.val (.str x)]) s).bind fun z s1=>(ev (cfX fns sub0 k) (.glb "MOST_SIGNS" 6) .v (aam aj9 [.val (.str x)]) s1).bind fun y s2=>.of ((act .gt z y).map fun k=>.val (.bl k)) s2)=_
  rw[e1]
  simp
  omega
 exact congrArg (aaC true false) hx
section
variable{o i:Nat}{all:List (List Str)}{w0 w:Str}{ws:List Str}{aat:List (List Str)}
theorem akO(h:RAt s o all i)(hd:all.drop i=(w::ws)::aat){n:Nat}(hn:ws.length=n):
  ∃s',RAt s' o all (i+1)∧ac3 o s s'∧run true fns sub0 aad (k+2) atR [.val (.loc o),.val (.str w),.val (.int n)] s=.ok (.val (wsT ws)) s':=by
 obtain⟨s',h1,h2,h3⟩:=ajW (C:=cfX fns sub0 (k+1)) h hd (aau ((agc (k:=k) (w:=w) h hd).trans (by rw[beq_self_eq_true])) rfl) hn
 exact⟨s',h1,h2,(aaf (F:=anu) rfl rfl).trans (congrArg (aaC true false) h3)⟩
theorem afl{is:List Int}{s':Sto}(hr:RAt s o all i)(hi:∀x∈is,inN x)(hlen:is.length=n)(ht:C.cf atR [.val (.loc o),.val (.str w),.val (.int n)] s=.ok (.val (wsT (is.map aaU))) s')(hnum:∀x∈is,C.cf asL [.val (.str (aaU x))] s'=.ok (.val (.int x)) s'):
  exs C av0 (aam asT [.val (.loc o),.val (.str w),.val (.int n)]) s=.ret (.val (tI is)) s':=by
 refine aaH (abo (aih (s1:=s') (r:=.val (.lst (iL is))) ?_ rfl))
 refine af2 (s1:=s') (ts:=is.map fun x=>T.str (aaU x)) (ago (aay (s1:=s) (x:=.val (.loc o)) rfl hr.li (aab (s1:=s) (x:=.val (.str w)) rfl (aab (s1:=s) (x:=.val (.int n)) rfl aae)) (ht.trans (by simp[wsT])))) ?_
 exact ada (fun y=>T.str (aaU y)) T.int is fun y hy=>aaj (aab (s1:=s') (x:=.val (.str (aaU y))) rfl aae) (hnum y hy)
theorem agU{is:List Int}(h:RAt s o all i)(hi:∀x∈is,inN x)(hd:all.drop i=(w::is.map aaU)::aat){n:Nat}(hn:is.length=n):
  ∃s',RAt s' o all (i+1)∧ac3 o s s'∧run true fns sub0 aad (k+3) arU [.val (.loc o),.val (.str w),.val (.int n)] s=.ok (.val (tI is)) s':=by
 obtain⟨s',h1,h2,h3⟩:=akO (k:=k) h hd (n:=n) (by simp;exact hn)
 exact⟨s',h1,h2,(aaf (F:=asT) rfl rfl).trans (congrArg (aaC true false) (afl (C:=cfX fns sub0 (k+2)) h hi hn (aau h3 rfl) (fun x hx=>aau (agh (k:=k+1) (hi x hx)) rfl)))⟩
end
abbrev Rows:=List (List Str)
def nR(w:Str)(is:List Int):List Str:=w::is.map aaU
structure Rd(C:Cf):Prop where
 beg:∀{s:Sto}{o i:Nat}{all aat:Rows}{w0:Str}{ws:List Str} (w:Str),RAt s o all i→all.drop i=(w0::ws)::aat→C.cf ahw [.val (.loc o),.val (.str w)] s=.ok (.val (.bl (w0==w))) s
 num:∀{s:Sto}{o i:Nat}{all aat:Rows}{w:Str}{is:List Int}{n:Nat},RAt s o all i→(∀x∈is,inN x)→all.drop i=nR w is::aat→is.length=n→∃s',RAt s' o all (i+1)∧ac3 o s s'∧C.cf arU [.val (.loc o),.val (.str w),.val (.int n)] s=.ok (.val (tI is)) s'
theorem rd:Rd (cfX fns sub0 (k+3))where
 beg:=fun w h hd=>aau (agc (k:=k+2) h hd) rfl
 num:=fun h hi hd hn=>by
  obtain⟨s',h1,h2,h3⟩:=agU (k:=k) h hi hd hn
  exact⟨s',h1,h2,aau h3 rfl⟩
theorem acy(H:Rd C){σ:Fr}{o i:Nat}{all aat:Rows}{w0:Str}{ws:List Str}{a b:E}{w:Str}(hr:RAt s o all i)(hd:all.drop i=(w0::ws)::aat)(ha:ev C a .v σ s=.ok (.val (.loc o)) s)(hb:ev C b .v σ s=.ok (.val (.str w)) s):ev C (.meth a 1 ahw [b] []) .t σ s=.ok (.val (.bl (w0==w))) s:=
 aeq (aay (s1:=s) ha hr.li (aab hb aae) (H.beg w hr hd))
theorem ahA(H:Rd C)(hw:C.wl=aad){o i n:Nat}{all aat:Rows}{w w0:Str}{ws:List Str}(xs:List (List Int))(hx:∀is∈xs,is.length=n∧∀x∈is,inN x)(hl:xs.length≤1000)(h:RAt s o all i)(hd:all.drop i=xs.map (nR w)++(w0::ws)::aat)(h0:(w0==w)=false):
  ∃s' j,RAt s' o all j∧all.drop j=(w0::ws)::aat∧ac3 o s s'∧exs C awB (aam asO [.val (.loc o),.val (.str w),.val (.int n)]) s=.ret (.val (.lst (xs.map tI))) s':=by
 obtain⟨σ',s',e,j,rfl,q1,q2,q3⟩:=acd hw (c:=.meth (.var 0) 1 ahw [.var 1] []) (b:=ah4) xs.length
  (fun m σ s'=>∃j,σ=[some (.val (.loc o)),some (.val (.str w)),some (.val (.int n)),some (.own ((xs.take m).map tI))]∧RAt s' o all j∧all.drop j=(xs.drop m).map (nR w)++(w0::ws)::aat∧ac3 o s s')
  (by
   rintro m hm σ s' ⟨j,rfl,q1,q2,q3⟩
   have hg:xs[m]?=some xs[m]:=by simp[hm]
   have hdm:xs.drop m=xs[m]::xs.drop (m+1):=List.drop_eq_getElem_cons hm
   generalize xs[m]=is at hg hdm
   have hk:=aa7 hg
   obtain⟨x1,x2⟩:=hx is (List.mem_of_getElem? hg)
   rw[hdm,List.map_cons,List.cons_append]at q2
   obtain⟨s2,r1,r2,r3⟩:=H.num q1 x2 q2 x1
   have hlm:((xs.take m).map tI).length<100000:=by simp;omega
   refine⟨(acy H (w:=w) q1 q2 rfl rfl).trans (by rw[beq_self_eq_true]),[some (.val (.loc o)),some (.val (.str w)),some (.val (.int n)),some (.own ((xs.take (m+1)).map tI))],s2,?_,j+1,rfl,r1,(abE q2).2.1,q3.trans r2⟩
   refine(aaa (abq (s1:=s2) (t:=tI is) (by rfl) (aay (s1:=s') (x:=.val (.loc o)) rfl q1.li (aab (s1:=s') (x:=.val (.str w)) rfl (aab (s1:=s') (x:=.val (.int n)) rfl aae)) r3) hlm)).trans ?_
   rw[aak,hk]
   simp[aai])
  (by
   rintro σ s' ⟨j,rfl,q1,q2,q3⟩
   rw[List.drop_length]at q2
   exact(acy H (w:=w) q1 q2 rfl rfl).trans (by rw[h0]))
  (σ:=[some (.val (.loc o)),some (.val (.str w)),some (.val (.int n)),some (.own [])]) (s:=s) ⟨i,rfl,h,hd,ac3.refl _ _⟩
 rw[List.drop_length]at q2
 refine⟨s',j,q1,q2,q3,?_⟩
 refine(aaa (aiF (i:=3) (ts:=[]) rfl rfl)).trans ?_
 refine(aaa e).trans ?_
 rw[List.take_length]
 refine(aaa (σ1:=[some (.val (.loc o)),some (.val (.str w)),some (.val (.int n)),some (.val (.lst (xs.map tI)))]) (s1:=s') (by simp[frz])).trans ?_
 exact aaH (abo rfl)
theorem amk{o i n:Nat}{all aat:Rows}{w w0:Str}{ws:List Str}(xs:List (List Int))(hx:∀is∈xs,is.length=n∧∀x∈is,inN x)(hl:xs.length≤1000)(h:RAt s o all i)(hd:all.drop i=xs.map (nR w)++(w0::ws)::aat)(h0:(w0==w)=false):
  ∃s' j,RAt s' o all j∧all.drop j=(w0::ws)::aat∧ac3 o s s'∧run true fns sub0 aad (k+4) asF [.val (.loc o),.val (.str w),.val (.int n)] s=.ok (.val (.lst (xs.map tI))) s':=by
 obtain⟨s',j,a,b,c,d⟩:=ahA (C:=cfX fns sub0 (k+3)) rd rfl xs hx hl h hd h0
 exact⟨s',j,a,b,c,(aaf (F:=asO) rfl rfl).trans (congrArg (aaC true false) d)⟩
structure Rg(s0 s:Sto)(A:Ad)(B:Bk)(o:Nat)(all:Rows)(j:Nat):Prop extends New s0 s A B where
 rd:RAt s o all j
 no:o∉A.fp
 old:s0.length≤o
theorem Rg.only{s0 s':Sto}{A:Ad}{B:Bk}{o j j':Nat}{all:Rows}(h:Rg s0 s A B o all j)(h1:ac3 o s s')(h2:RAt s' o all j'):Rg s0 s' A B o all j' where
 at_:=h1.bat h.at_ h.no
 keep:=⟨by rw[h1.len];exact h.keep.1,fun l hl _=>by
  have:=h.old
  rw[h1.at_ l (by omega)]
  exact h.keep.2 l hl (by simp)⟩
 new:=h.new
 rd:=h2
 no:=h.no
 old:=h.old
theorem Rg.book{s0 s':Sto}{A A':Ad}{B B':Bk}{o j:Nat}{all:Rows}(h:Rg s0 s A B o all j)(h1:BAt s' A' B')(h2:adq A.fp s s')(h3:∀l∈A'.fp,l∈A.fp∨s.length≤l):Rg s0 s' A' B' o all j where
 toNew:=h.toNew.step h1 h2 h3
 rd:=by
  unfold RAt
  rw[h2.2 o h.rd.lt h.no]
  exact h.rd
 no:=fun hm=>by
  rcases h3 o hm with q|q
  ·exact h.no q
  ·have:=h.rd.lt;omega
 old:=h.old
def ais(q:List (Spt×List Spt)):Rows:=q.flatMap fun p=>nR (st "corner") (sL p.1)::p.2.map fun x=>nR (st "mark") (sL x)
theorem al9{p:Spt}(h:p.fit):∀x∈sL p,inN x:=by
 obtain⟨h1,h2,h3,h4,h5,h6⟩:=h
 intro t ht
 simp only[List.mem_cons,List.not_mem_nil,or_false]at ht
 rcases ht with rfl|rfl|rfl|rfl|rfl|rfl<;>(unfold inN;omega)
def hw(y:List Str):Str:=y.headD .empty
theorem aiS(p:Spt×List Spt)(q:List (Spt×List Spt)):ais (p::q)=nR (st "corner") (sL p.1)::(p.2.map fun x=>nR (st "mark") (sL x))++ais q:=rfl
theorem ahP{q:List (Spt×List Spt)}{w0:Str}{ws:List Str}{aat:Rows}(h0:(w0==st "mark")=false):∃v vs r,ais q++(w0::ws)::aat=(v::vs)::r∧(v==st "mark")=false:=by
 cases q with
 | nil=>exact⟨w0,ws,aat,rfl,h0⟩
 | cons p q=>exact⟨st "corner",(sL p.1).map aaU,_,rfl,by decide +kernel⟩
structure Rp(C:Cf):Prop extends Rd C where
 take:∀{s:Sto}{o i:Nat}{all aat:Rows}{w:Str}{ws:List Str}{n:Nat},RAt s o all i→all.drop i=(w::ws)::aat→ws.length=n→∃s',RAt s' o all (i+1)∧ac3 o s s'∧C.cf atR [.val (.loc o),.val (.str w),.val (.int n)] s=.ok (.val (wsT ws)) s'
 those:∀{s:Sto}{o i n:Nat}{all aat:Rows}{w w0:Str}{ws:List Str} (xs:List (List Int)),(∀is∈xs,is.length=n∧∀x∈is,inN x)→xs.length≤1000→RAt s o all i→all.drop i=xs.map (nR w)++(w0::ws)::aat→(w0==w)=false→
  ∃s' j,RAt s' o all j∧all.drop j=(w0::ws)::aat∧ac3 o s s'∧C.cf asF [.val (.loc o),.val (.str w),.val (.int n)] s=.ok (.val (.lst (xs.map tI))) s'
 piece:∀{s:Sto}{A:Ad}{B:Bk} (_:BAt s A B) (p:Pz) (_:p.ok) (_:B.pc.length<10) (_:B.mrk.length≤10),∃s',C.cf iz6 [slf A,.val (aal p.c),.val (mkT p.m)] s=.ok (.val (.int B.pc.length)) s'∧BAt s' ⟨A.o,A.a,A.b,A.c,A.ls++[s.length]⟩ ⟨B.size,B.pc++[p.c],B.mrk++[p.m],B.sm⟩∧adq A.fp s s'
theorem rp:Rp (cfX fns sub0 (k+4))where
 toRd:=rd (k:=k+1)
 take:=fun h hd hn=>by obtain⟨s',a,b,c⟩:=akO (k:=k+2) h hd hn;exact⟨s',a,b,aau c rfl⟩
 those:=fun xs h1 h2 h3 h4 h5=>by obtain⟨s',j,a,b,c,d⟩:=amk (k:=k) xs h1 h2 h3 h4 h5;exact⟨s',j,a,b,c,aau d rfl⟩
 piece:=(fcf (k:=k)).add
theorem ahv(H:Rp C)(hw:C.wl=aad){o i:Nat}{all aat:Rows}{w0:Str}{ws:List Str}{c0:Option IP.B}(q:List (Spt×List Spt))(hq:∀p∈q,p.1.fit∧p.2.length≤4∧∀x∈p.2,x.fit)(hl:q.length≤24)(h:RAt s o all i)(hd:all.drop i=ais q++(w0::ws)::aat)(h0:(w0==st "mark")=false)(h1:(w0==st "corner")=false):
  ∃s' j,RAt s' o all j∧all.drop j=(w0::ws)::aat∧ac3 o s s'∧ex C (.whl (.meth (.var 1) 1 ahw [(.cst (.str (st "corner")))] []) af6) [c0,some (.val (.loc o)),some (.own []),some (.own [])] s=.next [c0,some (.val (.loc o)),some (.own (q.map fun p=>tS p.1)),some (.own (q.map fun p=>aal p.2))] s':=by
 obtain⟨σ',s',e,j,rfl,q1,q2,q3⟩:=acd hw (c:=.meth (.var 1) 1 ahw [(.cst (.str (st "corner")))] []) (b:=af6) q.length
  (fun m σ s'=>∃j,σ=[c0,some (.val (.loc o)),some (.own ((q.take m).map fun p=>tS p.1)),some (.own ((q.take m).map fun p=>aal p.2))]∧RAt s' o all j∧all.drop j=ais (q.drop m)++(w0::ws)::aat∧ac3 o s s')
  (by
   rintro m hm σ s' ⟨j,rfl,q1,q2,q3⟩
   have hg:q[m]?=some q[m]:=by simp[hm]
   have hdm:q.drop m=q[m]::q.drop (m+1):=List.drop_eq_getElem_cons hm
   generalize q[m]=p at hg hdm
   have hk:=aa7 hg
   obtain⟨x1,x2,x3⟩:=hq p (List.mem_of_getElem? hg)
   rw[hdm,aiS,List.cons_append,List.cons_append]at q2
   obtain⟨s2,r1,r2,r3⟩:=H.num q1 (al9 x1) q2 (n:=6) rfl
   have d2:=(abE q2).2.1
   rw[List.append_assoc]at d2
   obtain⟨v,vs,r,ev1,ev2⟩:=ahP (q:=q.drop (m+1)) (ws:=ws) (aat:=aat) h0
   have d3:all.drop (j+1)=(p.2.map sL).map (nR (st "mark"))++(v::vs)::r:=by rw[d2,ev1,List.map_map];rfl
   obtain⟨s3,j',t1,t2,t3,t4⟩:=H.those (n:=6) (p.2.map sL) (fun is hi=>by
    obtain⟨x,hx,rfl⟩:=List.mem_map.mp hi
    exact⟨rfl,al9 (x3 x hx)⟩) (by simp;omega) r1 d3 ev2
   rw[←ev1]at t2
   have hlm:∀f:Spt×List Spt→T,((q.take m).map f).length<100000:=fun f=>by simp;omega
   refine⟨(acy H.toRd (w:=st "corner") q1 q2 rfl rfl).trans (by rw[beq_self_eq_true]),[c0,some (.val (.loc o)),some (.own ((q.take (m+1)).map fun p=>tS p.1)),some (.own ((q.take (m+1)).map fun p=>aal p.2))],s3,?_,j',rfl,t1,t2,(q3.trans r2).trans t3⟩
   refine(aaa (abq (s1:=s2) (t:=tS p.1) (by rfl) (aay (s1:=s') (x:=.val (.loc o)) rfl q1.li (aab (s1:=s') (x:=.val (.str (st "corner"))) rfl (aab (s1:=s') (x:=.val (.int 6)) rfl aae)) r3) (hlm _))).trans ?_
   refine(aaa (abq (s1:=s3) (t:=aal p.2) (by rfl) (aaj (aab (s1:=s2) (x:=.val (.loc o)) rfl (aab (s1:=s2) (x:=.val (.str (st "mark"))) rfl (aab (s1:=s2) (x:=.val (.int 6)) rfl aae))) (t4.trans (by rw[ahz]))) (hlm _))).trans ?_
   rw[aak,hk]
   simp[aai])
  (by
   rintro σ s' ⟨j,rfl,q1,q2,q3⟩
   rw[List.drop_length]at q2
   exact(acy H.toRd (w:=st "corner") q1 q2 rfl rfl).trans (by rw[h1]))
  (σ:=[c0,some (.val (.loc o)),some (.own []),some (.own [])]) (s:=s) ⟨i,rfl,h,hd,ac3.refl _ _⟩
 rw[List.drop_length]at q2
 rw[List.take_length]at e
 exact⟨s',j,q1,q2,q3,e⟩
section
variable{s0:Sto}{A:Ad}{B:Bk}{o i:Nat}{all aat:Rows}{w0:Str}{ws:List Str}
theorem aip(H:Rp C)(hw:C.wl=aad)(h:Rg s0 s A B o all i)(p:Pz)(ho:p.ok)(hp:B.pc.length<10)(hm:B.mrk.length≤10)(hd:all.drop i=[st "piece"]::ais (p.c.zip p.m)++(w0::ws)::aat)(h0:(w0==st "mark")=false)(h1:(w0==st "corner")=false):
  ∃(s':Sto) (A':Ad) (j:Nat),A'.o=A.o∧Rg s0 s' A' ⟨B.size,B.pc++[p.c],B.mrk++[p.m],B.sm⟩ o all j∧all.drop j=(w0::ws)::aat∧exs C awu (aam atV [slf A,.val (.loc o)]) s=.next [some (.val (.loc A.o)),some (.val (.loc o)),some (.val (aal p.c)),some (.val (mkT p.m))] s':=by
 obtain⟨s1,r1,t1,e1⟩:=H.take h.rd hd (n:=0) rfl
 have d1:=(abE hd).2.1
 have hz:p.c.length≤p.m.length:=by rw[ho.hm];exact Nat.le_refl _
 have hz':p.m.length≤p.c.length:=by rw[ho.hm];exact Nat.le_refl _
 obtain⟨s2,j,r2,d2,t2,e2⟩:=ahv (c0:=some (.val (.loc A.o))) H hw (p.c.zip p.m) (fun q hq=>⟨ho.hc _ (List.of_mem_zip hq).1,ho.h4 _ (List.of_mem_zip hq).2,ho.hf _ (List.of_mem_zip hq).2⟩) (by have:=ho.h24;simp;omega) r1 d1 h0 h1
 have hR:=h.only (t1.trans t2) r2
 obtain⟨s3,e3,b1,b2⟩:=H.piece hR.at_ p ho hp hm
 have hc:(p.c.zip p.m).map (fun q=>tS q.1)=p.c.map tS:=by
  rw[show(fun q:Spt×List Spt=>tS q.1)=tS∘Prod.fst from rfl,←List.map_map,List.map_fst_zip hz]
 have hmk:(p.c.zip p.m).map (fun q=>aal q.2)=p.m.map aal:=by
  rw[show(fun q:Spt×List Spt=>aal q.2)=(aal:List Spt→T)∘Prod.snd from rfl,←List.map_map,List.map_snd_zip hz']
 rw[hc,hmk]at e2
 refine⟨s3,⟨A.o,A.a,A.b,A.c,A.ls++[s2.length]⟩,j,rfl,hR.book b1 b2 (fun l hl=>?_),d2,?_⟩
 ·simp only[Ad.fp,List.mem_cons,List.mem_append,List.not_mem_nil,or_false]at hl ⊢
  rcases hl with z|z|z|z|z|z
  ·exact .inl (.inl z)
  ·exact .inl (.inr (.inl z))
  ·exact .inl (.inr (.inr (.inl z)))
  ·exact .inl (.inr (.inr (.inr (.inl z))))
  ·exact .inl (.inr (.inr (.inr (.inr z))))
  ·exact .inr (by omega)
 refine(aaa (abO (aay (s1:=s) (x:=.val (.loc o)) rfl h.rd.li (aab (s1:=s) (x:=.val (.str (st "piece"))) rfl (aab (s1:=s) (x:=.val (.int 0)) rfl aae)) e1))).trans ?_
 refine(aaa (aiF (i:=2) (ts:=[]) rfl rfl)).trans ?_
 refine(aaa (aiF (i:=3) (ts:=[]) rfl rfl)).trans ?_
 refine(aaa e2).trans ?_
 refine(aaa (σ1:=[some (.val (.loc A.o)),some (.val (.loc o)),some (.val (aal p.c)),some (.own (p.m.map aal))]) (s1:=s2) (by simp[frz])).trans ?_
 refine(aaa (σ1:=[some (.val (.loc A.o)),some (.val (.loc o)),some (.val (aal p.c)),some (.val (mkT p.m))]) (s1:=s2) (by simp[frz,mkT])).trans ?_
 exact(aaa (abO (aay (s1:=s2) (x:=slf A) rfl hR.at_.li (aab (s1:=s2) (x:=.val (aal p.c)) rfl (aab (s1:=s2) (x:=.val (mkT p.m)) rfl aae)) e3))).trans aak
theorem ae7(h:Rg s0 s A B o all i)(p:Pz)(ho:p.ok)(hp:B.pc.length<10)(hm:B.mrk.length≤10)(hd:all.drop i=[st "piece"]::ais (p.c.zip p.m)++(w0::ws)::aat)(h0:(w0==st "mark")=false)(h1:(w0==st "corner")=false):
  ∃(s':Sto) (A':Ad) (j:Nat),A'.o=A.o∧Rg s0 s' A' ⟨B.size,B.pc++[p.c],B.mrk++[p.m],B.sm⟩ o all j∧all.drop j=(w0::ws)::aat∧run true fns sub0 aad (k+5) awd [slf A,.val (.loc o)] s=.ok (.val .non) s':=by
 obtain⟨s',A',j,a,b,c,e⟩:=aip (C:=cfX fns sub0 (k+4)) rp rfl h p ho hp hm hd h0 h1
 exact⟨s',A',j,a,b,c,(aaf (F:=atV) rfl rfl).trans (congrArg (aaC true false) e)⟩
def avy(x:Sm):List Str:=st "seam"::[aaU x.f1,aaU x.f2,aaU x.g1,aaU x.g2,adm x.t,aaU x.e]
def agl(x:Sm):Rows:=avy x::x.ps.map fun p=>nR (st "pair") [p.1,p.2]
structure Sm.inn(x:Sm):Prop where
 a:∀y∈[x.f1,x.f2,x.g1,x.g2,x.e],inN y
 p:∀p∈x.ps,inN p.1∧inN p.2
 n:x.ps.length≤4
structure Rs'(C:Cf):Prop extends Rp C where
 num1:∀{s:Sto}{y:Int},inN y→C.cf asL [.val (.str (aaU y))] s=.ok (.val (.int y)) s
 sew:∀{s:Sto}{A:Ad}{B:Bk} (_:BAt s A B) (x:Sm) (_:akn B x=0),∃s',C.cf iz7 [slf A,.val (fT x),.val (gT x),.val (.bl x.t),.val (.int x.e),.val (.lst (x.ps.map pT))] s=.ok (.val (.int B.sm.length)) s'∧BAt s' A ⟨B.size,B.pc,B.mrk,B.sm++[x]⟩∧adq A.fp s s'
theorem rs':Rs' (cfX fns sub0 (k+4))where
 toRp:=rp (k:=k)
 num1:=fun h=>aau (agh (k:=k+3) h) rfl
 sew:=(fcf (k:=k)).sew
theorem amJ(t:Bool):eqD 8 (.str (adm t)) (.str (st "turned"))=some t:=by
 have:eqD 8 (.str (adm t)) (.str (st "turned"))=some (adm t==st "turned"):=by simp[eqD]
 rw[this]
 cases t<;>decide +kernel
theorem aln{c:Cm}{a b:E}{σ:Fr}{s s1 s2:Sto}{x y:R}{t:Bool}(h:ev C a .v σ s=.ok x s1)(h':ev C b .v σ s1=.ok y s2)(h2:act c x y=some t):ev C (.cmp c a b) .v σ s=.ok (.val (.bl t)) s2:=by
 show fin .v ((ev C a .v σ s).bind fun x s1=>(ev C b .v σ s1).bind fun y s2=>.of ((act c x y).map fun k=>.val (.bl k)) s2)=_
 rw[h]
 simp[h',h2]
theorem ahH(H:Rs' C)(hw:C.wl=aad)(h:Rg s0 s A B o all i)(x:Sm)(hx:x.inn)(hdue:akn B x=0)(hd:all.drop i=agl x++(w0::ws)::aat)(h0:(w0==st "pair")=false):
  ∃(s':Sto) (j:Nat) (σ':Fr),Rg s0 s' A ⟨B.size,B.pc,B.mrk,B.sm++[x]⟩ o all j∧all.drop j=(w0::ws)::aat∧exs C avg (aam auT [slf A,.val (.loc o)]) s=.next σ' s':=by
 obtain⟨s1,r1,t1,e1⟩:=H.take h.rd hd (n:=6) rfl
 have d1:=(abE hd).2.1
 have d1':all.drop (i+1)=(x.ps.map fun p=>[p.1,p.2]).map (nR (st "pair"))++(w0::ws)::aat:=by rw[d1,List.map_map];rfl
 obtain⟨s2,j,r2,d2,t2,e2⟩:=H.those (n:=2) (x.ps.map fun p=>[p.1,p.2]) (fun is hi=>by
  obtain⟨p,hp,rfl⟩:=List.mem_map.mp hi
  refine⟨rfl,fun y hy=>?_⟩
  simp only[List.mem_cons,List.not_mem_nil,or_false]at hy
  rcases hy with rfl|rfl
  ·exact(hx.p p hp).1
  ·exact(hx.p p hp).2) (by have:=hx.n;simp;omega) r1 d1' h0
 have e2:C.cf asF [.val (.loc o),.val (.str (st "pair")),.val (.int 2)] s1=.ok (.val (.lst (x.ps.map pT))) s2:=by
  refine e2.trans ?_
  rw[List.map_map]
  rfl
 have hR:=h.only (t1.trans t2) r2
 obtain⟨s3,e3,b1,b2⟩:=H.sew hR.at_ x hdue
 generalize hws:wsT [aaU x.f1,aaU x.f2,aaU x.g1,aaU x.g2,adm x.t,aaU x.e]=wt at e1
 have c1:aem (.val wt) none (some 4)=some (.val (.lst [.str (aaU x.f1),.str (aaU x.f2),.str (aaU x.g1),.str (aaU x.g2)])):=by rw[←hws];exact ajJ (n:=4) (by simp)
 have c2:aem (.val wt) (some 5) none=some (.val (.lst [.str (aaU x.e)])):=by rw[←hws];exact ag3 (n:=5) (by simp)
 have c3:aaQ (.val wt) 4=some (.str (adm x.t)):=by rw[←hws];rfl
 have hdw:∀s,(R.val wt).dr s=.val wt:=fun _=>by rw[←hws];rfl
 have hv:(R.val wt).val?=some wt:=rfl
 have ec:ev C (.comp ahN (.one 5) (.bin .add (.cutU (.var 2) (.cst (.int 4))) (.cutL (.var 2) (.cst (.int 5))))) .v [some (.val (.loc A.o)),some (.val (.loc o)),some (.val wt),none,none,none] s1=.ok (.val (.lst ([x.f1,x.f2,x.g1,x.g2,x.e].map T.int))) s1:=by
  refine aa8 (i:=5) [x.f1,x.f2,x.g1,x.g2,x.e] (fun y=>T.str (aaU y)) T.int ?_ fun y hy=>aaj (aab (s1:=s1) (x:=.val (.str (aaU y))) rfl aae) (H.num1 (hx.a y hy))
  have ha:=afm (xs:=[T.str (aaU x.f1),.str (aaU x.f2),.str (aaU x.g1),.str (aaU x.g2)]) (ys:=[.str (aaU x.e)]) (by simp)
  simp[hdw,c1,c2,ha]
 refine⟨s3,j,[some (.val (.loc A.o)),some (.val (.loc o)),some (.val wt),some (.val (.lst ([x.f1,x.f2,x.g1,x.g2,x.e].map T.int))),some (.val (.lst (x.ps.map pT))),none],hR.book b1 b2 (fun l hl=>.inl hl),d2,?_⟩
 refine(aaa (aaI (aay (s1:=s) (x:=.val (.loc o)) rfl h.rd.li (aab (s1:=s) (x:=.val (.str (st "seam"))) rfl (aab (s1:=s) (x:=.val (.int 6)) rfl aae)) e1))).trans ?_
 refine(aaa (aaI ec)).trans ?_
 refine(aaa (aaI (aaj (aab (s1:=s1) (x:=.val (.loc o)) rfl (aab (s1:=s1) (x:=.val (.str (st "pair"))) rfl (aab (s1:=s1) (x:=.val (.int 2)) rfl aae))) e2))).trans ?_
 refine(aaa (abO (aay (s1:=s2) (x:=slf A) rfl hR.at_.li (aab (s1:=s2) (x:=.val (fT x)) ?_ (aab (s1:=s2) (x:=.val (gT x)) ?_ (aab (s1:=s2) (x:=.val (.bl x.t)) ?_ (aab (s1:=s2) (x:=.val (.int x.e)) rfl (aab (s1:=s2) (x:=.val (.lst (x.ps.map pT))) rfl aae))))) e3))).trans aak
 ·rfl
 ·rfl
 ·refine aln (s1:=s2) (x:=.val (.str (adm x.t))) ?_ rfl (amJ x.t)
  show fin .v (.of ((aaQ ((R.val wt).dr s2) 4).map .val) s2)=_
  rw[hdw,c3];rfl
end
section
variable{s0:Sto}{A:Ad}{B:Bk}{o i:Nat}{all aat:Rows}{w0:Str}{ws:List Str}
theorem afJ(h:Rg s0 s A B o all i)(x:Sm)(hx:x.inn)(hdue:akn B x=0)(hd:all.drop i=agl x++(w0::ws)::aat)(h0:(w0==st "pair")=false):
  ∃(s':Sto) (j:Nat),Rg s0 s' A ⟨B.size,B.pc,B.mrk,B.sm++[x]⟩ o all j∧all.drop j=(w0::ws)::aat∧run true fns sub0 aad (k+5) avK [slf A,.val (.loc o)] s=.ok (.val .non) s':=by
 obtain⟨s',j,σ',a,b,e⟩:=ahH (C:=cfX fns sub0 (k+4)) rs' rfl h x hx hdue hd h0
 exact⟨s',j,a,b,(aaf (F:=auT) rfl rfl).trans (congrArg (aaC true false) e)⟩
def pcW(p:Pz):Rows:=[st "piece"]::ais (p.c.zip p.m)
theorem acL(xs:List Sm):∃v vs r,xs.flatMap agl++[st "end"]::aat=(v::vs)::r∧(v=st "seam"∨v=st "end"):=by
 cases xs with
 | nil=>exact⟨st "end",[],aat,rfl,.inr rfl⟩
 | cons x xs=>exact⟨st "seam",[aaU x.f1,aaU x.f2,aaU x.g1,aaU x.g2,adm x.t,aaU x.e],_,rfl,.inl rfl⟩
theorem ah6(pz:List Pz)(xs:List Sm):∃v vs r,pz.flatMap pcW++(xs.flatMap agl++[st "end"]::aat)=(v::vs)::r∧(v=st "piece"∨v=st "seam"∨v=st "end"):=by
 cases pz with
 | nil=>
  obtain⟨v,vs,r,e,h⟩:=acL (aat:=aat) xs
  exact⟨v,vs,r,e,.inr h⟩
 | cons p pz=>exact⟨st "piece",[],_,rfl,.inl rfl⟩
structure Rf(C:Cf):Prop extends Rp C where
 out:∀{s:Sto}{A:Ad}{B:Bk} (_:BAt s A B) (z:Int) (_:0≤z) (_:-6≤B.size+z∧B.size+z≤6),∃s',C.cf asm [slf A,.val (.int z)] s=.ok (.val (.int (B.size+z))) s'∧BAt s' A ⟨B.size+z,B.pc,B.mrk,B.sm⟩∧adq A.fp s s'
 inn:∀{s:Sto}{A:Ad}{B:Bk} (_:BAt s A B) (z:Int) (_:0≤z) (_:-6≤B.size+-z∧B.size+-z≤6),∃s',C.cf asl [slf A,.val (.int z)] s=.ok (.val (.int (B.size+-z))) s'∧BAt s' A ⟨B.size+-z,B.pc,B.mrk,B.sm⟩∧adq A.fp s s'
 pie:∀{s0 s:Sto}{A:Ad}{B:Bk}{o i:Nat}{all aat:Rows}{w0:Str}{ws:List Str},Rg s0 s A B o all i→∀p:Pz,p.ok→B.pc.length<10→B.mrk.length≤10→all.drop i=[st "piece"]::ais (p.c.zip p.m)++(w0::ws)::aat→(w0==st "mark")=false→(w0==st "corner")=false→
  ∃(s':Sto) (A':Ad) (j:Nat),A'.o=A.o∧Rg s0 s' A' ⟨B.size,B.pc++[p.c],B.mrk++[p.m],B.sm⟩ o all j∧all.drop j=(w0::ws)::aat∧C.cf awd [slf A,.val (.loc o)] s=.ok (.val .non) s'
 sea:∀{s0 s:Sto}{A:Ad}{B:Bk}{o i:Nat}{all aat:Rows}{w0:Str}{ws:List Str},Rg s0 s A B o all i→∀x:Sm,x.inn→akn B x=0→all.drop i=agl x++(w0::ws)::aat→(w0==st "pair")=false→
  ∃(s':Sto) (j:Nat),Rg s0 s' A ⟨B.size,B.pc,B.mrk,B.sm++[x]⟩ o all j∧all.drop j=(w0::ws)::aat∧C.cf avK [slf A,.val (.loc o)] s=.ok (.val .non) s'
theorem rf:Rf (cfX fns sub0 (k+5))where
 toRp:=rp (k:=k+1)
 out:=(fcf (k:=k+1)).out
 inn:=(fcf (k:=k+1)).inn
 pie:=fun h p a b c d e f=>by obtain⟨s',A',j,q1,q2,q3,q4⟩:=ae7 (k:=k) h p a b c d e f;exact⟨s',A',j,q1,q2,q3,aau q4 rfl⟩
 sea:=fun h x a b c d=>by obtain⟨s',j,q2,q3,q4⟩:=afJ (k:=k) h x a b c d;exact⟨s',j,q2,q3,aau q4 rfl⟩
theorem aqT(H:Rf C)(hw:C.wl=aad){c2:Option IP.B}{z:Int}(pz:List Pz)(xs:List Sm)(hp:pz.length≤10)(ho:∀p∈pz,p.ok)(h:Rg s0 s A ⟨z,[],[],[]⟩ o all i)(hd:all.drop i=pz.flatMap pcW++(xs.flatMap agl++[st "end"]::aat)):
  ∃(s':Sto) (A':Ad) (j:Nat),A'.o=A.o∧Rg s0 s' A' (plB pz [] z) o all j∧all.drop j=xs.flatMap agl++[st "end"]::aat∧ex C (.whl (.meth (.var 1) 1 ahw [(.cst (.str (st "piece")))] []) afk) [some (.val (.loc A.o)),some (.val (.loc o)),c2] s=.next [some (.val (.loc A.o)),some (.val (.loc o)),c2] s':=by
 obtain⟨σ',s',e,A',j,rfl,q0,q1,q2⟩:=acd hw (c:=.meth (.var 1) 1 ahw [(.cst (.str (st "piece")))] []) (b:=afk) pz.length
  (fun m σ s'=>∃(A':Ad) (j:Nat),σ=[some (.val (.loc A.o)),some (.val (.loc o)),c2]∧A'.o=A.o∧Rg s0 s' A' (plB (pz.take m) [] z) o all j∧all.drop j=(pz.drop m).flatMap pcW++(xs.flatMap agl++[st "end"]::aat))
  (by
   rintro m hm σ s' ⟨A',j,rfl,q0,q1,q2⟩
   have hg:pz[m]?=some pz[m]:=by simp[hm]
   have hdm:pz.drop m=pz[m]::pz.drop (m+1):=List.drop_eq_getElem_cons hm
   generalize pz[m]=p at hg hdm
   have hk:=aa7 hg
   rw[hdm,List.flatMap_cons,List.append_assoc]at q2
   obtain⟨v,vs,r,e1,e2⟩:=ah6 (aat:=aat) (pz.drop (m+1)) xs
   rw[e1]at q2
   have n1:(v==st "mark")=false:=by rcases e2 with rfl|rfl|rfl<;>decide +kernel
   have n2:(v==st "corner")=false:=by rcases e2 with rfl|rfl|rfl<;>decide +kernel
   obtain⟨s2,A2,j2,t0,t1,t2,t3⟩:=H.pie q1 p (ho p (List.mem_of_getElem? hg)) (by simp;omega) (by simp;omega) q2 n1 n2
   rw[←e1]at t2
   refine⟨(acy H.toRd (w:=st "piece") q1.rd q2 rfl rfl).trans (by rw[beq_self_eq_true]),[some (.val (.loc A.o)),some (.val (.loc o)),c2],s2,?_,A2,j2,rfl,t0.trans q0,?_,t2⟩
   ·refine(aaa (abO (aaj (aab (s1:=s') (x:=slf A') (by rw[show slf A'=slf A by unfold slf;rw[q0]];rfl) (aab (s1:=s') (x:=.val (.loc o)) rfl aae)) t3))).trans aak
   ·rw[hk]
    simpa [plB]using t1)
  (by
   rintro σ s' ⟨A',j,rfl,q0,q1,q2⟩
   rw[List.drop_length,List.flatMap_nil,List.nil_append]at q2
   obtain⟨v,vs,r,e1,e2⟩:=acL (aat:=aat) xs
   rw[e1]at q2
   exact(acy H.toRd (w:=st "piece") q1.rd q2 rfl rfl).trans (by rcases e2 with rfl|rfl<;>rfl))
  (σ:=[some (.val (.loc A.o)),some (.val (.loc o)),c2]) (s:=s) ⟨A,i,rfl,rfl,h,hd⟩
 rw[List.drop_length,List.flatMap_nil,List.nil_append]at q2
 rw[List.take_length]at q1
 exact⟨s',A',j,q0,q1,q2,e⟩
theorem aqh(H:Rf C)(hw:C.wl=aad){c2:Option IP.B}{z:Int}(pz:List Pz)(xs:List Sm)(hx:xs.length≤30)(hs:∀x∈xs,adL (pz.map (·.m)) x∧x.inn)(h:Rg s0 s A (plB pz [] z) o all i)(hd:all.drop i=xs.flatMap agl++[st "end"]::aat):
  ∃(s':Sto) (j:Nat),Rg s0 s' A (plB pz xs z) o all j∧ex C (.whl (.meth (.var 1) 1 ahw [(.cst (.str (st "seam")))] []) afo) [some (.val (.loc A.o)),some (.val (.loc o)),c2] s=.next [some (.val (.loc A.o)),some (.val (.loc o)),c2] s':=by
 obtain⟨σ',s',e,j,rfl,q1,q2⟩:=acd hw (c:=.meth (.var 1) 1 ahw [(.cst (.str (st "seam")))] []) (b:=afo) xs.length
  (fun m σ s'=>∃(j:Nat),σ=[some (.val (.loc A.o)),some (.val (.loc o)),c2]∧Rg s0 s' A (plB pz (xs.take m) z) o all j∧all.drop j=(xs.drop m).flatMap agl++[st "end"]::aat)
  (by
   rintro m hm σ s' ⟨j,rfl,q1,q2⟩
   have hg:xs[m]?=some xs[m]:=by simp[hm]
   have hdm:xs.drop m=xs[m]::xs.drop (m+1):=List.drop_eq_getElem_cons hm
   generalize xs[m]=x at hg hdm
   have hk:=aa7 hg
   obtain⟨x1,x2⟩:=hs x (List.mem_of_getElem? hg)
   rw[hdm,List.flatMap_cons,List.append_assoc]at q2
   obtain⟨v,vs,r,e1,e2⟩:=acL (aat:=aat) (xs.drop (m+1))
   have q2':=q2
   rw[e1]at q2
   have n1:(v==st "pair")=false:=by rcases e2 with rfl|rfl<;>decide +kernel
   obtain⟨s2,j2,t1,t2,t3⟩:=H.sea q1 x x2 (am1 (B:=plB pz (xs.take m) z) x1 (by simp;omega)) q2 n1
   rw[←e1]at t2
   refine⟨(acy H.toRd (w:=st "seam") (w0:=st "seam") (ws:=[aaU x.f1,aaU x.f2,aaU x.g1,aaU x.g2,adm x.t,aaU x.e]) q1.rd q2 rfl rfl).trans (by rw[beq_self_eq_true]),[some (.val (.loc A.o)),some (.val (.loc o)),c2],s2,?_,j2,rfl,?_,t2⟩
   ·refine(aaa (abO (aaj (aab (s1:=s') (x:=slf A) rfl (aab (s1:=s') (x:=.val (.loc o)) rfl aae)) t3))).trans aak
   ·rw[hk]
    exact t1)
  (by
   rintro σ s' ⟨j,rfl,q1,q2⟩
   rw[List.drop_length,List.flatMap_nil,List.nil_append]at q2
   exact(acy H.toRd (w:=st "seam") q1.rd q2 rfl rfl))
  (σ:=[some (.val (.loc A.o)),some (.val (.loc o)),c2]) (s:=s) ⟨i,rfl,h,hd⟩
 rw[List.take_length]at q1
 exact⟨s',j,q1,e⟩
end
section
variable{s0:Sto}{A:Ad}{B:Bk}{o i:Nat}{all aat:Rows}
def plW(pz:List Pz)(xs:List Sm)(z:Int)(aat:Rows):Rows:=nR (st "gradecut") [z]::(pz.flatMap pcW++(xs.flatMap agl++[st "end"]::aat))
theorem ajS(H:Rf C)(hw:C.wl=aad){z:Int}(hz:-6≤z∧z≤6)(pz:List Pz)(xs:List Sm)(hp:pz.length≤10)(ho:∀p∈pz,p.ok)(hx:xs.length≤30)(hs:∀x∈xs,adL (pz.map (·.m)) x∧x.inn)(h:Rg s0 s A ⟨0,[],[],[]⟩ o all i)(hd:all.drop i=plW pz xs z aat):
  ∃(s':Sto) (A':Ad) (j:Nat) (σ':Fr),A'.o=A.o∧Rg s0 s' A' (plB pz xs z) o all j∧exs C awL (aam apv [slf A,.val (.loc o)]) s=.next σ' s':=by
 obtain⟨s1,r1,t1,e1⟩:=H.num h.rd (w:=st "gradecut") (is:=[z]) (n:=1) (fun x hx=>by rcases List.mem_singleton.mp hx with rfl;unfold inN;omega) hd rfl
 have d1:=(abE hd).2.1
 have hR:=h.only t1 r1
 have key:∃s2,Rg s0 s2 A (plB [] [] z) o all (i+1)∧ex C (.ifs (.cmp .lt (.var 2) (.cst (.int 0))) [(.exp (.meth (.var 0) 0 9 [(.neg (.var 2))] []))] [(.exp (.meth (.var 0) 0 8 [(.var 2)] []))]) [some (.val (.loc A.o)),some (.val (.loc o)),some (.val (.int z))] s1=.next [some (.val (.loc A.o)),some (.val (.loc o)),some (.val (.int z))] s2:=by
  by_cases hz0:z<0
  ·obtain⟨s2,e2,b1,b2⟩:=H.inn hR.at_ (-z) (by omega) (show -6≤0+- -z∧0+- -z≤6 by omega)
   rw[show(⟨0,[],[],[]⟩:Bk).size+- -z=z by show 0+- -z=z;omega]at e2 b1
   refine⟨s2,hR.book b1 b2 (fun l hl=>.inl hl),(agH (s1:=s1) (by simp[hz0])).trans ((aaa (abO (aay (s1:=s1) (x:=slf A) rfl hR.at_.li (aab (s1:=s1) (x:=.val (.int (-z))) (by simp) aae) e2))).trans aak)⟩
  ·obtain⟨s2,e2,b1,b2⟩:=H.out hR.at_ z (by omega) (show -6≤0+z∧0+z≤6 by omega)
   rw[show(⟨0,[],[],[]⟩:Bk).size+z=z by show 0+z=z;omega]at e2 b1
   refine⟨s2,hR.book b1 b2 (fun l hl=>.inl hl),(aaG (s1:=s1) (by simp[hz0])).trans ((aaa (abO (aay (s1:=s1) (x:=slf A) rfl hR.at_.li (aab (s1:=s1) (x:=.val (.int z)) rfl aae) e2))).trans aak)⟩
 obtain⟨s2,r2,e2⟩:=key
 obtain⟨s3,A3,j3,q3,r3,d3,e3⟩:=aqT (aat:=aat) (c2:=some (.val (.int z))) H hw pz xs hp ho r2 d1
 obtain⟨s4,j4,r4,e4⟩:=aqh (aat:=aat) (c2:=some (.val (.int z))) H hw pz xs hx hs r3 d3
 refine⟨s4,A3,j4,[some (.val (.loc A.o)),some (.val (.loc o)),some (.val (.int z))],q3,r4,?_⟩
 refine(aaa (σ1:=[some (.val (.loc A.o)),some (.val (.loc o)),some (.val (.int z))]) (s1:=s1) (aaI (t:=.int z) ?_)).trans ?_
 ·have ee:ev C (.meth (.var 1) 1 arU [(.cst (.str (st "gradecut"))),(.cst (.int 1))] []) .v (aam apv [slf A,.val (.loc o)]) s=.ok (.val (tI [z])) s1:=
   aay (s1:=s) (x:=.val (.loc o)) rfl h.rd.li (aab (s1:=s) (x:=.val (.str (st "gradecut"))) rfl (aab (s1:=s) (x:=.val (.int 1)) rfl aae)) e1
  show fin .v ((ev C (.meth (.var 1) 1 arU [(.cst (.str (st "gradecut"))),(.cst (.int 1))] []) .v (aam apv [slf A,.val (.loc o)]) s).bind _)=_
  rw[ee];rfl
 refine(aaa e2).trans ?_
 refine(aaa e3).trans ?_
 rw[q3]at e4
 exact(aaa e4).trans aak
theorem aqi{z:Int}(hz:-6≤z∧z≤6)(pz:List Pz)(xs:List Sm)(hp:pz.length≤10)(ho:∀p∈pz,p.ok)(hx:xs.length≤30)(hs:∀x∈xs,adL (pz.map (·.m)) x∧x.inn)(h:Rg s0 s A ⟨0,[],[],[]⟩ o all i)(hd:all.drop i=plW pz xs z aat):
  ∃(s':Sto) (A':Ad) (j:Nat),A'.o=A.o∧Rg s0 s' A' (plB pz xs z) o all j∧run true fns sub0 aad (k+6) awj [slf A,.val (.loc o)] s=.ok (.val .non) s':=by
 obtain⟨s',A',j,σ',a,b,e⟩:=ajS (C:=cfX fns sub0 (k+5)) rf rfl hz pz xs hp ho hx hs h hd
 exact⟨s',A',j,a,b,(aaf (F:=apv) rfl rfl).trans (congrArg (aaC true false) e)⟩
def txW(x:Str):Rows:=(PySem.Txt.split x lf).map W
theorem ahG(x:Str)(hx:x.length≤lim)(hl:∀y∈PySem.Txt.split x lf,y.length≤lim):run true fns sub0 aad (k+1) arH [.val (.loc s.length),.val (.str x)] (s++[.ins 1 [none,none]])=.ok (.val .non) (s++[.ins 1 [some (rwT (txW x)),some (.int 0)]]):=by
 rw[aaf (F:=alh) rfl rfl]
 have q:∀(fs:List (Option T)) (r:Sto),(R.val (.loc s.length)).locI (s++.ins 1 fs::r) 1=some (s.length,fs):=fun fs r=>acH (by simp)
 have e:∀(c d:Cell) (r:Sto),(s++c::r).set s.length d=s++d::r:=fun c d r=>by simp
 have hc:∀s2:Sto,ev (cfX fns sub0 k) (.comp adZ (.one 2) (.splt "\n" (.var 1))) .v (aam alh [.val (.loc s.length),.val (.str x)]) s2=.ok (.val (rwT (txW x))) s2:=by
  intro s2
  have h2:=aa8 (C:=cfX fns sub0 k) (e:=adZ) (it:=.splt "\n" (.var 1)) (σ:=aam alh [.val (.loc s.length),.val (.str x)]) (s:=s2) (i:=2) (PySem.Txt.split x lf) T.str (fun y=>wsT (W y)) ?_ fun y hy=>?_
  ·rw[h2]
   unfold rwT txW
   rw[List.map_map]
   rfl
  ·show fin .i (.of (alO lf (.val (.str x))) s2)=_
   unfold alO
   dsimp only
   rw[if_pos hx];rfl
  ·show fin .v (.of (alO bl (.val (.str y))) s2)=_
   unfold alO
   dsimp only
   rw[if_pos (hl y hy)];rfl
 have hx1:exs (cfX fns sub0 k) atX (aam alh [.val (.loc s.length),.val (.str x)]) (s++[.ins 1 [none,none]])=.next (aam alh [.val (.loc s.length),.val (.str x)]) (s++[.ins 1 [some (rwT (txW x)),some (.int 0)]]):=by
  refine(aaa (σ1:=aam alh [.val (.loc s.length),.val (.str x)]) (s1:=s++[.ins 1 [some (rwT (txW x)),none]]) ?_).trans ?_
  ·show(ev (cfX fns sub0 k) (.comp adZ (.one 2) (.splt "\n" (.var 1))) .v _ _).st _ _=_
   rw[hc]
   simp[q,e]
  ·simp[q,e]
 rw[show alh.body=atX from rfl,hx1]
 rfl
end
theorem aqc(t:Bool):ac7 (adm t):=by unfold ac7;cases t<;>decide +kernel
theorem aer:ac7 (st "corner"):=by unfold ac7;decide +kernel
theorem aiY:ac7 (st "mark"):=by unfold ac7;decide +kernel
theorem ai9:ac7 (st "pair"):=by unfold ac7;decide +kernel
theorem ajh:ac7 (st "seam"):=by unfold ac7;decide +kernel
theorem agJ:ac7 (st "gradecut"):=by unfold ac7;decide +kernel
theorem acJ{is:List Int}:∀t∈is.map T.int,ac7 (wd t):=fun t ht=>by
 obtain⟨i,_,rfl⟩:=List.mem_map.mp ht
 exact adv i
theorem ag9{w:Str}(hw:ac7 w)(is:List Int):W (abD w (is.map T.int))=nR w is:=by
 rw[an3 hw acJ,List.map_map]
 rfl
theorem akS(x:Sm):∀t∈[T.int x.f1,.int x.f2,.int x.g1,.int x.g2,.str (adm x.t),.int x.e],ac7 (wd t):=fun t ht=>by
 simp only[List.mem_cons,List.not_mem_nil,or_false]at ht
 rcases ht with rfl|rfl|rfl|rfl|rfl|rfl
 ·exact adv _
 ·exact adv _
 ·exact adv _
 ·exact adv _
 ·exact aqc _
 ·exact adv _
theorem apl{x:Str}(h:ac7 x):W x=[x]:=by
 have:=an3 (ts:=[]) h (by simp)
 exact this
theorem aga:ac7 (st "piece"):=by unfold ac7;decide +kernel
theorem alq:ac7 (st "end"):=by unfold ac7;decide +kernel
theorem atC(p:Spt):W (ah1 p)=nR (st "corner") (sL p):=by unfold ah1;exact ag9 aer (sL p)
theorem as9(p:Spt):W (aj8 p)=nR (st "mark") (sL p):=by unfold aj8;exact ag9 aiY (sL p)
theorem ata(p:Int×Int):W (ajB p)=nR (st "pair") [p.1,p.2]:=by unfold ajB;exact ag9 ai9 [p.1,p.2]
theorem ao2(x:Sm):W (ahx x)=avy x:=by
 unfold ahx
 rw[an3 ajh (akS x)]
 rfl
theorem ao4{α:Type}(f:α→Str)(g:α→List Str)(h:∀a,W (f a)=g a)(l:List α):(l.map f).map W=l.map g:=by
 rw[List.map_map]
 exact List.map_congr_left fun a _=>h a
theorem auQ(q:List (Spt×List Spt)):(ab4 q).map W=ais q:=by
 induction q with
 | nil=>rfl
 | cons p q ih=>
  unfold ab4 ais at ih ⊢
  rw[List.flatMap_cons,List.flatMap_cons,List.map_append,ih,List.map_cons,atC,ao4 aj8 (fun x=>nR (st "mark") (sL x)) as9]
theorem atf(x:Sm):(acq x).map W=agl x:=by
 unfold acq agl
 rw[List.map_cons,ao2,ao4 ajB (fun p=>nR (st "pair") [p.1,p.2]) ata]
theorem aei{α:Type}(f:α→List Str)(g:α→Rows)(h:∀a,(f a).map W=g a):∀l:List α,(l.flatMap f).map W=l.flatMap g
 | []=>rfl
 | a::l=>by rw[List.flatMap_cons,List.map_append,h,aei f g h l,List.flatMap_cons]
theorem axO(p:Pz):(st "piece"::ab4 (p.c.zip p.m)).map W=pcW p:=by
 unfold pcW
 rw[List.map_cons,auQ,apl aga]
theorem aqs(pz:List Pz)(xs:List Sm)(z:Int):(bkL (plB pz xs z)++[PySem.Str.empty]).map W=plW pz xs z [W PySem.Str.empty]:=by
 have e1:=aei (fun p:Pz=>st "piece"::ab4 (p.c.zip p.m)) pcW axO pz
 have e2:=aei acq agl atf xs
 have e0:W (abD (st "gradecut") [.int z])=nR (st "gradecut") [z]:=ag9 agJ [z]
 have e3:=apl alq
 unfold bkL plW
 dsimp only
 rw[adH]
 simp only[List.map_append,List.map_cons,List.map_nil,e1,e2,e0,e3,List.cons_append,List.append_assoc,List.nil_append]
theorem ary(pz:List Pz)(xs:List Sm)(z:Int):∀y∈bkL (plB pz xs z),10∉y.cps.toList:=by
 intro y hy
 simp only[bkL,List.cons_append,List.mem_cons,List.mem_append,List.not_mem_nil,or_false,List.mem_flatMap]at hy
 rcases hy with rfl|(⟨p,hp,rfl|hy⟩|⟨x,hx,hy⟩)|rfl
 ·exact ace agJ (acJ (is:=[z]))
 ·exact aga.2
 ·obtain⟨q,hq,hy⟩:=List.mem_flatMap.mp hy
  rcases List.mem_cons.mp hy with rfl|hy
  ·exact ace aer (acJ (is:=sL q.1))
  ·obtain⟨x,hx,rfl⟩:=List.mem_map.mp hy
   exact ace aiY (acJ (is:=sL x))
 ·rcases List.mem_cons.mp hy with rfl|hy
  ·exact ace ajh (akS x)
  ·obtain⟨p,hp,rfl⟩:=List.mem_map.mp hy
   exact ace ai9 (acJ (is:=[p.1,p.2]))
 ·exact alq.2
theorem auP(pz:List Pz)(xs:List Sm)(z:Int):txW (txt (bkL (plB pz xs z)))=plW pz xs z [W PySem.Str.empty]:=by
 unfold txW
 rw[ahL (ary pz xs z),aqs]
theorem amb{l:List Str}(h1:∀y∈l,y.length≤63)(h2:l.length≤1400):(txt l).length≤lim:=by
 have hlf:lf.length=1:=by rw[aav];decide
 have h3:=agF (B:=64) (l.map (·++lf)) (by
  intro y hy
  obtain⟨z,hz,rfl⟩:=List.mem_map.mp hy
  rw[PySem.Str.length_append]
  have:=h1 z hz
  omega)
 have h4:=adX .empty (l.map (·++lf))
 have h0:PySem.Str.empty.length=0:=rfl
 rw[List.length_map]at h3 h4
 rw[h0]at h4
 refine Nat.le_trans (Nat.le_trans h4 ?_) abC
 omega
section
variable{pz:List Pz}{xs:List Sm}{z:Int}
structure Rr(C:Cf):Prop where
 ini:∀{s:Sto} (x:Str),x.length≤lim→(∀y∈PySem.Txt.split x lf,y.length≤lim)→C.cf arH [.val (.loc s.length),.val (.str x)] (s++[.ins 1 [none,none]])=.ok (.val .non) (s++[.ins 1 [some (rwT (txW x)),some (.int 0)]])
 fill:∀{s0 s:Sto}{A:Ad}{o i:Nat}{all aat:Rows}{z:Int},-6≤z∧z≤6→∀(pz:List Pz) (xs:List Sm),pz.length≤10→(∀p∈pz,p.ok)→xs.length≤30→(∀x∈xs,adL (pz.map (·.m)) x∧x.inn)→Rg s0 s A ⟨0,[],[],[]⟩ o all i→all.drop i=plW pz xs z aat→
  ∃(s':Sto) (A':Ad) (j:Nat),A'.o=A.o∧Rg s0 s' A' (plB pz xs z) o all j∧C.cf awj [slf A,.val (.loc o)] s=.ok (.val .non) s'
 write:∀{s:Sto}{A:Ad}{B:Bk},BAt s A B→B.fit→C.cf aue [slf A] s=.ok (.val (.str (txt (bkL B)))) s
 new:∀{σ:Fr} (s:Sto),∃(s':Sto) (A:Ad),ev C (.new 0 iz5 4 [] []) .v σ s=.ok (slf A) s'∧BAt s' A ⟨0,[],[],[]⟩∧adq [] s s'∧A.ls=[]∧∀l∈A.fp,s.length≤l
theorem rr:Rr (cfX fns sub0 (k+6))where
 ini:=fun x h1 h2=>aau (ahG (k:=k+5) x h1 h2) rfl
 fill:=fun hz pz xs a b c d e f=>by obtain⟨s',A',j,q1,q2,q3⟩:=aqi (k:=k) hz pz xs a b c d e f;exact⟨s',A',j,q1,q2,aau q3 rfl⟩
 write:=fun h hf=>aau (alG (k:=k+2) h hf) rfl
 new:=fun s=>ao8 (k:=k+5) s
theorem akE(H:Rr C)(hz:-6≤z∧z≤6)(hp:pz.length≤10)(ho:∀p∈pz,p.ok)(hx:xs.length≤30)(hs:∀x∈xs,adL (pz.map (·.m)) x∧x.inn)(hf:∀x∈xs,x.fit):
  ∃(s':Sto) (A':Ad),New s s' A' (plB pz xs z)∧exs C aw7 (aam arJ [.val (.str (txt (bkL (plB pz xs z))))]) s=.ret (slf A') s':=by
 have hfit:=ajj hp ho hx hf hz
 have htl:=amb hfit.b63 hfit.bl
 have htw:=auP pz xs z
 generalize hX:txt (bkL (plB pz xs z))=X at htl htw
 have hyl:∀y∈PySem.Txt.split X lf,y.length≤lim:=fun y hy=>Nat.le_trans (PyProof.Rows.part_short hy) htl
 obtain⟨s1,A,e1,n1,n2,_,n3⟩:=H.new (σ:=aam arJ [.val (.str X)]) s
 have hini:=H.ini (s:=s1) X htl hyl
 rw[htw]at hini
 have hlt:=n1.lt
 have hno:s1.length∉A.fp:=fun q=>Nat.lt_irrefl _ (hlt _ q)
 have hR:Rg s (s1++[.ins 1 [some (rwT (plW pz xs z [W PySem.Str.empty])),some (.int 0)]]) A ⟨0,[],[],[]⟩ s1.length (plW pz xs z [W PySem.Str.empty]) 0:={
  at_:=n1.other fun l hl=>List.getElem?_append_left (hlt l hl)
  keep:=⟨by have:=n2.1;simp;omega,fun l hl _=>by
   rw[List.getElem?_append_left (Nat.lt_of_lt_of_le hl n2.1)]
   exact n2.2 l hl (by simp)⟩
  new:=n3
  rd:=by unfold RAt;simp
  no:=hno
  old:=n2.1 }
 obtain⟨s3,A3,j,q0,q1,q2⟩:=H.fill hz pz xs hp ho hx hs hR (List.drop_zero (l:=plW pz xs z [W PySem.Str.empty]))
 refine⟨s3,A3,q1.toNew,?_⟩
 have en:ev C (.new 1 29 2 [(.var 0)] []) .v [some (.val (.str X)),some (.val (.loc A.o))] s1=.ok (.val (.loc s1.length)) (s1++[.ins 1 [some (rwT (plW pz xs z [W PySem.Str.empty])),some (.int 0)]]):=by
  show fin .v ((evr C [.var 0] [some (.val (.str X)),some (.val (.loc A.o))] s1).bind fun rs s1=>(C.cf arH (.val (.loc s1.length)::rs++([]:List T).map .val) (s1++[.ins 1 (List.replicate 2 none)])).bind fun r s2=>onN r (.ok (.val (.loc s1.length)) s2))=_
  rw[show evr C [.var 0] [some (.val (.str X)),some (.val (.loc A.o))] s1=.ok [.val (.str X)] s1 from aab (s1:=s1) (x:=.val (.str X)) rfl aae]
  simp only[Res.bind_ok,List.map_nil,List.append_nil]
  rw[show C.cf arH (R.val (T.loc s1.length)::[R.val (T.str X)]) (s1++[Cell.ins 1 (List.replicate 2 none)])=_ from hini]
  rfl
 refine(aaa (aaI e1)).trans ?_
 refine(aaa (σ1:=[some (.val (.str X)),some (.val (.loc A.o))]) (s1:=s3) ?_).trans ?_
 ·show(exs C afR [some (.val (.str X)),some (.val (.loc A.o))] s1).nox=_
  rw[show exs C afR [some (.val (.str X)),some (.val (.loc A.o))] s1=.next [some (.val (.str X)),some (.val (.loc A.o))] s3 from(aaa (abO (aaj (aab (s1:=s1) (x:=slf A) rfl (aab en aae)) q2))).trans aak]
  rfl
 have hw:=H.write q1.at_ hfit
 rw[hX]at hw
 have hw:C.cf aue [slf A] s3=.ok (.val (.str X)) s3:=by rw[show slf A=slf A3 by unfold slf;rw[q0]];exact hw
 refine(aaa ((aaG (s1:=s3) (ai8 (s1:=s3) (aaj (aab (s1:=s3) (x:=slf A) rfl aae) hw) (y:=.val (.str X)) rfl (by simp[eqD]))).trans aak)).trans ?_
 exact aaH (abo (by rw[show slf A3=slf A by unfold slf;rw[q0]];rfl))
theorem aqH(hz:-6≤z∧z≤6)(hp:pz.length≤10)(ho:∀p∈pz,p.ok)(hx:xs.length≤30)(hs:∀x∈xs,adL (pz.map (·.m)) x∧x.inn)(hf:∀x∈xs,x.fit):
  ∃(s':Sto) (A':Ad),New s s' A' (plB pz xs z)∧run true fns sub0 aad (k+7) aw0 [.val (.str (txt (bkL (plB pz xs z))))] s=.ok (slf A') s':=by
 obtain⟨s',A',a,e⟩:=akE (C:=cfX fns sub0 (k+6)) (s:=s) rr hz hp ho hx hs hf
 exact⟨s',A',a,(aaf (F:=arJ) rfl rfl).trans (congrArg (aaC true false) e)⟩
theorem an5(hz:-6≤z∧z≤6)(hp:pz.length≤10)(ho:∀p∈pz,p.ok)(hx:xs.length≤30)(hs:∀x∈xs,adL (pz.map (·.m)) x∧x.inn)(hf:∀x∈xs,x.fit):
  ∃(s':Sto) (A':Ad),New s s' A' (plB pz xs z)∧run true fns sub0 aad (k+8) axc [.val (.str (txt (bkL (plB pz xs z))))] s=.ok (slf A') s':=by
 obtain⟨s',A',a,e⟩:=aqH (k:=k) (s:=s) hz hp ho hx hs hf
 have e:(cfX fns sub0 (k+7)).cf aw0 [.val (.str (txt (bkL (plB pz xs z))))] s=.ok (slf A') s':=aau e rfl
 refine⟨s',A',a,?_⟩
 rw[aaf (F:=arG) rfl rfl]
 generalize txt (bkL (plB pz xs z))=X at e
 generalize cfX fns sub0 (k+7)=C at e
 have hx:exs C asG (aam arG [.val (.str X)]) s=.ret (slf A') s':=by
  refine(aaa (σ1:=[some (.val (.str X)),some (.val .non)]) (s1:=s) (aaI rfl)).trans ?_
  refine(aaa (σ1:=[some (.val (.str X)),some (.val (.loc A'.o))]) (s1:=s') (ajz ((aaa (aaI (aaj (aab (s1:=s) (x:=.val (.str X)) rfl aae) e))).trans aak))).trans ?_
  exact aaH (abo rfl)
 rw[show arG.body=asG from rfl,hx]
 rfl
end
theorem akL{mk:List (List (List Spt))}{x:Sm}(h:adL mk x)(h1:mk.length≤10)(h2:∀m∈mk,m.length≤24)(h3:∀m∈mk,∀l∈m,l.length≤4):x.inn:=by
 obtain⟨q1,q2⟩:=h
 have hside:∀p q:Int,∀l,aa9 ⟨0,[],mk,[]⟩ p q=some l→(0≤p∧p≤10)∧(0≤q∧q≤24)∧l.length≤4:=by
  intro p q l hl
  unfold aa9 at hl
  by_cases h0:0≤p∧0≤q
  ·rw[if_pos h0]at hl
   obtain⟨m,hm,hl⟩:=Option.bind_eq_some_iff.mp hl
   have e1:=(List.getElem?_eq_some_iff.mp hm).1
   have e2:=(List.getElem?_eq_some_iff.mp hl).1
   have e1:p.toNat<mk.length:=e1
   have:=h2 m (List.mem_of_getElem? hm)
   exact⟨by omega,by omega,h3 m (List.mem_of_getElem? hm) l (List.mem_of_getElem? hl)⟩
  ·rw[if_neg h0]at hl;cases hl
 unfold abN at q1
 cases ha:aa9 ⟨0,[],mk,[]⟩ x.f1 x.f2 with
 | none=>rw[ha]at q1;simp at q1
 | some a=>
  cases hb:aa9 ⟨0,[],mk,[]⟩ x.g1 x.g2 with
  | none=>rw[ha,hb]at q1;simp at q1
  | some b=>
   rw[ha,hb]at q1
   obtain⟨a1,a2,a3⟩:=hside _ _ _ ha
   obtain⟨b1,b2,b3⟩:=hside _ _ _ hb
   simp only[aba,Bool.or_eq_false_iff,decide_eq_false_iff_not]at q2
   refine⟨fun y hy=>?_,fun p hp=>?_,by omega⟩
   ·simp only[List.mem_cons,List.not_mem_nil,or_false]at hy
    unfold inN
    rcases hy with rfl|rfl|rfl|rfl|rfl<;>omega
   ·have:=List.all_eq_true.mp (show abf a.length b.length x.ps=true from q1) p hp
    simp only[inR,Bool.and_eq_true,decide_eq_true_eq]at this
    unfold inN
    omega
structure Has(C:Cf):Prop where
 stir:∀(ns:List Int),∃row:List Int,row.length=46∧(∀v∈row,aaE v)∧C.cf axm [.val (.lst (iL ns)),.val (.int 46)] []=.ok (.val (.lst (iL row))) []
 plan:∀{row:List Int},(∀v∈row,aaE v)→row.length=46→∀n m:Nat,n≤10→m≤30→(0<m→0<n)→∃(pz:List Pz) (xs:List Sm),pz.length=n∧xs.length=m∧(∀p∈pz,p.ok)∧(∀x∈xs,adL (pz.map (·.m)) x)∧C.cf awg [.val (.lst (iL row)),.val (.int 4),.val (.int n),.val (.int m)] []=.ok (.val (plT pz xs)) []
 lines:∀{s:Sto}{pz:List Pz}{xs:List Sm}{z:Int},pz.length≤10→(∀p∈pz,p.ok)→xs.length≤30→(∀x∈xs,x.fit)→(-6≤z∧z≤6)→C.cf avD [.val (plT pz xs),.val (.int z)] s=.ok (.val (.lst (rT (bkL (plB pz xs z))))) s
 text:∀{s:Sto} (l:List Str),(∀y∈l,y.length≤63)→l.length≤1400→C.cf avW [.val (.lst (rT l))] s=.ok (.val (.str (txt l))) s
 reads:∀{s:Sto}{pz:List Pz}{xs:List Sm}{z:Int},-6≤z∧z≤6→pz.length≤10→(∀p∈pz,p.ok)→xs.length≤30→(∀x∈xs,adL (pz.map (·.m)) x∧x.inn)→(∀x∈xs,x.fit)→
  ∃(s':Sto) (A':Ad),New s s' A' (plB pz xs z)∧C.cf axc [.val (.str (txt (bkL (plB pz xs z))))] s=.ok (slf A') s'
 stands:∀{s:Sto}{A:Ad}{pz:List Pz}{xs:List Sm}{z:Int},BAt s A (plB pz xs z)→pz.length≤10→(∀p∈pz,p.ok)→xs.length≤30→(∀x∈xs,x.fit)→C.cf at9 [slf A,.val (plT pz xs),.val (.int z)] s=.ok (.val (.bl true)) s
 spots:∀(s:Sto) (d:Int),∃l:List Spt,l.length=3∧(∀p∈l,p.fit)∧C.cf apI [.val (.int d),.val (.int 3),.val (.int 20000),.val (.int 200)] s=.ok (.val (aal l)) s
 add:∀{s:Sto}{A:Ad}{B:Bk} (_:BAt s A B) (c:List Spt),c.length=3→(∀p∈c,p.fit)→B.pc.length<10→B.mrk.length≤10→∃s',C.cf iz6 [slf A,.val (aal c),.val .non] s=.ok (.val (.int B.pc.length)) s'∧BAt s' ⟨A.o,A.a,A.b,A.c,A.ls++[s.length]⟩ ⟨B.size,B.pc++[c],B.mrk++[c.map fun _=>[]],B.sm⟩∧adq A.fp s s'
 mv:∀{s:Sto}{A:Ad}{B:Bk} (_:BAt s A B) {cs:List Spt}{p:Spt},B.pc[0]?=some cs→cs[1]?=some p→∃s',C.cf awm [slf A,.val (.int 0),.val (.int 1),.val (.tup [.int 1,.int 2]),.val (.tup [.int 3,.int 4])] s=.ok (.val .non) s'∧BAt s' A ⟨B.size,B.pc.set 0 (cs.set 1 ⟨p.x,p.y,1,2,3,4⟩),B.mrk,B.sm⟩∧adq A.fp s s'
 npc:∀{s:Sto}{A:Ad}{B:Bk},BAt s A B→C.cf apw [slf A] s=.ok (.val (.int B.pc.length)) s
theorem has:Has (cfX fns sub0 (k+8))where
 stir:=fun ns=>by obtain⟨row,h1,h2,h3⟩:=aoW (k:=k+6) (s:=[]) ns 46 (by decide);exact⟨row,h1,h2,aau h3 rfl⟩
 plan:=fun hr hl n m h1 h2 h3=>by obtain⟨pz,xs,a1,a2,a3,a4,a5⟩:=apE (k:=k+5) (s:=[]) hr 4 n m h1 h2 h3 (by omega);exact⟨pz,xs,a1,a2,a3,a4,aau a5 rfl⟩
 lines:=fun h1 h2 h3 h4 h5=>aau (amd (k:=k+6) h1 h2 h3 h4 h5) rfl
 text:=fun l h1 h2=>aau (apn (k:=k+7) l h1 h2) rfl
 reads:=fun a b c d e f=>by obtain⟨s',A',q,r⟩:=an5 (k:=k) a b c d e f;exact⟨s',A',q,aau r rfl⟩
 stands:=fun h a b c d=>aau (akz (k:=k+3) h a b c d) rfl
 spots:=fun s d=>by obtain⟨l,h1,h2,h3⟩:=aib (k:=k+7) (s:=s) d 3 (by omega) (far:=20000) (stp:=200) ⟨by decide,by decide⟩ ⟨by decide,by decide⟩;exact⟨l,h1,h2,aau h3 rfl⟩
 add:=fun hb c hc hf h1 h2=>by
  obtain⟨s',e,q1,q2,_⟩:=acP (k:=k+4) hb c (c.map fun _=>[]) (.inr ⟨rfl,rfl⟩) h1 (by omega) (by omega) (by simp) (fun l hl=>by obtain⟨_,_,rfl⟩:=List.mem_map.mp hl;simp) hf (fun l hl p hp=>by obtain⟨_,_,rfl⟩:=List.mem_map.mp hl;cases hp) h2
  exact⟨s',aau e rfl,q1,q2⟩
 mv:=fun hb _ _ h1 h2=>by
  obtain⟨s',e,q1,q2,_⟩:=agN (k:=k+6) hb (i:=0) (j:=1) (a:=1) (b:=2) (c:=3) (d:=4) h1 h2 (by decide)
  exact⟨s',aau e rfl,q1,q2⟩
 npc:=fun h=>aau (aej (k:=k+7) h) rfl
theorem aql(a b:Int)(p:Bool):aaQ (.val (.lst [.int a,.int b])) (if p then 1 else 0)=some (.int (if p then b else a)):=by cases p<;>rfl
abbrev g9(ns:List Int)(row:List Int)(c2 c3 c4 c5 c6 c7 c8:Option IP.B):Fr:=[some (.val (.lst (iL ns))),some (.val (.lst (iL row))),c2,c3,c4,c5,c6,c7,c8]
theorem aq4{o:Op}{a b:E}{σ:Fr}{s s1 s2:Sto}{x y r:R}(h:ev C a .v σ s=.ok x s1)(h':ev C b .v σ s1=.ok y s2)(h2:opR o x y=some r):ev C (.bin o a b) .v σ s=.ok r s2:=by
 show fin .v ((ev C a .v σ s).bind fun x s1=>(ev C b .v σ s1).bind fun y s2=>.of (opR o x y) s2)=_
 rw[h]
 simp[h',h2]
theorem aob{a:E}{σ:Fr}{A:Ad}{B:Bk}(hb:BAt s A B)(h:ev C a .v σ s=.ok (slf A) s):ev C (.isB a 0) .t σ s=.ok (.val (.bl true)) s:=by
 show fin .t ((ev C a .v σ s).bind fun y s1=>.of (anV s1 0 y) s1)=_
 rw[h]
 have:anV s 0 (slf A)=some (.val (.bl true)):=by
  show(match s[A.o]? with|some (.ins d _)=>if d=0 then some (R.val (T.bl true))else none | _=>none)=_
  rw[hb.ins]
  rfl
 simp[this]
theorem ajI{a:E}{es:List E}{c f:Nat}{ds:List T}{σ:Fr}{s s1 s2 s3:Sto}{x r:R}{rs:List R}{p:Nat×List (Option T)}(ha:ev C a .v σ s=.ok x s1)(hi:x.locI s1 c=some p)(h:evr C es σ s1=.ok rs s2)(hf:C.cf f (x::rs++ds.map .val) s2=.ok r s3):ev C (.meth a c f es ds) .v σ s=.ok r s3:=by
 show fin .v ((ev C a .v σ s).bind fun x s1=>onO (x.locI s1 c) fun _=>(evr C es σ s1).bind fun rs s2=>C.cf f (x::rs++ds.map .val) s2)=_
 rw[ha]
 simp only[Res.bind_ok,hi,agw,h,hf,as0]
theorem ak8{a b:E}{σ:Fr}{s1:Sto}(h:ev C a .v σ s=.ok (.val (.bl true)) s1):ev C (.and a b) .v σ s=ev C b .v σ s1:=by
 show fin .v ((ev C a .v σ s).bind fun x s1=>onB x (ev C b .v σ s1) (.ok (.val (.bl false)) s1))=_
 rw[h];rfl
section
variable{pz:List Pz}{xs:List Sm}{z:Int}{ns row:List Int}{n m:Nat}{X:Str}
theorem aeg(H:Has C){σ:Fr}{A:Ad}{i:Nat}(hb:BAt s A (plB pz xs z))(hp:pz.length≤10)(ho:∀p∈pz,p.ok)(hx:xs.length≤30)(hf:∀x∈xs,x.fit)(hi:ev C (.var i) .v σ s=.ok (slf A) s)(h4:ev C (.var 4) .v σ s=.ok (.val (plT pz xs)) s)(h5:ev C (.var 5) .v σ s=.ok (.val (.int z)) s):
  ev C (.call at9 [.var i,.var 4,.var 5] []) .v σ s=.ok (.val (.bl true)) s:=
 aaj (aab hi (aab h4 (aab h5 aae))) (H.stands hb hp ho hx hf)
theorem amX(H:Has C){A1 A2:Ad}(hn:pz.length=n)(hn9:n≤9)(ho:∀p∈pz,p.ok)(hx:xs.length≤30)(hf:∀x∈xs,x.fit){v3:Int}(r3:aaQ (.val (.lst (iL row))) 3=some (.int v3))(hb1:BAt s A1 (plB pz xs z))(hb2:BAt s A2 (plB pz xs z))(hd:∀l∈A2.fp,l∉A1.fp):
  ∃s',exs C (aii.drop 8) (g9 ns row (some (.val (.int n))) (some (.val (.int m))) (some (.val (plT pz xs))) (some (.val (.int z))) (some (.val (.str X))) (some (.val (.loc A1.o))) (some (.val (.loc A2.o)))) s=.ret (.val (.bl true)) s':=by
 have hp:pz.length≤10:=by omega
 obtain⟨c,c1,c2,c3⟩:=H.spots s v3
 obtain⟨s3,e3,b3,k3⟩:=H.add hb1 c c1 c2 (by simp;omega) (by simp;omega)
 have hb2':BAt s3 A2 (plB pz xs z):=hb2.other fun l hl=>k3.2 l (hb2.lt l hl) (hd l hl)
 obtain⟨cs,p,h1,h2⟩:∃(cs:List Spt) (p:Spt),((plB pz xs z).pc++[c])[0]?=some cs∧cs[1]?=some p:=by
  cases pz with
  | nil=>exact⟨c,c[1],rfl,by simp[c1]⟩
  | cons q r=>
   have:=(ho q (by simp)).h3
   exact⟨q.c,q.c[1],rfl,by simp⟩
 obtain⟨s4,e4,b4,k4⟩:=H.mv b3 h1 h2
 have hb2'':BAt s4 A2 (plB pz xs z):=hb2'.other fun l hl=>k4.2 l (hb2'.lt l hl) (fun q=>by
  simp only[Ad.fp,List.mem_cons,List.mem_append,List.not_mem_nil,or_false]at q
  have hdl:=hd l hl
  simp only[Ad.fp,List.mem_cons,not_or]at hdl
  have hlt:=hb2.lt l hl
  rcases q with q|q|q|q|q|q
  ·exact hdl.1 q
  ·exact hdl.2.1 q
  ·exact hdl.2.2.1 q
  ·exact hdl.2.2.2.1 q
  ·exact hdl.2.2.2.2 q
  ·omega)
 have np:=H.npc b4
 refine⟨s4,?_⟩
 have s1t:=aeg H (σ:=g9 ns row (some (.val (.int n))) (some (.val (.int m))) (some (.val (plT pz xs))) (some (.val (.int z))) (some (.val (.str X))) (some (.val (.loc A1.o))) (some (.val (.loc A2.o)))) (i:=7) hb1 hp ho hx hf rfl rfl rfl
 have s2t:=aeg H (σ:=g9 ns row (some (.val (.int n))) (some (.val (.int m))) (some (.val (plT pz xs))) (some (.val (.int z))) (some (.val (.str X))) (some (.val (.loc A1.o))) (some (.val (.loc A2.o)))) (i:=8) hb2 hp ho hx hf rfl rfl rfl
 have s3t:=aeg H (σ:=g9 ns row (some (.val (.int n))) (some (.val (.int m))) (some (.val (plT pz xs))) (some (.val (.int z))) (some (.val (.str X))) (some (.val (.loc A1.o))) (some (.val (.loc A2.o)))) (i:=8) hb2'' hp ho hx hf rfl rfl rfl
 refine(aaa ((aaG (s1:=s) (afX (aaT (aob hb1 (a:=.var 7) rfl)) (aaT (aob hb2 (a:=.var 8) rfl)))).trans aak)).trans ?_
 refine(aaa ((aaG (s1:=s) (afX (aaT (ab3 s1t)) (aaT (ab3 s2t)))).trans aak)).trans ?_
 have esp:ev C (.call apI [(.sub (.var 1) (.cst (.int 3))),(.cst (.int 3)),(.cst (.int 20000)),(.cst (.int 200))] []) .v (g9 ns row (some (.val (.int n))) (some (.val (.int m))) (some (.val (plT pz xs))) (some (.val (.int z))) (some (.val (.str X))) (some (.val (.loc A1.o))) (some (.val (.loc A2.o)))) s=.ok (.val (aal c)) s:=
  aaj (aab (s1:=s) (x:=.val (.int v3)) (by simp[r3]) (aab (s1:=s) (x:=.val (.int 3)) rfl (aab (s1:=s) (x:=.val (.int 20000)) rfl (aab (s1:=s) (x:=.val (.int 200)) rfl aae)))) c3
 refine(aaa (abO (ajI (s1:=s) (x:=slf A1) rfl hb1.li (aab esp aae) e3))).trans ?_
 refine(aaa (abO (aay (s1:=s3) (x:=slf A1) rfl b3.li (aab (s1:=s3) (x:=.val (.int 0)) rfl (aab (s1:=s3) (x:=.val (.int 1)) rfl (aab (s1:=s3) (x:=.val (.tup [.int 1,.int 2])) rfl (aab (s1:=s3) (x:=.val (.tup [.int 3,.int 4])) rfl aae)))) e4))).trans ?_
 refine aaH (abo ((ak8 (aln (s1:=s4) (aay (s1:=s4) (x:=slf A1) rfl b4.li aae np) (y:=.val (.int ((n:Int)+1))) rfl ?_)).trans s3t))
 have hl:(((pz.map (·.c))++[c]).set 0 (cs.set 1 ⟨p.x,p.y,1,2,3,4⟩)).length=n+1:=by simp[hn]
 show act .eq (.val (.int ((((pz.map (·.c))++[c]).set 0 (cs.set 1 ⟨p.x,p.y,1,2,3,4⟩)).length:Nat))) (.val (.int ((n:Int)+1)))=some true
 rw[hl]
 simp
end
theorem anA(H:Has C)(ns:List Int):∃s',exs C aii (aam ajp [.val (.lst (iL ns))]) []=.ret (.val (.bl true)) s':=by
 obtain⟨row,l1,hr,e1⟩:=H.stir ns
 obtain⟨v0,_,r0,_⟩:=ad9 hr (m:=0) (by omega)
 have r0:aaQ (.val (.lst (iL row))) 0=some (.int v0):=r0
 obtain⟨v1,_,r1,_⟩:=ad9 hr (m:=1) (by omega)
 have r1:aaQ (.val (.lst (iL row))) 1=some (.int v1):=r1
 obtain⟨v2,_,r2,_⟩:=ad9 hr (m:=2) (by omega)
 have r2:aaQ (.val (.lst (iL row))) 2=some (.int v2):=r2
 obtain⟨v3,_,r3,_⟩:=ad9 hr (m:=3) (by omega)
 have r3:aaQ (.val (.lst (iL row))) 3=some (.int v3):=r3
 have m0:=aaM (i:=v0) (j:=5) (by decide)
 have d0:=aaS (i:=v0) (j:=5) (by decide) (by decide)
 have n0:=aaM (i:=Int.fdiv v0 5) (j:=8) (by decide)
 have m1:=aaM (i:=v1) (j:=9) (by decide)
 have d1:=aaS (i:=v1) (j:=9) (by decide) (by decide)
 have n1:=aaM (i:=Int.fdiv v1 9) (j:=8) (by decide)
 have m2:=aaM (i:=v2) (j:=13) (by decide)
 have p0:=abd v0 (j:=5) (by decide)
 have p1:=abd v1 (j:=9) (by decide)
 have p2:=abd v2 (j:=13) (by decide)
 generalize Int.fmod v0 5=a0 at *
 generalize Int.fmod (Int.fdiv v0 5) 8=b0 at *
 generalize Int.fmod v1 9=a1 at *
 generalize Int.fmod (Int.fdiv v1 9) 8=b1 at *
 generalize hz:Int.fmod v2 13=a2 at *
 have k0:=aql a0 9 (b0==1)
 have k1:=aql a1 30 (b1==1)
 obtain⟨n,hn,hn'⟩:∃n:Nat,n≤9∧(if(b0==1)=true then 9 else a0)=(n:Int):=by
  cases(b0==1)
  ·exact⟨a0.toNat,by omega,by simp;omega⟩
  ·exact⟨9,by omega,by simp⟩
 rw[hn']at k0
 obtain⟨w,hw0,hw⟩:∃w:Int,(0≤w∧w≤30)∧(if(b1==1)=true then 30 else a1)=w:=by
  cases(b1==1)
  ·exact⟨a1,by omega,by simp⟩
  ·exact⟨30,by omega,by simp⟩
 rw[hw]at k1
 have hmul:=ad6 (i:=w) (j:=if decide (0<(n:Int))then 1 else 0) (ab2 (by omega))
 obtain⟨m,hm,hm',hmn⟩:∃m:Nat,m≤30∧w*(if decide (0<(n:Int))then 1 else 0)=(m:Int)∧(0<m→0<n):=by
  by_cases q:0<(n:Int)
  ·exact⟨w.toNat,by omega,by rw[decide_eq_true q];simp;omega,by omega⟩
  ·exact⟨0,by omega,by rw[decide_eq_false q];simp,by omega⟩
 rw[hm']at hmul
 obtain⟨pz,xs,q1,q2,q3,q4,e4⟩:=H.plan hr l1 n m (by omega) hm hmn
 have z6:-6≤a2-6∧a2-6≤6:=by omega
 have hs6:=alx (i:=a2) (j:=6)
 generalize a2-6=z at z6 hs6
 have q1':pz.length≤10:=by omega
 have q2':xs.length≤30:=by omega
 have hm24:∀m∈pz.map (·.m),m.length≤24:=fun m hm=>by
  obtain⟨p,hp,rfl⟩:=List.mem_map.mp hm
  rw[(q3 p hp).hm];exact(q3 p hp).h24
 have hm4:∀m∈pz.map (·.m),∀l∈m,l.length≤4:=fun m hm=>by
  obtain⟨p,hp,rfl⟩:=List.mem_map.mp hm
  exact(q3 p hp).h4
 have hfx:∀x∈xs,x.fit:=fun x hx=>ak4 (q4 x hx) (by simp;omega) hm24 hm4
 have hin:∀x∈xs,adL (pz.map (·.m)) x∧x.inn:=fun x hx=>⟨q4 x hx,akL (q4 x hx) (by simp;omega) hm24 hm4⟩
 have hf:=ajj q1' q3 q2' hfx z6
 obtain⟨s1,A1,N1,e7⟩:=H.reads (s:=[]) z6 q1' q3 q2' hin hfx
 obtain⟨s2,A2,N2,e8⟩:=H.reads (s:=s1) z6 q1' q3 q2' hin hfx
 have hb1:BAt s2 A1 (plB pz xs z):=N1.at_.other fun l hl=>N2.keep.2 l (N1.at_.lt l hl) (by simp)
 have hdis:∀l∈A2.fp,l∉A1.fp:=fun l hl q=>by
  have a:=N2.new l hl
  have b:=N1.at_.lt l q
  omega
 obtain⟨s',e9⟩:=amX (ns:=ns) (row:=row) (n:=n) (m:=m) (X:=txt (bkL (plB pz xs z))) H q1 hn q3 q2' hfx r3 hb1 N2.at_ hdis
 simp only[beq_iff_eq]at k0 k1
 simp only[decide_eq_true_eq,Int.natCast_pos]at hmul
 refine⟨s',?_⟩
 refine(aaa (σ1:=g9 ns row none none none none none none none) (s1:=[]) (aaI (aaj (aab (s1:=[]) (x:=.val (.lst (iL ns))) rfl (aab (s1:=[]) (x:=.val (.int 46)) rfl aae)) e1))).trans ?_
 refine(aaa (σ1:=g9 ns row (some (.val (.int n))) none none none none none none) (s1:=[]) (by simp[r0,m0,d0,n0,k0])).trans ?_
 refine(aaa (σ1:=g9 ns row (some (.val (.int n))) (some (.val (.int m))) none none none none none) (s1:=[]) (by simp[r1,m1,d1,n1,k1,hmul])).trans ?_
 refine(aaa (σ1:=g9 ns row (some (.val (.int n))) (some (.val (.int m))) (some (.val (plT pz xs))) none none none none) (s1:=[]) (aaI (aaj (aab (s1:=[]) (x:=.val (.lst (iL row))) rfl (aab (s1:=[]) (x:=.val (.int 4)) rfl (aab (s1:=[]) (x:=.val (.int n)) rfl (aab (s1:=[]) (x:=.val (.int m)) rfl aae)))) e4))).trans ?_
 refine(aaa (σ1:=g9 ns row (some (.val (.int n))) (some (.val (.int m))) (some (.val (plT pz xs))) (some (.val (.int z))) none none none) (s1:=[]) (aaI (aq4 (s1:=[]) (x:=.val (.int a2)) (y:=.val (.int 6)) (by simp[r2,m2]) rfl hs6))).trans ?_
 refine(aaa (σ1:=g9 ns row (some (.val (.int n))) (some (.val (.int m))) (some (.val (plT pz xs))) (some (.val (.int z))) (some (.val (.str (txt (bkL (plB pz xs z)))))) none none) (s1:=[]) (aaI (aaj (aab (s1:=[]) (aaj (aab (s1:=[]) (x:=.val (plT pz xs)) rfl (aab (s1:=[]) (x:=.val (.int z)) rfl aae)) (H.lines q1' q3 q2' hfx z6)) aae) (H.text _ hf.b63 hf.bl)))).trans ?_
 generalize txt (bkL (plB pz xs z))=X at e7 e8 e9 ⊢
 refine(aaa (σ1:=g9 ns row (some (.val (.int n))) (some (.val (.int m))) (some (.val (plT pz xs))) (some (.val (.int z))) (some (.val (.str X))) (some (.val (.loc A1.o))) none) (s1:=s1) (aaI (aaj (aab (s1:=[]) (x:=.val (.str X)) rfl aae) e7))).trans ?_
 refine(aaa (σ1:=g9 ns row (some (.val (.int n))) (some (.val (.int m))) (some (.val (plT pz xs))) (some (.val (.int z))) (some (.val (.str X))) (some (.val (.loc A1.o))) (some (.val (.loc A2.o)))) (s1:=s2) (aaI (aaj (aab (s1:=s1) (x:=.val (.str X)) rfl aae) e8))).trans ?_
 exact e9
theorem asA(k:Nat)(ns:List Int):∃s,run true fns sub0 aad (k+9) aua [.val (.lst (ns.map .int))] []=.ok (.val (.bl true)) s:=by
 obtain⟨s',e⟩:=anA (has (k:=k)) ns
 refine⟨s',?_⟩
 rw[aaf (F:=ajp) rfl rfl,show ajp.body=aii from rfl,show exs (cfX fns sub0 (k+8)) aii (aam ajp [.val (.lst (ns.map .int))]) []=_ from e]
 rfl
theorem math:ax1:=fun ns _=>asA 7 ns
end Pg
end IP
end
noncomputable section
/--?D;bINN20pI01h`_l71SI94<>1_fkY]nD=1MjFg`j7^=?FhP9:?N[nA5k6efA>>cBb>PW>9Ko<XF11:B:^?_=<]j<<cJ:dT^BdP=G`oNjDXF9P5h2ialVI4kB?b1cPT;L;bn0Yp3NpP2SWW7B`QL7McLO<8SeU0o6P5Ye6?_ID>H\GcK9<QMTn_VnZE;Gd1Kbi9Bb06Q=<4;TN8P<6BG`935j2KF7A>]c;MgOST5cCjYG30[iD3EgP6I]Hc2i;f=PaCbOZmE5d2i`FC`D`14]l8PlNCIe=2cLW8eXNZXU=^l97JQCki`4L0Lf]io2f\9fZ98Z?P1F?1_OFh3MK8WS?VNXc^?mEH10ji5Oc6khVQ0]1d[\D1Rkd6HMhbj7AM`h?BGP>nJM_V]::?i>n6dZEl:7YCTP=SK]06KW5V;<64dS>RNSbjj79QH1FY`p>=b[AL:Sb7o6j?ef`8gBJpP]H:[h:Gfd;c^8J6Z>W`70]5:j1I9LojjBFgl_L62FIOiDf2>7?7;77LH[[^E=Bf?\VgX]Y?2FQnXaQ`0Lj=KG]a9XWM`U6e71XX_o5CK7MV<Md4m99g0m\=nMePd\Z0P?PkVjS:V;:ORaY3K5l4C?e0K5NG[4hI98ioZKLnbAe3VXM:G45VC`2JmAdp=Q;pQ=kiC6]WVeBY3VXmJUK>mog8iGoCSN:>Ok3o6flSM?Xpf8Q7SO[6?o9H43JU2JITEPY;bY2N5<>o<d4DaSN1l28j4;OTFodnXeMp?YeaBV=NM8I77iakB7:LSQ8^5EgU3m8P4;C67E[hTI`E9X>P8GajFEo63?]WO26i8d1Qa3KO<N?WS<JDpHJ2TLi:2V1Sk85am:E0Z<2cYV\3?k5B6TUE2CMap2SjoKD>5>K68Yogf_5[HU[6ST23?BH0C25=KUc8<f?548M<cJQh=NnT?MT=[X==I:P2dZUkD6;hie2XlAbolC1k?8T>Yo?S^FLV2;LeMbQBe:i4ITM1=_O0966dW9KllUfK:=]L:m:NR:2_0m6VU?Q_[]f?;[kW1EORH?3n6>6f9A<hI4=0Hd150DHa8?:JOeOW>5;5?Oh:96OMjE05pm>Afl9h<4g0gPBobR;L3THoCjCH3fC8PJ0DRm?9Y375PR7DKR^3L5C813DUNHZ>4H_JXjoRQ;>:Wmf;aDX=_D0_E6[o1]FfE9Lg<Ba7pXF:4nhnFZ1RS:d4=AFmUfBV;D14]d=cmPJD2<BRK:dE1gK<=?HZITXOPIf5H=;G_Vcck]5HXoJ8i0dTU:ZlMOhbliWJ=OCdH97OT7E<CSdP2NJV7C;Tgn>3H1ePB8SmABm50F4[>OpA20_iHk\7OXS9<VIKQl3nD254_dDo4=OgIR3Y?=OU91Yhe_7C7?c7UUAm6PDpWf<DUQRgCiLQO1;g`T5EW>Mj83HgI6RfgQX5Mk7>hF7efO5kN]U]NXY5d=o4^MW\SMen>91j4==CVoK=GH7656Mlkk5Le?YBd2^JJ4HDH?63=gO1>eKIJ\dY]oA1nlAdC[:BX832dZKHHXCLX59C61m5dknp:ZK_gEF5<mi3GUT7o<UR=A2VTHP3cM:IF;PQ2<AQHpX^6CHAV1VUV[^5h2dZLlG;aF4XXGOWN=f>`4XbPO^:EeJJ=`i;jYPL:d0;L5SKW1=p[00Dpn3S21_cY6^:BHST3gC993FpA?pOa?G9YOonU08YH11aUSp226nkH?G41`]12c[N:;6^4\1TBp;?pXh3fJYoag6l[SbjIJdY^510_Jd2i0oa0PQfb09AKCF6:KC`1X^^BJ42ppe2Yh<jL2K4Rh2o7?lo82d`bEp_gIj0K<MNo:K\9C23H10>XR7J36A>GW78ef2E8>5I5BGpcYp4c>\DLFh3?F5JL86IL;WJF:KG9DRp^2=E=?mZ]<TffeH>g;06Hk2F[613BhmpZM_6h4[3=3NI_X4E1bT4YV^YalK7LnM6;Snb[63ZUcHG=U1024ob2T8M=7D[><>WQ4O]02E>RJP;<5ePYm51oM<9njReX:`CiI3^SF489a?]Bk4X5_8<khGdY1Affo>o\>PY9lTN9=P0lUc\B8k>7h]MlZI8^G09f=::=TZ[4V;QaHfL6TChd;8E5LdWi_m;>G[pdf725g:47ZNI\9ZI1`;m6W9I`_:[n8TAGW7Aj<^F;H2ZJQ=?6hD4kKlC?IaFYg66pZC;dTW<<?ScWX>jA2P_05c[Z`QHVhV=WM>RFV4GfD6DODJlXU7SK8KMK?_QYFQF2nng2d;^Uc<8U4XSJoAWkc?K8PSZD4dYo<jZJ>PkfcC;3h<bl9UDZk55Jj2CenX`]o<D;djMdX;dX?FIV2f9OP6A:VU4BSCPG?6?pa[:odd2Q60>f_VW6\_O><WENa[5Bf5?<^bbDcXAk7[1aejW[>9AQJ72D^K3lLo]C>VHK=eCA41b2aI9i0Ya^2F>eVTBN?cV;E216A>0GAlc80ib^8d=:[fB1\QA9ag7=MU7dR8Y4FcLIT>TS8EjF6Nbh6jfgBnc\NSW2k5Nd_pKUW:6QTC22QVhYH=\cHpY7Og:J:SmS[Pg`aid9dP00Z;\5Bm>gB8bLjd]Yf?BBXcIORg>P16hO\JMN9pd7BdX]3\Fbe11;9^50c0<8a<_DTbTLcnd36f:b0H8J\G3:ZGC\YCe3pp0Z_JciRh\Cd8?57Ngi:3Oo?Ef^aUZE:gQ13k1YnleOdE;0oe8h0KFM25REEiRR702W396m]`7dN6n7nfKFeF\A0p9T8TOAF9?pP9lEjV7\l46G<hLmKR`M<lZ1e><hODY[mA4HD]Ac5[`c\0C5kVO4mUp;>Sk=P670TS3<7a6ghpNbJ\<966bgaZIUG1\>>[XKg_h1;TQkLhZCF^E7FdpElXkXb;0YI7VOUdf7\>IXI9I3c=hp5KjKDpk\HU>8CjcL`O:V_S>So3p^NaciZ5Mi:^9S:EU0;R3eW\L4?\W<]Q[bgciAi5?abj=h_ec`j<=Pj\P[dPn?3XLidaQPD\G0kT6EIUjpQi6m4;I=d_:1H7Mh?]R=b_kB4]:Koj6o:Ne7aFkAV2\PDP53O>b[^IZ]m:lQKVQKakna7QlNM]V1gS7=p:olY4BgB669XRoQYV4e:<CD2`A1>MW=:[B6j]lm2nk=1cW=Pj9G:7?ZBV=B0aGCd7QL\F7hpB_7;ZFWR?gXp6J=PCNRfGIeH5?LnUlXmh2?m79kOkhJnL5o9n_6N_m43RO>M3Fce`j`=G7hT2VEbCLpR2nThLB3Si0D<Paim=iC`Q?0h_^G5f<obj6fP>RoV_lN4?JFDGOK[;5j<C6En6H74WM5IjmZJVhpNQ2??UGAOc;W18;e6OG[jRS0=noZf]_EhUI352U>4o6fR[6369B_cg0j9<F0omg9omgp?H`9oniV]P428mbR0nF::S9k<Sk?V>S`Q<^J:Y_VUJea2=S99o>\O1;7N[]I7<08GX1;N_YNl\fW^:Wk>p:XU=1i75piR95Rc5Y5l:OaX\gi4m>9cF655FQTG:lgP\kfY6g?2f<nfDgNppP66fVe`L4^AR<Hj]MdFh=LH1l07m`_fp4?<g93oHmnP98<9EZ_VQ`Sn29OSUBN\GD3A3c6kAHknXiT7jfK:IJC=GG?Uih>fM:TG`>b2]pi68JN;3dEeGIh^nVW3c2V[TFnFVi<0lICbA5\0A<janV3oU<IA4ToBaebIBoe;K2aal`;<2U5JUO2<^AE`D0I`=1Fpd2ZF5b93>elmfc:<=U<m6jWbhP;mWRfCUlX2M?g>V?>=6nEO>QnRg<`Nbo9<nmTon5_dQL5F[H`5i[3DI<YFibQgK1]D?_TH;6_4eGZ21MO4Gp[7b9>^7a5pCUJ>36c5T0QfN=ZM:o6I:175f:9=QTb984Qm\_6hJ43N0:OGp9;aGeHjoJYT:5b3O6DSRVZ:RX>ceU^;pR?:l0SST0jdO<M^YSP5TQJp?T`6NHOLl<B95VMZj6bdl7?Mg7QfE9cDl6ZNHJG=7OVO1V4=^TCh^5H0OblLBl6C?O<7FR?eai50J=Q99Aj11Dah:7\mUAKIgol;ceaeGl8peV4;ZH<19ME3f7aU;1OA7?=27cckofiQ7eK92fJ^T]QU>T9E51;L8WOQZ3hg<NacTFSm>Sp\i=fCdWE;lRV`eU\gAd;5o2a`pQYGW=QVKb0=cVg<5kg5nD8>Kbh?EET6ZepYhB0IUJm1MRJ:d1l`]Q0O4=XM<\^;fcMSpW01;ASaSI[Sa>3;SKVpESD0b=^VVR?VMYjp4m5l6ni8pbT<oRN11?:Kp86=n:48TkoR88AO`?`m4T1P2R4VcnRUHp]2p>eIkJ]`V_??A?K949J;796WFEFEa=c97Z3;F2aE64Z=IAHUe=[dpb8bbUAbRL90>37_0cPVa8fY1g2aS\m_hMa1dWjlhinKD`>?af^hOXibF:AAeQ?X9kS?7AS>2Di?NgN=]S1dWjmi16:I1\jVEgVo68Ah_P2beTL_;pS0m?A:B;d3g2m>6nafb=5<fmh0lM>9a4_KdVR_o1YQ8Ca`bKn[1ET4C4XS:8LjIW39p4_kmCoVi3dIE39H6HC63fD9Mn]keY9;^4C?P<eEV>0d4DkHh?jkX?6l1>?Oa;_b>LAF[7hhNUk6U]e[j]PN=b;;cO9VS2Ob:2Z6_e681oNc0o<[i_N?7NV6>\Ad22md\=3\L<Gmi^V]m2EdKd[^GKec1lSPfhfFDc44\_aO1=1>Pj<C7N:<VhBbN5omHaO1O6H>0Z8DDOg?R`R<YP2>pS\8f[2[NILfhWWPC8eRNDB^]03Z=3P4_af4W5W6>O42A1HgP:54B_o6Sl=T298cBCIW=bWT67Rb\Ccdd3H=bUg[`7QL1<=7M8CceoKZg<;jA?DYMV[i6DA5RgoBYI2=Rfo3:]P^N19P[5^5PDHJX?bhl0ZUEoe=:h^X4VWjcJa90\[7mGIj4D27ZQUFJ;1_?5TaC6dOZOOJ9=S_nIFY5e_:6jERL?L:lP0CZIjj_njD^1Db[NSSTbj^8>p\0L2lHm:1:[^QfKMTlP?0PjR8;VL2L8[^e6c=9ZH^6f6omQ9RS6>07bl`LMmONZ;Fhaj:hB54Y<U>9]VMQV`G2S=h32H81Pe46YQ9gD747O18NKC394V4p;iRRb_nREfD>3GCDYV56Rg93W1`;8AjEY:7RH`Nd6[0=;8PQj3=YMOY;e4>V7Ze01m>60c]=9GMnC0i;<ihMc_bc4HUgcKnfcjW8m]Z3oD^4TY3oMX9`0QN<D60EHa3]\NA3;bjLpScP\i6;=O2QIWGQ7^2p`g;mBdN_j>_B7>Cip0HU4?`G9Tfmee[=hLOXL4VMb?8WBGfGo1ZnY?lcf?AOc8T;<R:kj:V7OiL9a2]N69O7Kc1b6pE1R0fJT5;Q<Sjki\271p\gMVJJ;Q[3\cH=a9n5:d:[]EOMQn<;=0`]\fFYh05L7OhK1onZjmo8Y;Rn0mLH^i=5a]VGhicMh;JjpVVRSJf??OhZD\mp?Ag0CI;KGMg]6?3iTn2Da>_WN9OPIP75j<\97?RLpCCk4i?3^01pTU97S]>jj:FTLmDIk5KVJ<gT3W;=9Rfk^RGD7OJ0gpbpiRj;<h0bhhXoGRXp?5823F3U[Lo91;<?>jhS5bg<IH]]0^DKId?`2:1QIfICR021YPHIJRGg0[JT47dA6^[8fS0<:a5eGj;Kc6BmLH<;L5BaWK\987545WTFpHDhPDV2Wn46o[X;Tj:ke4;KU8g8g2P1FJmJj53o>Y_=W8gGMa91p[]`S]LE]O:aUahO<LBk[7Tac8mcEAQR4]mac>PXPJ??M5?idKXd\6>C_:\MCb?Fe4KNPK1H:I0A6[g<_V<C\DV=>RD;`KEkI_3hGMfZj_:HR4aXbP6n9:7a4YVE1c?PYp<=8h3TVQnm4E8`LTioQTR2K?]4fiE21Im1?Ho_J\3m<TQ6Q:A`J3VX2W2Zh2PTmnmES4=iNmU<UCal6GM`1[C_eRc79pmo\SS[H?9>XfTW1Q3gH?ZYi413^3oQ>dLKj:n:9<m=KYX_Eo<W]F0R_oWkhUW]B-/def t:=()
open PySem PySem.W PyProof.Rows
theorem IP.Pg.bd_4{K:W.Frag}{dt:Addr}{oct:Value}{odt:Option Addr}{slt:Array (Option Value)}{nt:Nat}{kV dc pm cd ct:Value}{an:Option Addr}(dl:K.lookup dt=some ⟨oct,odt,.seq #[.none] nt,slt⟩)(ts:List IP.T)(z:ts=[]∨ts∈IP.dfl IP.Pg.tb 4):
  ∃(dvs:List L2.V) (ds:List Value),ts.mapM IP.cstV=some dvs∧L2.Vals dvs ds∧L2.Binds K (W.fnOf "add_piece" "Book.add_piece" (L2.defArgs (L2.inClass (IP.Pg.top 25) 1)) (L2.defBody (L2.inClass (IP.Pg.top 25) 1)) (L2.defScope (L2.inClass (IP.Pg.top 25) 1)) (.ref dt) kV dc pm an cd ct) ["self","corners","marks"] ds:=by
 have z:ts=[]∨ts∈([[.non]]:List (List IP.T)):=z
 simp only[List.mem_cons,List.not_mem_nil,or_false]at z
 rcases z with rfl|rfl
 ·exact⟨[],[],rfl,.nil,IP.lenB 3 (by intro _ _ _ s X;first|exact .of_eq rfl|exact W.binds_K X rfl dl rfl rfl rfl) rfl⟩
 ·exact⟨[.non],[.none],rfl,(.cons rfl .nil),IP.lenB 2 (by intro _ _ s X;exact W.binds_K X rfl dl rfl rfl rfl) rfl⟩
theorem IP.Pg.bd_5{K:W.Frag}{dt:Addr}{oct:Value}{odt:Option Addr}{slt:Array (Option Value)}{nt:Nat}{kV dc pm cd ct:Value}{an:Option Addr}{t1:Tok}(dl:K.lookup dt=some ⟨oct,odt,.seq #[.bool false,.int 0 t1,.none] nt,slt⟩)(ts:List IP.T)(z:ts=[]∨ts∈IP.dfl IP.Pg.tb 5):
  ∃(dvs:List L2.V) (ds:List Value),ts.mapM IP.cstV=some dvs∧L2.Vals dvs ds∧L2.Binds K (W.fnOf "add_seam" "Book.add_seam" (L2.defArgs (L2.inClass (IP.Pg.top 25) 2)) (L2.defBody (L2.inClass (IP.Pg.top 25) 2)) (L2.defScope (L2.inClass (IP.Pg.top 25) 2)) (.ref dt) kV dc pm an cd ct) ["self","first","second","turned","ease","pairs"] ds:=by
 have z:ts=[]∨ts∈([]:List (List IP.T)):=z
 simp only[List.mem_cons,List.not_mem_nil,or_false]at z
 rcases z with rfl
 ·exact⟨[],[],rfl,.nil,IP.lenB 6 (by intro _ _ _ _ _ _ s X;first|exact .of_eq rfl|exact W.binds_K X rfl dl rfl rfl rfl) rfl⟩
theorem IP.Pg.bd_16{K:W.Frag}{dt:Addr}{oct:Value}{odt:Option Addr}{slt:Array (Option Value)}{nt:Nat}{kV dc pm cd ct:Value}{an:Option Addr}(dl:K.lookup dt=some ⟨oct,odt,.seq #[.none] nt,slt⟩)(ts:List IP.T)(z:ts=[]∨ts∈IP.dfl IP.Pg.tb 16):
  ∃(dvs:List L2.V) (ds:List Value),ts.mapM IP.cstV=some dvs∧L2.Vals dvs ds∧L2.Binds K (W.fnOf "corners" "Book.corners" (L2.defArgs (L2.inClass (IP.Pg.top 25) 13)) (L2.defBody (L2.inClass (IP.Pg.top 25) 13)) (L2.defScope (L2.inClass (IP.Pg.top 25) 13)) (.ref dt) kV dc pm an cd ct) ["self","piece","size"] ds:=by
 have z:ts=[]∨ts∈([]:List (List IP.T)):=z
 simp only[List.mem_cons,List.not_mem_nil,or_false]at z
 rcases z with rfl
 ·exact⟨[],[],rfl,.nil,IP.lenB 3 (by intro _ _ _ s X;first|exact .of_eq rfl|exact W.binds_K X rfl dl rfl rfl rfl) rfl⟩
theorem IP.Pg.bd_17{K:W.Frag}{dt:Addr}{oct:Value}{odt:Option Addr}{slt:Array (Option Value)}{nt:Nat}{kV dc pm cd ct:Value}{an:Option Addr}(dl:K.lookup dt=some ⟨oct,odt,.seq #[.none] nt,slt⟩)(ts:List IP.T)(z:ts=[]∨ts∈IP.dfl IP.Pg.tb 17):
  ∃(dvs:List L2.V) (ds:List Value),ts.mapM IP.cstV=some dvs∧L2.Vals dvs ds∧L2.Binds K (W.fnOf "marks" "Book.marks" (L2.defArgs (L2.inClass (IP.Pg.top 25) 14)) (L2.defBody (L2.inClass (IP.Pg.top 25) 14)) (L2.defScope (L2.inClass (IP.Pg.top 25) 14)) (.ref dt) kV dc pm an cd ct) ["self","piece","side","size"] ds:=by
 have z:ts=[]∨ts∈([]:List (List IP.T)):=z
 simp only[List.mem_cons,List.not_mem_nil,or_false]at z
 rcases z with rfl
 ·exact⟨[],[],rfl,.nil,IP.lenB 4 (by intro _ _ _ _ s X;first|exact .of_eq rfl|exact W.binds_K X rfl dl rfl rfl rfl) rfl⟩
theorem IP.Pg.hyL{K:W.Frag}{h:Heap}{mg:Str→Option Value}{e0:Addr}{e1:Addr}{e2:Addr}{e3:Addr}{e4:Addr}{e5:Addr}{e6:Addr}{e7:Addr}{c0:Addr}{c1:Addr}(X:K.In h)(Gn:h.Ns mainGlobals mg)(a:IP.HyA K [e0,e1,e2,e3,e4,e5,e6,e7] [c0,c1] IP.Pg.rows0 IP.Pg.tb IP.Pg.dis):∃G,G.K=K∧IP.Hy K mg G IP.Pg.sub0 IP.Pg.tb (IP.Df K IP.Pg.tb IP.Pg.dis):=IP.hy_mk X Gn IP.Pg.Ck.ckt_ok a
theorem PySem.Challenge.cw_gradecut_k31_read_back_holds : PySem.Challenge.rw_gradecut_k31_read_back.Holds := by
 w_on;o_law;k_head;(case hw=>w_witness2)
 k_fill
 refine IP.walk (tb:=IP.Pg.tb) (dis:=IP.Pg.dis) (par:="_law_script") IP.Pg.math (fun _ _=>IP.Pg.Ck.ckr_ok 40) IP.Pg.Ck.ck_ok rfl rfl rfl (l:=PySem.Challenge.rw_gradecut_k31_read_back) rfl rfl ⟨rfl,by decide,by decide⟩ (fun w h Y=>PySem.W.kIn_of Y) ?noL ?goF
 case noL=>intro w;first|rfl|with_unfolding_all rfl|decide +kernel
 case goF=>
  intro w mg fa h KX G hmg
  refine' IP.go_mk KX G hmg (by k_is) (by k_is) (by k_is) (by k_is) (fun _=>rfl) (IP.Pg.hyL KX G ?jg)
  case jg=>
   refine⟨?_,?_,?_,?_,?_,?_,?_⟩
   ·(iterate 8 refine IP.allP_cons (by exact IP.g_exc (by (dsimp only[IP.nE,IP.nth])) (by k_is)) ?_);(iterate 2 refine IP.allP_cons (by exact IP.g_cls (by dsimp only[IP.nE,IP.nth]) (by k_is) (by k_is) (by k_is) (by k_is) (by k_is) (IP.df_mk rfl (by k_is) (by k_is) (by k_is) (IP.bd0 rfl (by repeat (first|rfl|intro _))))) ?_);(iterate 35 refine IP.allP_cons (by exact IP.g_fn (by k_is) (by k_is) (IP.df_mk rfl (by k_is) (by k_is) (by k_is) (IP.bd0 rfl (by repeat (first|rfl|intro _))))) ?_);(iterate 15 refine IP.allP_cons (by exact IP.g_int (by k_is)) ?_);(iterate 12 refine IP.allP_cons (by exact IP.g_blt (by k_is)) ?_);exact True.intro
   ·refine IP.allP_cons (by exact IP.g_m (by dsimp only[IP.nE,IP.nth]) (by k_is) (by k_is) (by k_is) (IP.df_mk rfl (by k_is) (by k_is) (by k_is) (IP.Pg.bd_4 (by k_is)))) ?_;refine IP.allP_cons (by exact IP.g_m (by dsimp only[IP.nE,IP.nth]) (by k_is) (by k_is) (by k_is) (IP.df_mk rfl (by k_is) (by k_is) (by k_is) (IP.Pg.bd_5 (by k_is)))) ?_;(iterate 10 refine IP.allP_cons (by exact IP.g_m (by (dsimp only[IP.nE,IP.nth])) (by k_is) (by k_is) (by k_is) (IP.df_mk rfl (by k_is) (by k_is) (by k_is) (IP.bd0 rfl (by repeat (first|rfl|intro _))))) ?_);refine IP.allP_cons (by exact IP.g_m (by dsimp only[IP.nE,IP.nth]) (by k_is) (by k_is) (by k_is) (IP.df_mk rfl (by k_is) (by k_is) (by k_is) (IP.Pg.bd_16 (by k_is)))) ?_;refine IP.allP_cons (by exact IP.g_m (by dsimp only[IP.nE,IP.nth]) (by k_is) (by k_is) (by k_is) (IP.df_mk rfl (by k_is) (by k_is) (by k_is) (IP.Pg.bd_17 (by k_is)))) ?_;(iterate 4 refine IP.allP_cons (by exact IP.g_m (by (dsimp only[IP.nE,IP.nth])) (by k_is) (by k_is) (by k_is) (IP.df_mk rfl (by k_is) (by k_is) (by k_is) (IP.bd0 rfl (by repeat (first|rfl|intro _))))) ?_);exact True.intro
   ·refine And.intro ⟨⟨by k_is,by k_is,by k_is,by k_is⟩,?_⟩ ?_
    ·(iterate 4 refine IP.allP_cons (by exact IP.g_na (by k_is)) ?_);exact True.intro
    refine And.intro ⟨⟨by k_is,by k_is,by k_is,by k_is⟩,?_⟩ ?_
    ·(iterate 2 refine IP.allP_cons (by exact IP.g_na (by k_is)) ?_);exact True.intro
    exact True.intro
   ·(iterate 7 refine IP.allP_cons (by exact IP.g_rs (by (dsimp only[IP.nE,IP.nth])) (by k_exc)) ?_);exact True.intro
   ·refine IP.allP_cons ⟨(fun h=>nomatch h),?_⟩ ?_
    ·(iterate 8 refine IP.AllZ_cons (by exact IP.g_ct (by (dsimp only[IP.nE,IP.nth])) rfl (by kts_exm)) ?_);exact True.intro
    exact True.intro
   ·exact True.intro
   ·refine IP.allP_cons (by exact IP.g_ib (by dsimp only[IP.nE,IP.nth]) ⟨by k_is,by k_is,by k_is,by k_is⟩) ?_;exact True.intro
end
