import Derived.Test.YtlehlgipbhfioaaGreatBc
import Derived.Deep.RegionWith
import Derived.RangeFuncRecord
import Derived.Deep.DeepCutAuto
import Derived.DeepKeys4
namespace Go.Proofs.YtlehlgipbhfioaaGreat
set_option maxHeartbeats 2000000
set_option maxRecDepth 100000
set_option linter.all false
open Go.RowKit Go.Maps Go.Proofs.Tryz
open Go.Value renaming int->ae,slice->aj,pointer->ak,ownBlock->aP
open Go.IntKind renaming i64->af
open Go.Obj renaming cells->aq,cells->aR
open Go.Ending renaming returned->aw
open Option renaming some->ah,none->ai
open List renaming range->aO,replicate->aN,length->bB
open Go.World renaming frozen?->bG,alloc->bC,cell?->aU,rowIs->bE,ownsRow->bD,setCell->aW,drewN->bF,grownBy->bH
open Go renaming Calls->aB,World->ay,Value->aA,TypeId->aE,maxLen->aY
open Bool renaming true->aK,false->aL
open Decidable renaming decide->aM
open Go.Act renaming put->aQ
section
def lk(l:Nat):Nat:=if l % 2=0 then l+1 else l-1
theorem Xu(l):l ^^^ 1=lk l:=by
 unfold lk;have h:(l ^^^ 1) % 2=(l % 2+1) % 2:=by have c:=Nat.testBit_xor l 1 0;simp only[Nat.testBit_zero] at c;obtain a|a:=xg (l ^^^ 1)<;>obtain b|b:=xg l<;>simp[a,b] at c⊢
 grind[Nat.xor_div_two]
theorem zP(l:Nat)(hl:l<1073741824):bits .xor .i32 (l:Int) 1=(lk l:Int):=by
 have c:(BitVec.ofInt 32 (l:Int)).toNat=l:=by rw[BitVec.ofInt_natCast,BitVec.toNat_ofNat];exact Nat.mod_eq_of_lt bO
 have d:(BitVec.ofInt 32 (1:Int)).toNat=1:=bS
 have f:∀n:Nat,n<2147483648->IntKind.i32.wrap (n:Int)=n:=λn e=>by simp[IntKind.wrap,IntKind.bits,IntKind.signed];omega
 show IntKind.i32.wrap ((BitVec.ofInt 32 (l:Int) ^^^ BitVec.ofInt 32 (1:Int)).toNat:Int)=_;grind[lk,BitVec.toNat_xor,Xu]
theorem Ur(w:ay)(l:Nat)(hl:l<1073741824):aB prog 177 #[.int .i32 l] w λe c=>e=aw (.int .i32 (lk l:Int))∧w=c:=by
 have d:=zP l hl;go_enter func177,ntmps177
 go_wp2;go_ret;exact⟨by simp,rfl⟩
theorem aay(w:ay)(l:Nat):aB prog 200 #[.int .i32 l] w λe d=>e=aw (.int .i32 ((l / 2:Nat):Int))∧w=d:=by
 have c:((l / 2:Nat):Int)=(l:Int) / 2:=bO
 go_enter func200,ntmps200
 go_wp2;go_ret;exact⟨by rw[c];rfl,rfl⟩
def Jh(v:Nat)(t:Int):Nat:=if t=-1 then 2*v+1 else 2*v
theorem Vd(w:ay)(v:Nat)(t:Int)(p:v<268435456):aB prog 131 #[.int .i32 v,.int .i8 t] w λe o=>e=aw (.int .i32 (Jh v t:Int))∧w=o:=by
 have h:=zP (2*v) bO;have g:lk (2*v)=2*v+1:=by grind[lk]
 rw[g,show((2*v:Nat):Int)=(v:Int)*2 by omega] at h;have f:Hid (Jh v t=_):=Jh.eq_1 v t;by_cases c:t=-1
 .subst c;go_enter func131,ntmps131
  go_wp2;go_ret;simp_all[Jh]
 have d:(t==-1)=aL:=by simpa using c
 go_enter func131,ntmps131
 go_wp2;go_ret;rw[f.out,cC c];exact⟨by simp;omega,rfl⟩
def jQ(x:Int):Nat:=if x<0 then 2*x.natAbs+1 else 2*x.natAbs
theorem Ji(w x)(p:-2000<=x)(q:x<=2000):aB prog 87 #[iz x] w λe h=>e=aw (.int .i32 (jQ x:Int))∧w=h:=by
 have o:Hid (jQ x=_):=jQ.eq_1 x;by_cases g:x<0
 .have d:aM (x<0)=aK:=cZ g;obtain⟨v,rfl⟩:∃v:Nat,x=-(v:Int):=⟨x.natAbs,by omega⟩
  have c:=Vd w v (-1) bO;have u:IntKind.i64.wrap (-(-(v:Int)))=(v:Int):=aew
  have f:IntKind.i32.wrap (v:Int)=v:=aez
  go_enter func87,ntmps87
  go_wp2_with(go_at_call 131;refine c.mono ?_;rintro e f ⟨rfl,rfl⟩);go_ret;simp_all[jQ,Jh]
 have d:aM (x<0)=aL:=cP g;obtain⟨v,rfl⟩:∃v:Nat,x=(v:Int):=⟨x.natAbs,by omega⟩
 have c:=Vd w v 1 bO;have f:IntKind.i32.wrap (v:Int)=v:=aez
 go_enter func87,ntmps87
 go_wp2_with(go_at_call 131;refine c.mono ?_;rintro e f ⟨rfl,rfl⟩);go_ret;rw[show jQ (v:Int)=2*v by grind[jQ]];exact⟨by simp[Jh],rfl⟩
structure Sv where
 n:Nat
 jg:List Int
 ws:List (List (Nat×Nat))
 cl:List (List Nat)
 dX:List Nat
 dK:List Nat
 seen:Nat
 hp:List Nat
 fin:Bool
namespace Sv
def val(s:Sv)(l:Nat):Int:=s.jg[l]?.getD 0
def gj(s:Sv)(l:Nat):List (Nat×Nat):=s.ws[l]?.getD []
def lits(s:Sv)(c:Nat):List Nat:=s.cl[c]?.getD []
def assign(s:Sv)(l:Nat):Sv:={s with jg:=(s.jg.set l 1).set (lk l) (-1),dX:=s.dX++[l]}
def jz(s:Sv)(l c o:Nat):Sv:={s with ws:=s.ws.set l (s.gj l++[(c,o)])}
def watch(s:Sv)(c:Nat):Sv:=(s.jz ((s.lits c)[0]?.getD 0) c ((s.lits c)[1]?.getD 0)).jz ((s.lits c)[1]?.getD 0) c ((s.lits c)[0]?.getD 0)
def addFact(s:Sv)(l:Nat):Sv:=if s.val l=-1 then {s with fin:=aK} else if s.val l=0 then s.assign l else s
def add(s:Sv)(ls:List Nat):Sv:=
 match ls with
 | []=>{s with cl:=s.cl++[ls],fin:=aK}
 | [l]=>Sv.addFact {s with cl:=s.cl++[ls]} l
 |_=>Sv.watch {s with cl:=s.cl++[ls]} (bB s.cl)
def free(s:Sv):List Nat->Nat->Option Nat
 | [],_=>ai
 |l::ls,i=>if s.val l≠-1 then ah i else free s ls (i+1)
def front(ls:List Nat)(gone:Nat):List Nat:=if ls[0]?.getD 0=gone then(ls.set 0 (ls[1]?.getD 0)).set 1 gone else ls
def gH(s:Sv)(c gone:Nat):Bool×Sv:=
 if s.val ((front (s.lits c) gone)[0]?.getD 0)=1 then(aL,{s with cl:=s.cl.set c (front (s.lits c) gone)})
 else match s.free ((front (s.lits c) gone).drop 2) 2 with
  |none=>(aL,{s with cl:=s.cl.set c (front (s.lits c) gone)})
  |some i=>(aK,Sv.jz {s with cl:=s.cl.set c (((front (s.lits c) gone).set 1 ((front (s.lits c) gone)[i]?.getD 0)).set i gone)} ((front (s.lits c) gone)[i]?.getD 0) c ((front (s.lits c) gone)[0]?.getD 0))
def jA(gone:Nat):List (Nat×Nat)->List (Nat×Nat)->Sv->Option Nat×Sv
 | [],stay,s=>(ai,{s with ws:=s.ws.set gone stay})
 |w::rest,stay,s=>
  if s.val w.2=1 then jA gone rest (stay++[w]) s
  else if(s.gH w.1 gone).1 then jA gone rest stay (s.gH w.1 gone).2
  else if(s.gH w.1 gone).2.val (((s.gH w.1 gone).2.lits w.1)[0]?.getD 0)=0 then
   jA gone rest (stay++[(w.1,((s.gH w.1 gone).2.lits w.1)[0]?.getD 0)]) ((s.gH w.1 gone).2.assign (((s.gH w.1 gone).2.lits w.1)[0]?.getD 0))
  else if(s.gH w.1 gone).2.val (((s.gH w.1 gone).2.lits w.1)[0]?.getD 0)=-1 then
   (ah w.1,{(s.gH w.1 gone).2 with ws:=(s.gH w.1 gone).2.ws.set gone (stay++[(w.1,((s.gH w.1 gone).2.lits w.1)[0]?.getD 0)]++rest)})
  else jA gone rest (stay++[(w.1,((s.gH w.1 gone).2.lits w.1)[0]?.getD 0)]) (s.gH w.1 gone).2
def visit(s:Sv)(gone:Nat):Option Nat×Sv:=jA gone (s.gj gone) [] s
def follow:Nat->Sv->Option (Option Nat×Sv)
 |0,_=>ai
 |f+1,s=>match s.dX[s.seen]? with
  |none=>ah (ai,s)
  |some l=>match Sv.visit {s with seen:=s.seen+1} (lk l) with
   |(ah c,s')=>ah (ah c,s')
   |(ai,s')=>follow f s'
def pop(s:Sv):Option Nat×Sv:=
 if bB s.hp<=1 then(ai,s)
 else(ah (s.hp[1]?.getD 0),{s with hp:=(s.hp.set 1 (s.hp[bB s.hp-1]?.getD 0)).take (bB s.hp-1)})
def Aa:Nat->Sv->Option (Bool×Sv)
 |0,_=>ai
 |f+1,s=>match s.pop with
  |(ai,s')=>ah (aL,s')
  |(ah v,s')=>if s'.val (2*v+1)=0 then ah (aK,Sv.assign {s' with dK:=s'.dK++[bB s'.dX]} (2*v+1)) else Aa f s'
def run:Nat->Sv->Option (Bool×Sv)
 |0,_=>ai
 |f+1,s=>if s.fin then ah (aL,s) else match follow (2*s.n+3) s with
  |none=>ai
  |some (ah _,s')=>if bB s'.dK=0 then run f {s' with fin:=aK} else ai
  |some (ai,s')=>match Aa (bB s'.hp+1) s' with
   |none=>ai
   |some (aL,s2)=>ah (aK,s2)
   |some (aK,s2)=>run f s2
def new(n:Nat):Sv:={n:=n,jg:=aN (2*n+2) 0,ws:=aN (2*n+2) [],cl:=[],dX:=[],dK:=[],seen:=0,hp:=aO (n+1),fin:=aL}
end Sv
def Cw(x:Nat):List Nat->List Nat
 | []=>[x]
 |y::ys=>if x<y then x::y::ys else if x=y then y::ys else y::Cw x ys
def jq(c:List Int):List Nat:=c.foldl (λacc x=>Cw (jQ x) acc) []
def mH(n:Nat)(cs:List (List Int)):Option (Option (List Bool)):=
 match Sv.run (n+2) ((cs.foldl (λs c=>s.add (jq c)) (Sv.new n))) with
 |none=>ai
 |some (aL,_)=>ah ai
 |some (aK,s)=>ah (ah ((aO n).map λi=>decide (s.val (2*(i+1))=1)))
inductive nW where
 |search|jg|wout|src|dX|dK|order|heap|nS|uA|yy|Wu|marks|levels
 |win (l:Nat)|clause (c:Nat)|crow (c:Nat)
deriving DecidableEq
structure Ad where
 fY:nW->Option Nat
 sp:nW->List aA
 src:List aA
 pl:List aA
 room:aA
 VR:aA
def Ad.jM(A:Ad)(r:nW)(len size:Nat):aA:=
 match A.fY r with
 |none=>aj ai 0 0
 |some b=>.slice (ah ⟨b,0,ai⟩) len (len+bB (A.sp r) / size)
def Ad.ptr(A:Ad)(r:nW):aA:=.pointer ((A.fY r).map λb=>⟨b,0,ai⟩)
def Bm:nW->aE
 | .search=>191| .jg=>184| .wout=>272| .src=>306| .dX=>192| .dK=>3| .order=>270| .heap=>237
 | .nS=>3| .uA=>268| .yy=>184| .Wu=>184| .marks=>4| .levels=>3| .win _=>274| .clause _=>182| .crow _=>192
def i32(n:Nat):aA:=.int .i32 n
def i64(n:Nat):aA:=ae af n
def iK(A:Ad)(l:List (Nat×Nat)):List aA:=l.flatMap λw=>[A.ptr (.clause w.1),i32 w.2]
def ql(A:Ad)(s:Sv):List aA:=
 [A.jM .jg (2*s.n+2) 1,A.jM .wout (2*s.n+2) 1,A.jM .src (s.n+1) 2,A.jM .dX (bB s.dX) 1,A.jM .dK (bB s.dK) 1,ae af s.seen,A.ptr .order,
   A.jM .yy (s.n+1) 1,A.jM .Wu (s.n+1) 1,ae af 0,aj ai 0 0,A.room,.bool aL,if s.fin then A.VR else ak ai,A.jM .marks (s.n+1) 1,aj ai 0 0,aj ai 0 0,A.jM .levels (s.n+1) 1,ae af 0]
def eA(A:Ad)(s:Sv):nW->List aA
 | .search=>ql A s
 | .jg=>s.jg.map λv=>.int .i8 v
 | .wout=>s.ws.mapIdx λl x=>A.jM (.win l) (bB x) 2
 | .src=>A.src
 | .dX=>s.dX.map i32++A.sp .dX
 | .dK=>s.dK.map i64++A.sp .dK
 | .order=>[A.jM .uA (s.n+1) 1,A.jM .heap (bB s.hp) 1,A.jM .nS (s.n+1) 1,.int .u64 1024]
 | .heap=>s.hp.map i32++A.sp .heap
 | .nS=>A.pl
 | .uA=>aN (s.n+1) (.int .u64 0)
 | .yy=>aN (s.n+1) (.int .i8 (-1))
 | .Wu=>aN (s.n+1) (.int .i8 (-1))
 | .marks=>aN (s.n+1) (.bool aL)
 | .levels=>aN (s.n+1) (ae af 0)
 | .win l=>iK A (s.gj l)++A.sp (.win l)
 | .clause c=>[A.jM (.crow c) (bB (s.lits c)) 1,ae af 0,aj ai 0 0,ae af 0,.bool aL,.bool aL]
 | .crow c=>(s.lits c).map i32++A.sp (.crow c)
def abi:nW->Bool
 | .dX| .dK| .win _| .clause _| .crow _=>aL
 |_=>aK
def wj:nW->Bool
 | .dX| .dK| .win _=>aK
 |_=>aL
def kg(s:Sv):nW->Nat
 | .dX=>bB s.dX| .dK=>bB s.dK| .win l=>bB (s.gj l)
 |_=>0
def lL:nW->Nat
 | .win _=>2
 |_=>1
def Bj(A:Ad)(s:Sv):nW->List aA
 | .dX=>s.dX.map i32| .dK=>s.dK.map i64| .win l=>iK A (s.gj l)
 |_=>[]
structure Mem(W:ay)(A:Ad)(s:Sv):Prop where
 inj:∀r r' b,A.fY r=ah b->A.fY r'=ah b->r=r'
 has:∀r b,A.fY r=ah b->W.heap[b]?=ah (aR (eA A s r).toArray (Bm r) (0,0))
 fix:∀r,abi r=aK->∃b,A.fY r=ah b
 cls:∀c,(∃b,A.fY (.clause c)=ah b)↔c<bB s.cl
 rows:∀c,(∃b,A.fY (.crow c)=ah b)↔c<bB s.cl
 win:∀l,A.fY (.win l)=ai->s.gj l=[]
 I3:A.fY .dX=ai->s.dX=[]
 I2:A.fY .dK=ai->s.dK=[]
 even:∀r,wj r=aK->∃k,bB (A.sp r)=k*lL r
 GF:∀r,wj r=aK->kg s r+bB (A.sp r) / lL r<=aY
 flat:A.sp .jg=[]∧A.sp .wout=[]∧A.sp .src=[]∧A.sp .nS=[]∧A.sp .uA=[]∧A.sp .yy=[]∧A.sp .Wu=[]∧A.sp .marks=[]∧A.sp .levels=[]
 lv:bB s.jg=2*s.n+2
 lw:bB s.ws=2*s.n+2
 ls:bB A.src=(s.n+1)*2
 lp:bB A.pl=s.n+1
 small:s.n<=2000
 DJ:∃p,A.VR=ak (ah p)
variable{W w8 w:ay}{A:Ad}{s:Sv}{r:nW}{b i n a j N k m:Nat}
def Mem.lt(h:Mem W A s)(c:A.fY r=ah b):b<W.heap.size:=(bY.1 (h.has r b c)).1
theorem Mem.row(h:Mem W A s)(c:A.fY r=ah b):bE W b (Bm r) (bB (eA A s r)) (λj=>(eA A s r)[j]?.getD undef):=
 ⟨_,h.has r b c,by simp,λj d=>by simp[d]⟩
theorem Mem.cell(h:Mem W A s)(c:A.fY r=ah b){v:aA}(d:(eA A s r)[i]?=ah v):aU W (az b i)=ah v:=by simp[aU,h.has r b c,d]
def Mem.frozen(h:Mem W A s)(c:A.fY r=ah b)(i):bG W (az b i)=aL:=(h.row c).frozen i
theorem jL(A l):bB (iK A l)=bB l*2:=by
 induction l with
 |nil=>rfl
 |cons c cs d=>grind[iK]
theorem Pd(A s)(c:wj r=aK):bB (Bj A s r)=kg s r*lL r:=by cases r<;>first|(simp[wj] at c;done)|(simp[Bj,kg,lL,jL])
theorem zS(A s)(c:wj r=aK):eA A s r=Bj A s r++A.sp r:=by cases r<;>first|(simp[wj] at c;done)|rfl
theorem Mem.owns(h:Mem W A s)(d:wj r=aK):bD W 0 (Bm r) (lL r) (A.jM r (kg s r) (lL r)) (kg s r) (Bj A s r):=by
 have hl:=Pd A s d;refine⟨hl,?_⟩;cases c:A.fY r with
 |none=>
  have o:kg s r=0:=by
   cases r<;>first|(simp[wj] at d;done)|skip
   .simp[kg,h.I3 c]
   .simp[kg,h.I2 c]
   next l=>simp[kg,h.win l c]
  grind[Ad.jM]
 |some b=>
  let⟨k,g⟩:=h.even r d;have e:=h.GF r d;have hs:0<lL r:=by cases r<;>simp[lL]
  have f:bB (A.sp r) / lL r=k:=by rw[g];exact Nat.mul_div_cancel _ hs
  rw[f] at e;refine cI ⟨b,kg s r+k,(eA A s r).toArray,by simp[Ad.jM,c,f],dt _,h.has r b c,by omega,e,?_,?_⟩
  .rw[zS A s d];simp[hl,g,rB]
  grind[zS]
def Ad.up(A:Ad)(r:nW)(b:Nat)(sp:List aA):Ad:={A with fY:=λr'=>if r'=r then ah b else A.fY r',sp:=λr'=>if r'=r then sp else A.sp r'}
variable{v8:aA}
theorem Mem.grown{O:Obj}(h:Mem W A s)(L:wj r=aK){news:List aA}(y:bD w8 0 (Bm r) (lL r) v8 (kg s r+1) (Bj A s r++news))(g:bH (bC W O) w8 (aP (A.jM r (kg s r) (lL r))))(f:aP v8=aP (A.jM r (kg s r) (lL r))∨∀k,aP v8=ah k->(bC W O).heap.size<=k):
  ∃b sp,v8=aj (ah (az b 0)) (kg s r+1) (kg s r+1+bB sp / lL r)∧(∃k,bB sp=k*lL r)∧kg s r+1+bB sp / lL r<=aY∧w8.heap[b]?=ah (aR (Bj A s r++news++sp).toArray (Bm r) (0,0))∧(A.fY r=ah b∨W.heap.size<=b)∧∀D d,D≠r->A.fY D=ah d->w8.heap[d]?=W.heap[d]?∧d≠b:=by
 have hs:0<lL r:=by cases r<;>simp[lL]
 obtain⟨_,J⟩|⟨b,o,c,e,_,p,G,H,I,E⟩:=y.2
 .omega
 have u:c.toList=(Bj A s r++news)++c.toList.drop ((kg s r+1)*lL r):=by rw[<-E,iT]
 have x:bB (c.toList.drop ((kg s r+1)*lL r))=(o-(kg s r+1))*lL r:=by grind[List.length_drop,Array.length_toList,Nat.sub_mul]
 have v:bB (c.toList.drop ((kg s r+1)*lL r)) / lL r=o-(kg s r+1):=by rw[x];exact Nat.mul_div_cancel _ hs
 have z:aP v8=ah b:=by rw[e];rfl
 have hold:aP (A.jM r (kg s r) (lL r))=A.fY r:=by unfold Ad.jM;cases A.fY r<;>rfl
 rw[z,hold] at f;have f:A.fY r=ah b∨W.heap.size<b:=f.imp (λe=>e.symm) (λe=>by have:=e b rfl;simp at this;omega);refine⟨b,c.toList.drop ((kg s r+1)*lL r),by rw[v,e];congr 1;omega,⟨_,x⟩,by rw[v];omega,?_,?_,λD d F q=>?_⟩
 .rw[p,<-u]
 .grind
 have B:=h.lt q;have C:A.fY r≠ah d:=λp=>F (h.inj _ _ _ q p);refine⟨(g.block d bX λp=>C (by rw[<-hold];exact p.symm)).trans (dB W O d B),?_⟩;grind
def Ad.gE(A:Ad)(k:Nat):Prop:=∃r,A.fY r=ah k
def Mem.keep{W':ay}(h:Mem W A s)(d:∀k,A.gE k->W'.heap[k]?=W.heap[k]?):Mem W' A s:=
 {h with has:=λr b c=>(d b ⟨r,c⟩).trans (h.has r b c)}
structure Step(w w':ay)(A A':Ad)(s':Sv):Prop where
 mem:Mem w' A' s'
 kept:bI A.gE w w'
 new:∀k,A'.gE k->A.gE k∨w.heap.size<=k
theorem Step.trans{q u:ay}{g h:Ad}{x p:Sv}(c:Step w q A g x)(d:Step q u g h p):Step w u A h p:=by
 have z:=c.kept.size;refine⟨d.mem,⟨d.kept.os.trans c.kept.os,d.kept.tape.trans c.kept.tape,d.kept.output.trans c.kept.output,bZ z d.kept.size,λk f o=>?_⟩,λk f=>?_⟩
 .refine(d.kept.block k (cQ f z) λv=>?_).trans (c.kept.block k f o);obtain e|e:=c.new k v
  .exact o e
  omega
 obtain e|e:=d.new k f
 .exact c.new k e
 exact cI bO
def Step.drew(h:Mem w A s)(m):Step w (bF w m) A A s:=⟨h.keep λ_ _=>rfl,(bW _ w).drewN m,λ_ c=>cB c⟩
def kI:=@Step.drew
theorem Mem.set{g:Sv}(h:Mem W A s)(o:A.fY r=ah b)(i v)(q:eA A g r=(eA A s r).set i v)(p:∀c,c≠r->eA A g c=eA A s c):∀c f,A.fY c=ah f->(aW W (az b i) v).heap[f]?=ah (aR (eA A g c).toArray (Bm c) (0,0)):=by
 intro c f d;by_cases e:c=r
 .subst e;rw[o] at d;cases d
  rw[q];have:=h.has c b o;grind[aW]
 rw[p c e,cO _ _ _ _ λu=>e (h.inj _ _ _ d cG)];exact h.has c f d
theorem BY{l:Nat}(h:l<2*n+2):lk l<2*n+2:=by unfold lk;split<;>omega
theorem Jj(w){A}{s}(h:Mem w A s)(f)(d:A.fY .search=ah f):
  aB prog 164 #[pz f] w λe o=>e=aw (iz (bB s.dK))∧w=o:=by
 have c4:=h.cell d (i:=4) rfl;have hs:∃a c,A.jM .dK (bB s.dK) 1=aj a (bB s.dK) c:=by
  unfold Ad.jM;cases g:A.fY .dK with
  |none=>rw[h.I2 g];exact⟨ai,0,rfl⟩
  |some b=>exact⟨_,_,rfl⟩
 obtain⟨a,c,hs⟩:=hs;rw[hs] at c4;go_enter func164,ntmps164
 go_wp2;go_ret;exact⟨rfl,rfl⟩
theorem Mem.two(h:Mem W A s){d:Nat}(c:A.fY .jg=ah d)(i j x y):
  Mem (aW (aW W (az d i) (.int .i8 x)) (az d j) (.int .i8 y)) A {s with jg:=(s.jg.set i x).set j y}:=by
 have g:Mem (aW W (az d i) (.int .i8 x)) A {s with jg:=s.jg.set i x}:=
  {h with has:=h.set c i (.int .i8 x) (by simp[eA,pW]) (λf e=>by cases f<;>first|rfl|exact absurd rfl e),lv:=by simp[h.lv]}
 exact {g with has:=g.set c j (.int .i8 y) (by simp[eA,pW]) (λf e=>by cases f<;>first|rfl|exact absurd rfl e),lv:=by simp[h.lv]}
theorem Mem.source(h:Mem W A s){g:Nat}(d:A.fY .src=ah g)(i x y):
  Mem (aW (aW W (az g i) x) (az g (i+1)) y) {A with src:=(A.src.set i x).set (i+1) y} s:=by
 have e:∀(S:List aA)(r:nW),r≠.src->eA {A with src:=S} s r=eA A s r:=λS r q=>by cases r<;>first|rfl|exact absurd rfl q
 refine {h with has:=λr b p=>?_,ls:=by simp[h.ls]};have c:A.fY r=ah b:=p;by_cases er:r=.src
 .subst er;rw[d] at c;cases c
  have:=h.has _ _ d;grind[aW,eA]
 have f:b≠g:=λo=>er (h.inj _ _ _ c (by rw[d,o]));rw[e _ r er,cO _ _ _ _ f,cO _ _ _ _ f];exact h.has r b c
theorem uz(h:Mem W A s)(o:wj r=aK):∃a c,A.jM r (kg s r) (lL r)=aj a (kg s r) c:=by
 obtain⟨e,p⟩|⟨g,d,f,e,_⟩:=(h.owns o).2
 .grind
 exact⟨_,_,e⟩
variable{sp:List aA}
theorem Mem.PK(h:Mem W A s){C:Nat}(p:A.fY .search=ah C)(l)(L:v8=aj (ah (az b 0)) (bB s.dX+1) (bB s.dX+1+bB sp / 1))(H:bB s.dX+1+bB sp / 1<=aY)(Q:w8.heap[b]?=ah (aR (s.dX.map i32++[i32 l]++sp).toArray 192 (0,0)))(G:∀B D,B≠.dX->A.fY B=ah D->w8.heap[D]?=W.heap[D]?∧D≠b):
  Mem (aW w8 (az C 3) v8) (A.up .dX b sp) {s with dX:=s.dX++[l]}:=by
 have J:C≠b:=(G .search C bS p).2;have d:∀r,r≠.dX->(A.up .dX b sp).fY r=A.fY r:=λr o=>cC o;have q:∀r,r≠.dX->(A.up .dX b sp).sp r=A.sp r:=λr o=>cC o;have v:∀r k z,r≠.dX->(A.up .dX b sp).jM r k z=A.jM r k z:=λr k z o=>by unfold Ad.jM;rw[d r o,q r o]
 have u:∀r,r≠.dX->(A.up .dX b sp).ptr r=A.ptr r:=λr o=>by unfold Ad.ptr;rw[d r o]
 have y:(A.up .dX b sp).jM .dX (bB s.dX+1) 1=v8:=by rw[L];simp[Ad.jM,Ad.up]
 have fS:∀r,r≠.dX->r≠.search->eA (A.up .dX b sp) {s with dX:=s.dX++[l]} r=eA A s r:=by
  intro r f E;cases r<;>first|exact absurd rfl f|exact absurd rfl E|skip
  all_goals simp only[eA]
  all_goals first|rfl|skip
  all_goals simp[v,q,iK,u]
  all_goals rfl
 have I:eA (A.up .dX b sp) {s with dX:=s.dX++[l]} .search=(eA A s .search).set 3 v8:=by simp only[eA,ql,cR,eD,y];simp[v,u];exact⟨rfl,rfl⟩
 refine⟨?_,?_,λr o=>?_,λc=>?_,λc=>?_,λl=>?_,λe=>?_,λe=>?_,λr F=>?_,λr F=>?_,?_,h.lv,h.lw,h.ls,h.lp,h.small,h.DJ⟩
 .intro r B b1 f E;by_cases g:r=.dX
  .grind[Ad.up,absurd]
  rw[d r g] at f;by_cases x:B=.dX
  .grind[Ad.up,absurd]
  rw[d B x] at E;exact h.inj _ _ _ f E
 .intro r b1 f;by_cases g:r=.dX
  .subst g;have x:b1=b:=by simpa[Ad.up] using f.symm
   grind[eA,Ad.up,Bm,Below.heap_setCell]
  rw[d r g] at f;by_cases x:r=.search
  .subst x;rw[p] at f;cases f
   have O:=(G .search C bS p).1.trans (h.has _ _ p);grind[aW]
  rw[fS r g x,cO _ _ _ _ λM=>x (h.inj _ _ _ f cG)];exact(G r b1 g f).1.trans (h.has r b1 f)
 .rw[d r (by rintro rfl;cases o)];exact h.fix r o
 .rw[d _ dH];exact h.cls c
 .rw[d _ dH];exact h.rows c
 .rw[d _ dH];exact h.win l
 .simp[Ad.up] at e
 .rw[d _ dH] at e;exact h.I2 e
 .by_cases g:r=.dX
  .simp_all[Ad.up,lL]
  rw[q r g];exact h.even r F
 .by_cases g:r=.dX
  .grind[Ad.up,lL,kg]
  rw[q r g];have:kg {s with dX:=s.dX++[l]} r=kg s r:=by
   cases r<;>first|exact absurd rfl g|rfl
  rw[this];exact h.GF r F
 have R:=h.flat;grind
theorem qF(w:ay)(a:aA)(c:aE):∀j u,[a][j]?=ah u->aU (bC w (aq #[a] c)) ((az w.heap.size 0:Addr).add j)=ah u:=by grind[Addr.add,aU,World.alloc_heap_new]
def YW:(prog.info? 192).map (λi=>(i.zero,i.size,i.bytes))=ah (ah (.int .i32 0),1,4):=bV
theorem zi(w){A}{s}(h:Mem w A s)(z)(y:A.fY .search=ah z)(l)(hl:l<2*s.n+2)(ao:bB s.dX<=1073741824)(OJ):
  aB prog 161 #[pz z,i32 l,.pointer OJ] w λe w'=>e=aw (.tuple #[])∧∃E,Step w w' A E (s.assign l)∧∀r,r≠.dX->E.fY r=A.fY r∧E.sp r=A.sp r:=by
 let⟨X,f⟩:=h.fix .jg rfl;let⟨V,d⟩:=h.fix .src rfl;have Y:=h.cell y (i:=12) (v:=.bool aL) rfl;have c0:=h.cell y (i:=0) rfl;simp only[Ad.jM,f,h.flat.1,dQ,gP,fH] at c0;have Q:=BY hl;have a0:l≠lk l:=by unfold lk;split<;>omega
 have a1:=h.small;have OP:=λm=>Ur (bF w m) l bO;have S:(eA A s .jg)[l]?=ah (.int .i8 (s.val l)):=by show(s.jg.map _)[l]?=_;rw[fN,bP (by rw[h.lv];exact hl)];simp[Sv.val,bP (show l<bB s.jg by rw[h.lv];exact hl)]
 have T:(eA A s .jg)[lk l]?=ah (.int .i8 (s.val (lk l))):=by show(s.jg.map _)[lk l]?=_;rw[fN,bP (by rw[h.lv];exact Q)];simp[Sv.val,bP (show lk l<bB s.jg by rw[h.lv];exact Q)]
 have v1:=h.cell f S;have v2:=h.cell f T;have g1:=h.frozen f l;have g2:=h.frozen f (lk l);have dl:(l:Int)<2*(s.n:Int)+2:=bO
 have Z:(lk l:Int)<2*(s.n:Int)+2:=bO
 have U:Hid (Mem w A s):=h;clear S T h;unfold i32;go_enter func161,ntmps161
 go_wp2
 go_cut[19] from 20 to 31 λ_ wx=>wx=aW (aW (bF w 1) (az X l) (.int .i8 1)) ⟨X,lk l,ai⟩ (.int .i8 (-1))
 case first=>
  go_region_with(go_at_call 177;refine(OP 1).mono ?_;rintro e w3 ⟨rfl,rfl⟩)
  all_goals
   try simp only[aQ,cD,cw,ct,cf,cN,cK]
   go_wp2;go_meet
   case rel=>rfl
 case rest=>
  have C:Mem wc A {s with jg:=(s.jg.set l 1).set (lk l) (-1)}:=by rw[hcut];exact(U.out.keep (W':=bF w 1) λ_ _=>rfl).two f l (lk l) 1 (-1)
  have S1:Step w wc A A {s with jg:=(s.jg.set l 1).set (lk l) (-1)}:=⟨C,by rw[hcut];exact(((bW _ w).drewN 1).setCell (p:=az X l) ⟨_,f⟩ _).setCell (p:=⟨X,lk l,ai⟩) ⟨_,f⟩ _,λ_ H=>cB H⟩
  have J:=bL S1;have c2:=C.cell y (i:=2) rfl;simp only[Ad.jM,d,C.flat.2.2.1,dQ,gP,fH] at c2;have VA:=λm=>aay (bF wc m) l;have LE:=λm=>Jj (bF wc m) (C.keep λ_ _=>rfl) z y;have a2:l / 2<s.n+1:=bO
  have ab:l / 2*2<bB A.src:=by rw[U.out.ls];omega
  have ac:l / 2*2+1<bB A.src:=by rw[U.out.ls];omega
  have x1:=C.cell d (i:=l / 2*2) (show(eA A _ .src)[l / 2*2]?=_ from bP ab);have x2:=C.cell d (i:=l / 2*2+1) (show(eA A _ .src)[l / 2*2+1]?=_ from bP ac);have y1:=C.frozen d (l / 2*2);have y2:=C.frozen d (l / 2*2+1);have I:=bL C;have dv:((l / 2:Nat):Int)<(s.n:Int)+1:=bO
  clear hcut C S1 v1 v2 g1 g2 OP c0 Y dl Z U;obtain⟨w1,rfl⟩:=bK wc;generalize ap:l / 2=v at *;generalize A.src[v*2]=z1 at *;generalize A.src[v*2+1]=z2 at *;apply_assumption
  go_wp2
  go_cut[32] from 33 to 42 λ_ wx=>wx=aW (aW (bF w1 1) ⟨V,v*2,ai⟩ (iz (bB s.dK))) ⟨V,v*2+1,ai⟩ (.pointer OJ)
  case first=>
   go_region_with(first|(go_at_call 200;refine(VA 1).mono ?_;rintro e w3 ⟨rfl,rfl⟩)|(go_at_call 164;refine(LE 1).mono ?_;rintro e w3 ⟨rfl,rfl⟩))
   all_goals
    try simp only[aQ,cD,cw,ct,cf,cN,cK]
    go_wp2;go_meet
    case rel=>rfl
  case rest=>
   have D:Mem wc {A with src:=(A.src.set (v*2) (iz (bB s.dK))).set (v*2+1) (.pointer OJ)} {s with jg:=(s.jg.set l 1).set (lk l) (-1)}:=by rw[hcut];exact(I.out.keep (W':=bF w1 1) λ_ _=>rfl).source d (v*2) _ _
   have S2:Step w wc A {A with src:=(A.src.set (v*2) (iz (bB s.dK))).set (v*2+1) (.pointer OJ)} {s with jg:=(s.jg.set l 1).set (lk l) (-1)}:=
    J.out.trans ⟨D,by rw[hcut];exact(((bW _ w1).drewN 1).setCell (p:=⟨V,v*2,ai⟩) ⟨_,d⟩ _).setCell (p:=⟨V,v*2+1,ai⟩) ⟨_,d⟩ _,λ_ H=>cB H⟩
   have q:∀r,({A with src:=(A.src.set (v*2) (iz (bB s.dK))).set (v*2+1) (.pointer OJ)}:Ad).fY r=A.fY r∧({A with src:=(A.src.set (v*2) (iz (bB s.dK))).set (v*2+1) (.pointer OJ)}:Ad).sp r=A.sp r:=λr=>⟨rfl,rfl⟩;generalize({A with src:=(A.src.set (v*2) (iz (bB s.dK))).set (v*2+1) (.pointer OJ)}:Ad)=B at D S2 q;have c:B.fY .search=ah z:=(q .search).1.trans y;clear hcut J I x1 x2 y1 y2 VA LE c2;have HT:Hid (∀(w8:ay)(O:Obj)(v8:aA),bD w8 0 192 1 v8 (bB s.dX+1) (s.dX.map i32++[i32 l])->bH (bC wc O) w8 (aP (B.jM .dX (bB s.dX) 1))->(aP v8=aP (B.jM .dX (bB s.dX) 1)∨aP v8=ah (bC wc O).heap.size)->
     cz w8 z 3 (B.jM .dX (bB s.dX) 1)∧bG w8 (az z 3)=aL∧∃b k,v8=aj (ah (az b 0)) (bB s.dX+1) k∧∃E,Step w (aW w8 (az z 3) v8) A E (s.assign l)∧∀r,r≠.dX->E.fY r=A.fY r∧E.sp r=A.sp r):=λw8 O v8 h1 h2 h3=>by
    let⟨b,sp,e1,_,e3,e4,M,e6⟩:=D.grown (r:=.dX) rfl (news:=[i32 l]) h1 h2 (h3.imp id λe k H=>by grind);have hs:=(e6 .search z bS c)
    have P:=D.PK c l e1 e3 e4 e6;refine⟨(cL (a:=az z 3) hs.1).trans (D.cell c (i:=3) rfl),(jZ (a:=az z 3) hs.1).trans (D.frozen c 3),b,_,e1,B.up .dX b sp,S2.trans ⟨P,?_,λk H=>?_⟩,λr R=>?_⟩
    .have K:bI B.gE wc w8:=gA ((bW _ wc).alloc O) h2 (λk H=>⟨.dX,by
      have:aP (B.jM .dX (bB s.dX) 1)=B.fY .dX:=by unfold Ad.jM;cases B.fY .dX<;>rfl
      rw[<-this];exact H⟩)
     exact K.setCell (p:=az z 3) ⟨_,c⟩ _
    .obtain⟨r,R⟩:=H;by_cases er:r=.dX
     .subst er;have:k=b:=by simpa[Ad.up] using R.symm
      subst this;obtain M|M:=M
      .exact cB ⟨_,M⟩
      exact cI M
     exact cB ⟨r,by simpa[Ad.up,er] using R⟩
    exact⟨(cC R).trans (q r).1,(cC R).trans (q r).2⟩
   have OW:Hid _:=D.owns (r:=.dX) rfl;let⟨ta,tc,F⟩:=uz D (r:=.dX) rfl;have c3:=D.cell c (i:=3) rfl;rw[show kg {s with jg:=(s.jg.set l 1).set (lk l) (-1)} .dX=bB s.dX from rfl,show lL .dX=1 from rfl] at F;rw[show B.jM .dX ({s with jg:=(s.jg.set l 1).set (lk l) (-1)}:Sv).dX.length 1=aj ta (bB s.dX) tc from F] at c3;have o:=bL F;let⟨i0,aa,ag,al,an⟩:=eB YW;clear D S2 q F;apply_assumption
   go_wp2_with(first|(at_builtin;refine dM ?_));delta Aside;have L:bD wc 0 192 1 (aj ta (bB s.dX) tc) (bB s.dX) (s.dX.map i32):=o.out▸OW.out;refine fX _ rfl _ _ 178 rfl 0 192 i0 _ 1 4 underlying178 aa ag al an rfl bS _ _ _ rfl (L.alloc _) (az _ 0) 1 1 [.int .i32 l] rfl rfl (qF wc _ _) cM cJ bO bQ ?_;intro v8 w8 u g _ G;let⟨d3,f3,b8,k8,ad,E,ST,x⟩:=HT.out w8 _ v8 u (by rw[o.out];exact g) (by rw[o.out];exact G);rw[o.out] at d3;subst ad;have HF:=bL (b9 ST x);clear u g G ST x HT OW L o c3
   go_wp2;refine⟨rfl,.tuple #[],by simp[results,results161],rfl,E,HF.out⟩
theorem qI{l c o:Nat}(hl:l<bB s.ws)(d):(s.jz l c o).gj d=if d=l then s.gj l++[(c,o)] else s.gj d:=by grind[Sv.jz,Sv.gj]
theorem Mem.Yf(h:Mem W A s){F:Nat}(y:A.fY .wout=ah F)(l c o)(hl:l<2*s.n+2)(V:v8=.slice (ah (az b 0)) (bB (s.gj l)+1) (bB (s.gj l)+1+bB sp / 2))(L:∃k,bB sp=k*2)(R:bB (s.gj l)+1+bB sp / 2<=aY)(U:w8.heap[b]?=ah (aR (iK A (s.gj l)++[A.ptr (.clause c),i32 o]++sp).toArray 274 (0,0)))(Q:∀E G,E≠.win l->A.fY E=ah G->w8.heap[G]?=W.heap[G]?∧G≠b):
  Mem (aW w8 (az F l) v8) (A.up (.win l) b sp) (s.jz l c o):=by
 have O:l<bB s.ws:=by rw[h.lw];exact hl
 have J:F≠b:=(Q .wout F dH y).2;have f:∀r,r≠.win l->(A.up (.win l) b sp).fY r=A.fY r:=λr q=>cC q;have v:∀r,r≠.win l->(A.up (.win l) b sp).sp r=A.sp r:=λr q=>cC q;have C:∀r k z,r≠.win l->(A.up (.win l) b sp).jM r k z=A.jM r k z:=λr k z q=>by unfold Ad.jM;rw[f r q,v r q]
 have B:∀r,r≠.win l->(A.up (.win l) b sp).ptr r=A.ptr r:=λr q=>by unfold Ad.ptr;rw[f r q]
 have T:(A.up (.win l) b sp).jM (.win l) (bB (s.gj l)+1) 2=v8:=by rw[V];simp[Ad.jM,Ad.up]
 have D:=qI (c:=c) (o:=o) O;have X:∀x,iK (A.up (.win l) b sp) x=iK A x:=λx=>by simp[iK,B]
 have fS:∀r,r≠.win l->r≠.wout->eA (A.up (.win l) b sp) (s.jz l c o) r=eA A s r:=by
  intro r p H;cases r<;>first|exact absurd rfl H|skip
  case win I=>grind[eA]
  all_goals simp only[eA,ql]
  all_goals first|rfl|skip
  all_goals simp[C,v,B,Sv.jz,Sv.lits]
  all_goals first|rfl|exact⟨rfl,rfl⟩
 have S:eA (A.up (.win l) b sp) (s.jz l c o) .wout=(eA A s .wout).set l v8:=by
  simp only[eA,Sv.jz];apply iv;intro j;by_cases e:l=j
  .grind
  grind
 refine⟨?_,?_,λr q=>?_,λd=>?_,λd=>?_,λI e=>?_,λe=>?_,λe=>?_,λr M=>?_,λr M=>?_,?_,h.lv,by simp[Sv.jz,h.lw],h.ls,h.lp,h.small,h.DJ⟩
 .intro r E b1 p H;by_cases g:r=.win l
  .grind[Ad.up,absurd]
  rw[f r g] at p;by_cases u:E=.win l
  .grind[Ad.up,absurd]
  rw[f E u] at H;exact h.inj _ _ _ p H
 .intro r b1 p;by_cases g:r=.win l
  .subst g;have u:b1=b:=by simpa[Ad.up] using p.symm
   subst u;rw[cO _ _ _ _ J.symm,U];grind[eA,Bm,Ad.up,iK]
  rw[f r g] at p;by_cases u:r=.wout
  .subst u;rw[y] at p;cases p
   have Z:=(Q .wout F dH y).1.trans (h.has _ _ y);grind[aW]
  rw[fS r g u,cO _ _ _ _ λY=>u (h.inj _ _ _ p cG)];exact(Q r b1 g p).1.trans (h.has r b1 p)
 .rw[f r (by rintro rfl;cases q)];exact h.fix r q
 .rw[f _ dH];exact h.cls d
 .rw[f _ dH];exact h.rows d
 .by_cases u:I=l
  .subst u;simp[Ad.up] at e
  rw[f _ cG] at e;rw[D,cC u];exact h.win I e
 .rw[f _ dH] at e;exact h.I3 e
 .rw[f _ dH] at e;exact h.I2 e
 .by_cases g:r=.win l
  .subst g;simpa[Ad.up,lL] using L
  rw[v r g];exact h.even r M
 .by_cases g:r=.win l
  .grind[kg,lL,Ad.up]
  rw[v r g];have:kg (s.jz l c o) r=kg s r:=by
   cases r<;>first|rfl|skip
   case win I=>grind[kg]
  rw[this];exact h.GF r M
 have hf:=h.flat;grind
def oY(w:ay)(ca:Option Addr)(cls:List Int):Prop:=
 cls=[]∨∃g off,ca=ah ⟨g,off,ai⟩∧∀(j:Nat)(c:Int),cls[j]?=ah c->aU w ⟨g,off+j,ai⟩=ah (ae af c)
theorem oY.below{q:ay}{f:Option Addr}{cls:List Int}(v:Below w.heap.size w q)(h:oY w f cls):oY q f cls:=by
 obtain e|⟨g,d,u,o⟩:=h
 .exact cB e
 exact cI ⟨g,d,u,λj c p=>(v.cell (World.block_lt_of_cell? w _ (o j c p))).trans (o j c p)⟩
def Ii:laidOutB prog=aK:=bV
def adt:(152:aE)<prog.types.size:=ft bV
def SQ:prog.cellsOf 152=6:=bV
def Fk:prog.cellsOf 96=4:=bV
def xw:prog.cellsOf 3=1:=bV
def Fj:prog.cellsOf 9=1:=bV
def SP:prog.keyType 152=aK:=bV
def aaE:prog.keyTypeAt 3 152=aK:=bV
theorem Ih:Keyed prog 152:=Dr (deep_law_laid Ii (m:=3) bO adt aaE (by rw[underlying152]))
def Iu:Keyed prog 9:=string_keyed underlying9
def A7(w):(zeroValue 3).run prog w=.ok (iz 0) w:=bV
structure Tm where
 name:ByteArray
 args:List Nat
deriving DecidableEq
def Tm.arg(t:Tm)(i:Nat):Nat:=t.args.getD i 0
def gu(t:Tm):List aA:=[.string t.name,ae af (bB t.args),ae af (t.arg 0:Int),ae af (t.arg 1:Int),ae af (t.arg 2:Int),ae af (t.arg 3:Int)]
def jB(t:Tm):aA:=.agg (gu t).toArray
structure Tm.ok(t:Tm):Prop where
 name:t.name.size<=6
 args:bB t.args<=4
 small:∀a∈t.args,a<1000
variable{t:Tm}
theorem Tm.ok.arg(h:t.ok)(i):t.arg i<1000:=by
 unfold Tm.arg;rw[px];cases e:t.args[i]? with
 |none=>simp
 |some a=>simpa using h.small a (cH e)
def uj(h:a<100000):(Lit.int .i64 a).wf=aK:=nw bO
theorem Gp(t):(jB t).formed prog 152=aK:=by simp[jB,gu,Value.formed,underlying152,SQ]
theorem QY(t)(h:t.ok):∃kl,keyOf prog 152 (jB t)=ah kl:=by
 have f:t.name.size<=aY:=bZ h.name bS;have g:(Lit.int .i64 (bB t.args)).wf=aK:=uj (by have:=h.args;omega);have g0:(Lit.int .i64 (t.arg 0:Int)).wf=aK:=uj (by have:=h.arg 0;omega);have c:(Lit.int .i64 (t.arg 1:Int)).wf=aK:=uj (by have:=h.arg 1;omega);have d:(Lit.int .i64 (t.arg 2:Int)).wf=aK:=uj (by have:=h.arg 2;omega);have e:(Lit.int .i64 (t.arg 3:Int)).wf=aK:=uj (by have:=h.arg 3;omega);unfold keyOf;rw[underlying152];simp only[SP,Gp];obtain⟨m,o⟩:∃m,prog.types.size+1=m+3:=⟨prog.types.size-2,by simp_all⟩
 rw[o];have p:aO 4=[0,1,2,3]:=rfl;simp[Program.keyLits,underlying152,underlying96,underlying3,underlying9,SQ,Fk,xw,Fj,jB,gu,Value.cells,p,f,g,g0,c,d,e]
namespace Cc
structure Bd(l:List Tm):Prop where
 args:∀(n:Nat)(t:Tm),l[n]?=ah t->∀a∈t.args,a<bB l
 four:∀t∈l,bB t.args<=4
 one:∀t∈l,∀u∈l,t.name=u.name->bB t.args=bB u.args
 nodup:l.Nodup
def ar(lo:Nat->Nat)(t:Tm)(k:Nat):Nat:=match t.args[k]? with
 |some a=>lo a
 |none=>0
def sg(lo:Nat->Nat)(t:Tm):Tm:=⟨t.name,[ar lo t 0,ar lo t 1,ar lo t 2,ar lo t 3]⟩
theorem wE(lo t k)(c:k<4):(sg lo t).arg k=ar lo t k:=by obtain rfl|rfl|rfl|rfl:=(by omega:k=0∨k=1∨k=2∨k=3)<;>rfl
variable{lo lo':Nat->Nat}
theorem Tp(h:∀a∈t.args,lo a=lo' a):sg lo t=sg lo' t:=by grind[ar,sg]
inductive Cg (l:List Tm) (P:List (Nat×Nat)):Nat->Nat->Prop
 |told {a b:Nat}:(a,b)∈P->a<bB l->b<bB l->Cg l P a b
 |refl {a:Nat}:a<bB l->Cg l P a a
 |symm {a b:Nat}:Cg l P a b->Cg l P b a
 |trans {a b c:Nat}:Cg l P a b->Cg l P b c->Cg l P a c
 |MM {i j:Nat} {t u:Tm}:l[i]?=ah t->l[j]?=ah u->t.name=u.name->bB t.args=bB u.args->(∀k a b:Nat,t.args[k]?=ah a->u.args[k]?=ah b->Cg l P a b)->Cg l P i j
variable{l:List Tm}{P td todo:List (Nat×Nat)}
theorem Cg.mono{Q:List (Nat×Nat)}(h:∀a b,(a,b)∈P->a<bB l->b<bB l->Cg l Q a b)(p:Cg l P i j):Cg l Q i j:=by
 induction p with
 |told x d v=>grind
 |refl d=>exact .refl d
 |symm _ c=>exact .symm c
 |trans _ _ q u=>exact .trans q u
 |MM e f g o _ c=>exact .MM e f g o c
theorem Cg.lt(d:Cg l P i j):i<bB l∧j<bB l:=by
 induction d with
 |told _ c g=>omega
 |refl c=>omega
 |symm _ p=>omega
 |trans _ _ h o=>omega
 |MM e f _ _ _ _=>grind
inductive Ev (N:Nat) (lo:Nat->Nat) (todo:List (Nat×Nat)):Nat->Nat->Prop
 |same {i j:Nat}:i<N->j<N->lo i=lo j->Ev N lo todo i j
 |todo {i j:Nat}:(i,j)∈todo->Ev N lo todo i j
 |symm {i j:Nat}:Ev N lo todo i j->Ev N lo todo j i
 |trans {i j k:Nat}:Ev N lo todo i j->Ev N lo todo j k->Ev N lo todo i k
theorem Ev.mono{c:List (Nat×Nat)}(f:∀i j,i<N->j<N->lo i=lo j->lo' i=lo' j)(u:∀i j,(i,j)∈td->Ev N lo' c i j)(h:Ev N lo td i j):Ev N lo' c i j:=by
 induction h with
 |same d e g=>exact .same d e (f _ _ d e g)
 |todo v=>grind
 |symm _ q=>exact .symm q
 |trans _ _ o p=>exact .trans o p
theorem Ev.more(ps)(h:Ev N lo td i j):Ev N lo (td++ps) i j:=
 h.mono (λ_ _ _ _ e=>e) λ_ _ c=>.todo (dh _ c)
theorem Ev.done(h:Ev N lo [] i j):lo i=lo j:=by
 induction h with
 |same _ _ c=>exact c
 |todo d=>cases d
 |symm _ e=>exact e.symm
 |trans _ _ f g=>omega
def uc(l:List Tm)(lo:Nat->Nat)(r n:Nat):Nat:=match l[n]? with
 |some t=>t.args.countP λa=>lo a==r
 |none=>0
structure Inv(l:List Tm)(P:List (Nat×Nat))(lo:Nat->Nat)(us:Nat->List Nat)(kn:Tm->Option Nat)(todo:List (Nat×Nat))(pend:List Nat):Prop where
 le:∀i,i<bB l->lo i<=i
 idem:∀i,i<bB l->lo (lo i)=lo i
 inr:∀p∈todo,p.1<bB l∧p.2<bB l
 pin:∀n∈pend,n<bB l
 ld:∀r,r<bB l->lo r=r->∀n,(us r).count n=uc l lo r n
 keys:∀(n:Nat)(t:Tm),l[n]?=ah t->n∉pend->∃m,kn (sg lo t)=ah m∧Ev (bB l) lo todo n m
 Pq:∀(s:Tm)(m:Nat),kn s=ah m->∃u:Tm,l[m]?=ah u∧u.name=s.name∧∀k,k<4->(∀a,u.args[k]?=ah a->s.arg k<bB l∧lo a=lo (s.arg k))∧(u.args[k]?=ai->s.arg k=0)
 snd:∀i j,i<bB l->j<bB l->lo i=lo j->Cg l P i j
 SH:∀p∈todo,Cg l P p.1 p.2
 KX:∀p∈P,p.1<bB l∧p.2<bB l∧Ev (bB l) lo todo p.1 p.2
variable{us:Nat->List Nat}{kn:Tm->Option Nat}{pend:List Nat}
theorem Inv.used(h:Inv l P lo us kn todo pend)(g:l[n]?=ah t)(e:a∈t.args){r:Nat}(d:r<bB l)(c:lo r=r)(hl:lo a=r):n∈us r:=by have f:=h.ld r d c n;grind[uc]
theorem ab7(c:Bd l)(lo r n):uc l lo r n<=4:=by
 unfold uc;cases e:l[n]? with
 |none=>simp
 |some t=>exact bZ List.countP_le_length (c.four t (cH e))
theorem Gb(N:Nat):∀c:List Nat,(∀x∈c,x<N)->(∀n,c.count n<=4)->bB c<=4*N:=by
 induction N with
 |zero=>
  intro c h _;cases c with
  |nil=>simp
  |cons x c=>exact absurd (h x bQ) bO
 |succ N d=>
  intro c h e;have f:=d (c.filter λx=>!(x==N)) (λx o=>by grind) λn=>bZ (List.Sublist.count_le n (List.filter_sublist)) (e n)
  have g:bB c=bB (c.filter λx=>!(x==N))+c.count N:=by
   clear h e f d
   induction c with
   |nil=>rfl
   |cons x c d=>grind
  grind
theorem Inv.uin(h:Inv l P lo us kn todo pend){r:Nat}(d:r<bB l)(c:lo r=r):∀n∈us r,n<bB l:=by intro n f;have e:=h.ld r d c n;grind[uc]
theorem Inv.Xy(e:Bd l)(h:Inv l P lo us kn todo pend){r:Nat}(d:r<bB l)(c:lo r=r):bB (us r)<=4*bB l:=
 Gb _ _ (h.uin d c) λn=>by rw[h.ld r d c n];exact ab7 e _ _ _
theorem Inv.drop(h:Inv l P lo us kn (todo++[(a,b)]) [])(f:lo a=lo b):Inv l P lo us kn todo []:=by
 have d:=h.inr (a,b) bQ;have E:∀{i j},Ev (bB l) lo (todo++[(a,b)]) i j->Ev (bB l) lo todo i j:=λx=>x.mono (λ_ _ _ _ e=>e) (λi j c=>by
  obtain c|c:=cU.1 c
  .exact .todo c
  simp at c;obtain⟨rfl,rfl⟩:=c;exact .same d.1 d.2 f)
 exact⟨h.le,h.idem,λp hp=>h.inr p (dh _ hp),h.pin,h.ld,λn t o g=>by let⟨m,q,u⟩:=h.keys n t o g;grind,h.Pq,h.snd,λp hp=>h.SH p (dh _ hp),λp hp=>⟨(h.KX p hp).1,(h.KX p hp).2.1,E (h.KX p hp).2.2⟩⟩
theorem Inv.join{Q:Nat->List Nat}{p:Nat×Nat}(hb:Bd l)(h:Inv l P lo us kn (todo++[p]) []){low c:Nat}(hp:p=(a,b)∨p=(b,a))(H:lo a=low)(T:lo b=c)(ac:low<c)(g:∀i,i<bB l->lo' i=if lo i=c then low else lo i)(L:∀r,r<bB l->Q r=if r=low then us low++us c else us r):Inv l P lo' Q kn todo (us c):=by
 have ab:=h.inr p bQ;have d:a<bB l∧b<bB l:=cG
 have S:Cg l P a b:=by
  have:=h.SH p bQ;obtain rfl|rfl:=hp
  .exact this
  exact this.symm
 have O:lo low=low:=by rw[<-H];exact h.idem a d.1
 have o:lo c=c:=by rw[<-T];exact h.idem b d.2
 have y:c<bB l:=by have:=h.le b d.2;omega
 have U:low<bB l:=bO
 have Y:∀i j,i<bB l->j<bB l->lo i=lo j->lo' i=lo' j:=λi j f z e=>by rw[g i f,g j z,e]
 have M:lo' a=lo' b:=cG
 have E:∀{i j},Ev (bB l) lo (todo++[p]) i j->Ev (bB l) lo' todo i j:=λx=>x.mono Y (λi j B=>by
  obtain B|B:=cU.1 B
  .exact .todo B
  simp at B;obtain rfl|rfl:=hp
  .obtain⟨rfl,rfl⟩:=Prod.mk.inj B;exact .same d.1 d.2 M
  obtain⟨rfl,rfl⟩:=Prod.mk.inj B;exact .same d.2 d.1 M.symm)
 have I:∀{n:Nat}{t:Tm},l[n]?=ah t->∀a∈t.args,a<bB l:=λv=>hb.args _ _ v;refine⟨?_,?_,λp hp=>h.inr p (dh _ hp),λn V=>h.uin y o n V,?_,?_,?_,?_,λp hp=>h.SH p (dh _ hp),λp hp=>⟨(h.KX p hp).1,(h.KX p hp).2.1,E (h.KX p hp).2.2⟩⟩
 .intro i f;rw[g i f];have:=h.le i f
  split<;>omega
 .intro i f;have aa:=h.le i f;rw[g i f]
  split
  .grind
  next C=>rw[g (lo i) bO,h.idem i f,cC C]
 .intro r R X n;have D:=g r R;rw[X] at D;by_cases e:r=low
  .subst e;rw[L r R,cY rfl,Sf,h.ld r U O n,h.ld c y o n];unfold uc;cases v:l[n]? with
   |none=>rfl
   |some t=>
    have:∀F:List Nat,(∀a∈F,a<bB l)->F.countP (λa=>lo a==r)+F.countP (λa=>lo a==c)=F.countP (λa=>lo' a==r):=by
     intro F
     induction F with
     |nil=>intro _;rfl
     |cons x F ih=>intro Z;have f:=ih (λa H=>Z a (by simp[H]));simp only[As];grind
    exact this t.args (I v)
  have C:lo r≠c:=λx=>by grind
  rw[cC C] at D;rw[L r R,cC e,h.ld r R D.symm n];unfold uc;cases v:l[n]? with
  |none=>rfl
  |some t=>refine List.countP_congr λx Z=>?_;grind
 .intro n t v V;let⟨m,h1,h2⟩:=h.keys n t v bQ;have:sg lo' t=sg lo t:=Tp (λa H=>by
   rw[g a (I v a H),cC λx=>V (h.used v H y o x)])
  grind
 .intro s m hs;let⟨u,h1,h2,h3⟩:=h.Pq s m hs;grind
 intro i j f z e;rw[g i f,g j z] at e;have yq:∀i,i<bB l->lo i=low->Cg l P i a:=λi f x=>h.snd i a f d.1 bO;have q:∀i,i<bB l->lo i=c->Cg l P i a:=λi f x=>(h.snd i b f d.2 bO).trans S.symm;by_cases J:lo i=c
 .by_cases G:lo j=c
  .exact(q i f J).trans (q j z G).symm
  rw[cY J,cC G] at e;exact(q i f J).trans (yq j z e.symm).symm
 by_cases G:lo j=c
 .rw[cC J,cY G] at e;exact(yq i f e).trans (q j z G).symm
 rw[cC J,cC G] at e;exact h.snd i j f z e
theorem vP(h:t.args[k]?=ah a):ar lo t k=lo a:=by simp[ar,h]
theorem Ge{e g:Type}{c:List e}{d:List g}(h:bB c=bB d){a:e}(f:c[k]?=ah a):∃b,d[k]?=ah b:=by have:=(bU.1 f).1;simp_all
theorem Inv.alike(f:Bd l)(h:Inv l P lo us kn todo pend)(g:l[n]?=ah t)(y:kn (sg lo t)=ah m):Cg l P n m:=by
 let⟨u,o,v,x⟩:=h.Pq _ _ y;have hl:=f.one t (cH g) u (cH o) v.symm;refine .MM g o v.symm hl λk a b p d=>?_;have e:k<4:=by have:=(bU.1 p).1;have:=f.four t (cH g);omega
 let⟨z,q⟩:=(x k e).1 b d;have c:=f.args n t g a (cH p);rw[wE _ _ _ e,vP p] at z q;rw[h.idem a c] at q;exact h.snd a b c (f.args m u o b (cH d)) q.symm
theorem Inv.yO(q:Bd l)(h:Inv l P lo us kn todo (n::pend))(f:l[n]?=ah t)(d:kn (sg lo t)=ah m):Inv l P lo us kn (todo++[(n,m)]) pend:=by
 have v:=h.alike q f d;refine⟨h.le,h.idem,?_,λx z=>h.pin x (by simp[z]),h.ld,?_,h.Pq,h.snd,?_,λp hp=>⟨(h.KX p hp).1,(h.KX p hp).2.1,(h.KX p hp).2.2.more _⟩⟩
 .intro p hp;obtain hp|hp:=cU.1 hp
  .exact h.inr p hp
  simp at hp;subst hp;exact v.lt
 .intro i u c y;by_cases e:i=n
  .subst e;rw[f] at c;cases c
   exact⟨m,d,.todo bQ⟩
  let⟨B,g,o⟩:=h.keys i u c (by simp[e,y]);exact⟨B,g,o.more _⟩
 intro p hp;obtain hp|hp:=cU.1 hp
 .exact h.SH p hp
 grind
theorem Inv.new{f:Tm->Option Nat}(B:Bd l)(h:Inv l P lo us kn todo (n::pend))(o:l[n]?=ah t)(y:kn (sg lo t)=ai)(g:∀s,f s=if s=sg lo t then ah n else kn s):Inv l P lo us f (todo++[(n,n)]) pend:=by
 have D:n<bB l:=cG
 refine⟨h.le,h.idem,?_,λx E=>h.pin x (by simp[E]),h.ld,?_,?_,h.snd,?_,λp hp=>⟨(h.KX p hp).1,(h.KX p hp).2.1,(h.KX p hp).2.2.more _⟩⟩
 .intro p hp;obtain hp|hp:=cU.1 hp
  .exact h.inr p hp
  grind
 .intro i u q C;by_cases e:i=n
  .subst e;rw[o] at q;cases q
   exact⟨i,by grind,.todo bQ⟩
  let⟨F,G,z⟩:=h.keys i u q (by simp[e,C]);refine⟨F,?_,z.more _⟩;grind
 .intro s m hs;rw[g] at hs;by_cases e:s=sg lo t
  .rw[cY e] at hs;cases hs
   refine⟨t,o,by rw[e];rfl,λk y=>?_⟩;rw[e,wE _ _ _ y];refine⟨λa v=>?_,λc=>by simp[ar,c]⟩;rw[vP v];have d:=B.args n t o a (cH v);have:=h.le a d;exact⟨by omega,(h.idem a d).symm⟩
  rw[cC e] at hs;exact h.Pq s m hs
 intro p hp;obtain hp|hp:=cU.1 hp
 .exact h.SH p hp
 simp at hp;subst hp;exact .refl D
theorem Inv.tell(h:Inv l P lo us kn [] [])(f:a<bB l)(g:b<bB l):Inv l (P++[(a,b)]) lo us kn [(a,b)] []:=by
 have M:∀{i j},Cg l P i j->Cg l (P++[(a,b)]) i j:=λx=>x.mono λ_ _ u c d=>.told (dh _ u) c d;refine⟨h.le,h.idem,λp hp=>by grind,h.pin,h.ld,λn t y v=>?_,h.Pq,λi j o q e=>M (h.snd i j o q e),λp hp=>?_,λp hp=>?_⟩
 .let⟨m,c,d⟩:=h.keys n t y v;exact⟨m,c,d.more [(a,b)]⟩
 .simp at hp;subst hp;exact .told bQ f g
 obtain hp|hp:=cU.1 hp
 .exact⟨(h.KX p hp).1,(h.KX p hp).2.1,(h.KX p hp).2.2.more [(a,b)]⟩
 simp at hp;subst hp;exact⟨f,g,.todo bQ⟩
theorem Inv.fin(h:Inv l P lo us kn [] [])(c:i<bB l)(d:j<bB l):lo i=lo j↔Cg l P i j:=by
 refine⟨h.snd i j c d,λo=>?_⟩;clear c d
 induction o with
 |told p _ _=>exact(h.KX _ p).2.2.done
 |refl _=>rfl
 |symm _ e=>exact e.symm
 |trans _ _ x y=>omega
 |@MM i j t u f g q v _ e=>
  have:sg lo t=sg lo u:=by grind[ar,sg,List.getElem?_eq_none_iff,Ge]
  let⟨m,k1,k2⟩:=h.keys i t f bQ;let⟨z,k3,k4⟩:=h.keys j u g bQ;rw[this,k3] at k1;cases k1
  exact k2.done.trans k4.done.symm
theorem Inv.start(h:Bd l)(f:∀r,r<bB l->∀n,(us r).count n=uc l id r n)(d:∀s m,kn s=ah m↔∃t,l[m]?=ah t∧sg id t=s):Inv l [] id us kn [] []:=by
 refine⟨λi _=>bT _,λ_ _=>rfl,by simp,by simp,λr u _ n=>f r u n,?_,?_,?_,by simp,by simp⟩
 .intro n t c _;exact⟨n,(d _ _).2 ⟨t,c,rfl⟩,.same (bU.1 c).1 (bU.1 c).1 rfl⟩
 .intro s m hs;obtain⟨t,c,rfl⟩:=(d s m).1 hs;refine⟨t,c,rfl,λk p=>?_⟩;rw[wE _ _ _ p];refine⟨λa g=>?_,λq=>by simp[ar,q]⟩;rw[vP g];exact⟨h.args m t c a (cH g),rfl⟩
 intro i j o _ e;have:i=j:=e;subst this;exact .refl o
theorem aaM(f:Bd l){u:Tm}(g:l[i]?=ah t)(o:l[j]?=ah u)(h:sg id t=sg id u):i=j:=by
 have p:t.name=u.name:=by have:=congrArg Tm.name h;exact this
 have hl:=f.one t (cH g) u (cH o) p;have q:=f.four t (cH g);have c:∀k,k<4->ar id t k=ar id u k:=λk c=>by rw[<-wE id t k c,<-wE id u k c,h]
 have v:t.args=u.args:=by apply Xf hl;intro k d e;have:=c k bO;rw[vP (bP d),vP (bP e)] at this;exact this
 have:t=u:=by cases t;cases u;simp_all
 subst this;have d:=(bU.1 g)
 have e:=(bU.1 o)
 exact(Xd f.nodup).1 (d.2.trans e.2.symm)
end Cc
end
def mL(w:ay)(k:aE)(b:Nat)(D:DataW Unit):Prop:=w.ownsMap prog k (plainElem prog 3) b (Maps.size D) D
variable{w w' W:ay}{k:aE}{b n base p nb fb i g j r d:Nat}{D:DataW Unit}
theorem jP(h:w.ownsMap prog k (plainElem prog 3) b n D):mL w k b D:=by obtain⟨es,a,c,F,hs,rfl⟩:=h;exact⟨es,a,c,F,by simp[Maps.size,length_sorted],rfl⟩
noncomputable def se(t:Tm):Lit:=(keyOf prog 152 (jB t)).getD (.bool aL)
variable{t u:Tm}
theorem vK(h:t.ok):keyOf prog 152 (jB t)=ah (se t):=by grind[se,QY]
theorem Ke{a b:List Nat}(hl:bB a=bB b)(f:bB a<=4)(h:∀i,i<4->a.getD i 0=b.getD i 0):a=b:=by apply Xf hl;intro i c e;have:=h i bO;grind
theorem MI(e:t.ok)(h:jB t=jB u):t=u:=by
 obtain⟨n,a⟩:=t;obtain⟨m,b⟩:=u;simp[jB,gu,Tm.arg] at h;obtain⟨c,f,q,v,x,y⟩:=h;have hl:bB a=bB b:=bO
 have:a=b:=Ke hl e.args (λi z=>by obtain rfl|rfl|rfl|rfl:=(by omega:i=0∨i=1∨i=2∨i=3)<;>simp only[px]<;>omega)
 rw[c,this]
theorem JQ(a:t.ok)(c:u.ok)(h:se t=se u):t=u:=
 MI a (Ih.inj (vK a) (by rw[h];exact vK c))
def rG(n:ByteArray):Lit:=.string n.data.toList
def vw{n:ByteArray}(h:n.size<=6):keyOf prog 9 (.string n)=ah (rG n):=WideMaps.keyOf_string_mk underlying9 (bZ h bS)
theorem Ir{n m:ByteArray}(h:rG n=rG m):n=m:=WideShapes.bytes_inj (by simpa[rG] using h)
def qC(l:List Tm)(t:Tm):Option Nat:=l.findIdx? λx=>decide (x=t)
def fst(l:List Tm)(n:ByteArray):Option Nat:=l.findIdx? λx=>decide (x.name=n)
def Cv(l:List Tm)(i:Nat):Bool:=match l[i]? with
 |some t=>decide (fst l t.name=ah i)
 |none=>aL
def DL(l:List Tm):Nat:=bB ((aO (bB l)).filter (Cv l))
theorem Zt(l):DL l<=bB l:=by grind[Cv,aO,DL]
def kP(D:DataW Unit)(kl:Lit)(o:Option Nat):Prop:=Maps.has D kl=o.isSome∧D.atKey kl (.lit (.int .i64 0))=.lit (.int .i64 ((o.getD 0:Nat):Int))
variable{kl kl':Lit}
def kP.uC(a:IsMap D)(c:WideAt.IsKeyLit kl)(n:Nat):kP (D.put kl (.lit (.int .i64 n))) kl (ah n):=
 ⟨has_put_same a c _,atKey_put_same a c _ _⟩
def tS:=@kP.uC
variable{o:Option Nat}
theorem kP.n9(h:kP D kl' o)(a:kl'≠kl)(d:DataW Unit):kP (D.put kl d) kl' o:=
 ⟨by rw[has_put_other a];exact h.1,by rw[atKey_put_other a];exact h.2⟩
def kP.CZ:kP (D.del kl) kl ai:=⟨has_del_same,atKey_del_same _⟩
def Lc:=@kP.CZ
theorem kP.ze(h:kP D kl' o)(a:kl'≠kl):kP (D.del kl) kl' o:=
 ⟨by rw[has_del_other a];exact h.1,by rw[atKey_del_other a];exact h.2⟩
def zU(ev:aA)(nb fb:Nat)(j:Nat):aA:=if j=0 then ev else if j=1 then .map (ah nb) else .map (ah fb)
structure Bk(w:ay)(base p:Nat)(ev:aA)(nb fb:Nat)(l:List Tm):Prop where
 kE:bE w p 84 3 (zU ev nb fb)
 rows:bD w base 152 6 ev (bB l) (l.flatMap gu)
 lF:∃D,mL w 152 nb D∧Maps.size D=bB l∧∀t:Tm,t.ok->kP D (se t) (qC l t)
 om:∃D,mL w 9 fb D∧Maps.size D=DL l∧∀n:ByteArray,n.size<=6->kP D (rG n) (fst l n)
 yr:∀t∈l,t.ok
 nodup:l.Nodup
 pn:p≠nb
 pf:p≠fb
 nf:nb≠fb
 ep:aP ev≠ah p
 en:aP ev≠ah nb
 ef:aP ev≠ah fb
 bp:base<=p
 bn:base<=nb
 bf:base<=fb
 small:bB l<=1000
variable{ev bp:aA}{l:List Tm}
def Bk.c0(h:Bk w base p ev nb fb l):cz w p 0 ev:=h.kE.cell bO
def Bk.c1(h:Bk w base p ev nb fb l):cz w p 1 (.map (ah nb)):=h.kE.cell (i:=1) bO
def Bk.c2(h:Bk w base p ev nb fb l):cz w p 2 (.map (ah fb)):=h.kE.cell (i:=2) bO
def Bk.drewN(h:Bk w base p ev nb fb l)(m):Bk (bF w m) base p ev nb fb l:=
 ⟨h.kE,h.rows,h.lF,h.om,h.yr,h.nodup,h.pn,h.pf,h.nf,h.ep,h.en,h.ef,h.bp,h.bn,h.bf,h.small⟩
theorem Bk.OE(h:Bk w base p ev nb fb l):∃a c,ev=aj a (bB l) c:=by
 obtain⟨rfl,f⟩|⟨b,c,e,rfl,_⟩:=h.rows.2
 .grind
 grind
theorem Bk.grown{row:Option Nat}(h:Bk w base p ev nb fb l)(K:bH w w' row)(hp:ah p≠row)(x:ah nb≠row)(v:ah fb≠row)(q:row=ai∨aP ev≠row):Bk w' base p ev nb fb l:=by let⟨Dn,y,z,A⟩:=h.lF;let⟨a,c,f,m⟩:=h.om;exact⟨h.kE.of_block (K.block p h.kE.lt hp),h.rows.kept K (q.elim (λe=>e▸j8 (aP ev=ai)) cI),⟨Dn,iy y K x,z,A⟩,⟨a,iy c K v,f,m⟩,h.yr,h.nodup,h.pn,h.pf,h.nf,h.ep,h.en,h.ef,h.bp,h.bn,h.bf,h.small⟩
abbrev dG(w w':ay):Prop:=bI (λ_=>False) w w'
def dG.grownBy(h:dG w w'):bH w w' ai:=⟨h.os,h.tape,h.output,h.size,λk a _=>h.block k a λe=>e⟩
def Bk.dF(h:Bk w base p ev nb fb l)(K:dG w w'):Bk w' base p ev nb fb l:=
 h.grown K.grownBy bQ bQ bQ (cB rfl)
theorem Bk.iw{x:Nat}(h:Bk w base p ev nb fb l)(K:dV x w w')(hp:p≠x)(e:nb≠x)(c:fb≠x)(a:aP ev≠ah x):Bk w' base p ev nb fb l:=
 h.grown K.grownBy (by simpa using hp) (by simpa using e) (by simpa using c) (cI a)
theorem kP.look{t:aE}{m:aA}(h:mL w k b D)(S:kP D kl o)(K:Keyed prog k)(y:prog.underlying t=ah (.map k 3))(e:keyOf prog k m=ah kl):
  (Instr.lookup t (.map (ah b)) m aK).run prog w=.ok (.tuple #[iz ((o.getD 0:Nat):Int),.bool o.isSome]) w:=by
 let⟨v,ps,f,q⟩:=World.ownsMap.look_ok h K y (A7 w) (ou underlying3 bS) e;rw[S.2] at q;obtain⟨c,rfl,x,_⟩:=plainElem_int_inv underlying3 q;have a:=congrArg Prod.fst x;simp at a;rw[f,S.1,a]
theorem Bk.acr(h:Bk w base p ev nb fb l){n:ByteArray}(a:n.size<=6):
  (Instr.lookup 81 (.map (ah fb)) (.string n) aK).run prog w=.ok (.tuple #[iz (((fst l n).getD 0:Nat):Int),.bool (fst l n).isSome]) w:=by
 let⟨D,c,_,e⟩:=h.om;exact(e n a).look c Iu underlying81 (vw a)
theorem Bk.Z1(h:Bk w base p ev nb fb l)(a:t.ok):
  (Instr.lookup 80 (.map (ah nb)) (jB t) aK).run prog w=.ok (.tuple #[iz (((qC l t).getD 0:Nat):Int),.bool (qC l t).isSome]) w:=by
 let⟨D,c,_,e⟩:=h.lF;exact(e t a).look c Ih underlying80 (vK a)
theorem xW(l:List Tm)(i j:Nat)(a:j<6):(l.flatMap gu)[i*6+j]?=(l[i]?).bind (λt=>(gu t)[j]?):=by
 induction l generalizing i with
 |nil=>simp
 |cons t l c=>
  cases i with
  |zero=>grind[gu]
  |succ i=>
   have e:(i+1)*6+j=6+(i*6+j):=bO
   simp[gS,e];grind[gu]
theorem Bk.at(h:Bk w base p ev nb fb l)(v:l[i]?=ah t):
  ∃g a,ev=aj (ah (az g 0)) (bB l) a∧∀j u,(gu t)[j]?=ah u->aU w ⟨g,i*6+j,ai⟩=ah u:=by
 have m:i<bB l:=cG
 obtain⟨e,q⟩|⟨b,a,c,e,_⟩:=h.rows.2
 .omega
 refine⟨b,a,e,λj u x=>?_⟩;have f:j<6:=by grind[gu]
 have:=h.rows.cells (g:=b) (by rw[e];rfl) (i*6+j) u (by grind[xW]);grind[Addr.add]
theorem vx(w){base p}{ev}{nb fb}{l}(h:Bk w base p ev nb fb l):
  aB prog 35 #[pz p] w λe w'=>e=aw (iz (bB l))∧w=w':=by
 obtain⟨a,c,rfl⟩:=h.OE;have c0:=h.c0;go_enter func35,ntmps35
 go_wp2;go_ret;simp_all
theorem XE{w}{base p}{ev}{nb fb}{l}(h:Bk w base p ev nb fb l)(a):
  aB prog 65 #[pz p,iz a] w λe w'=>e=aw (.bool (mD (bB l) a))∧w=w':=by
 obtain⟨x,c,rfl⟩:=h.OE;have c0:=h.c0;go_enter func65,ntmps65
 go_wp2
 .go_ret;exact⟨fr (MB ‹_›),rfl⟩
 go_ret;exact⟨fr (Mz ‹_›),rfl⟩
def qV(l:List Tm)(t:Tm):Bool:=match fst l t.name with
 |none=>aK
 |some i=>match l[i]? with
  |none=>aK
  |some u=>decide (bB u.args=bB t.args)
theorem CH{n:ByteArray}(h:fst l n=ah i):∃u,l[i]?=ah u∧u.name=n:=by let⟨a,hp,_⟩:=fJ.1 h;grind
theorem boxed(w:ay)(t:Tm):∀j u,(gu t)[j]?=ah u->aU (bC w (aq (gu t).toArray 152)) (az w.heap.size j)=ah u:=aeA
theorem Ot(w:ay)(h:Bk w base p ev nb fb l)(t:Tm)(E:t.ok):
  aB prog 104 #[pz p,jB t] w λe w'=>e=aw (.bool (qV l t))∧Bk w' base p ev nb fb l∧dG w w':=by
 have c0:=h.c0;have c2:=h.c2;have y:=boxed w t 0 _ rfl;have b1:=boxed w t 1 _ rfl;unfold jB gu;unfold gu at y b1;go_enter func104,ntmps104
 go_wp2;generalize x:bC w (aR #[.string t.name,iz (bB t.args),iz (t.arg 0:Int),iz (t.arg 1:Int),iz (t.arg 2:Int),iz (t.arg 3:Int)] 152)=G at y b1⊢;have q:dG w G:=x▸dD (bW _ w) _;have a:=h.dF q;have c0:=a.c0;have c2:=a.c2;have f:=λm=>(a.drewN m).acr E.name;cases c:fst l t.name with
 |none=>
  rw[c] at f;simp only[pT,kJ] at f;have z:qV l t=aK:=by simp[qV,c]
  go_quiet(fail)
  go_wp2;go_quiet(fail)
  go_wp2;go_ret;exact⟨fr z.symm,(a.drewN _).drewN _,(dR q _).drewN _⟩
 |some i=>
  rw[c] at f;simp only[eQ,iM] at f;let⟨u,v,F⟩:=CH c;have C:i<bB l:=(bU.1 v).1;have z:qV l t=aM (bB u.args=bB t.args):=by simp[qV,c,v]
  obtain⟨g,A,rfl,B⟩:=a.at v;have H:=B 1 _ rfl;go_quiet(fail)
  go_wp2;go_quiet(fail)
  go_wp2;go_ret;refine⟨fr ?_,(a.drewN _).drewN _,(dR q _).drewN _⟩;grind
def Rw(W:ay)(g:Nat)(vs:List Int):Prop:=∃N F,bB vs<=N∧bE W g 3 N F∧∀(j:Nat)(c:Int),vs[j]?=ah c->F j=ae af c
variable{vs:List Int}
theorem Rw.cls(h:Rw W g vs):oY W (ah ⟨g,0,ai⟩) vs:=by obtain⟨N,F,q,e,f⟩:=h;refine cI ⟨g,0,rfl,λj c a=>?_⟩;have m:=(bU.1 a).1;rw[fM,e.cell (i:=j) bO,f j c a]
theorem Rw.at(h:Rw W g vs){c:Int}(e:vs[j]?=ah c):aU W ⟨g,j,ai⟩=ah (ae af c)∧bG W ⟨g,j,ai⟩=aL:=by obtain⟨N,F,q,a,f⟩:=h;have m:=(bU.1 e).1;exact⟨by rw[a.cell (i:=j) bO,f j c e],a.frozen j⟩
theorem Rw.set(h:Rw W g vs)(i c):Rw (aW W ⟨g,i,ai⟩ (ae af c)) g (vs.set i c):=by obtain⟨N,F,a,e,f⟩:=h;refine⟨N,_,by rw[gd];exact a,e.set i _,λj d m=>?_⟩;grind
theorem Rw.lt(h:Rw W g vs):g<W.heap.size:=by obtain⟨N,F,c,a,e⟩:=h;exact a.lt
theorem Rw.block{a:ay}(h:Rw W g vs)(m:a.heap[g]?=W.heap[g]?):Rw a g vs:=by obtain⟨N,F,c,e,f⟩:=h;exact⟨N,F,c,e.of_block m,f⟩
namespace Cc
def evn(t:Tm)(n:Nat):List (Nat×Nat):=t.args.map λa=>(a,n)
def nJ:List Tm->Nat->List (Nat×Nat)
 | [],_=>[]
 |t::l,n=>evn t n++nJ l (n+1)
def Bi(d:List (Nat×Nat))(i:Nat):List Nat:=(d.filter λx=>x.1==i).map λx=>x.2
def jy(d:List (Nat×Nat))(i:Nat):Nat:=bB (Bi d i)
theorem Ox(l m n):nJ (l++m) n=nJ l n++nJ m (n+bB l):=by
 induction l generalizing n with
 |nil=>simp[nJ]
 |cons t l a=>grind[nJ]
theorem JL(a:l[n]?=ah t):nJ (l.take (n+1)) 0=nJ (l.take n) 0++evn t n:=by grind[nJ,List.getElem?_eq_some_iff,List.take_add_one,Ox,List.length_take,Nat.min_eq_left,Nat.le_of_lt]
def pre(l:List Tm)(n:Nat)(t:Tm)(k:Nat):List (Nat×Nat):=nJ (l.take n) 0++(t.args.take k).map λa=>(a,n)
theorem BV(l n t):pre l n t 0=nJ (l.take n) 0:=by simp[pre]
theorem qM{k a:Nat}(c:t.args[k]?=ah a):pre l n t (k+1)=pre l n t k++[(a,n)]:=by unfold pre;rw[dJ,c];simp
theorem NL(a:l[n]?=ah t):pre l n t (bB t.args)=nJ (l.take (n+1)) 0:=by rw[JL a];simp[pre,evn]
theorem Oy(l):nJ (l.take (bB l)) 0=nJ l 0:=by rw[fI]
theorem Ht(d a n i):Bi (d++[(a,n)]) i=if i=a then Bi d i++[n] else Bi d i:=by grind[Bi]
theorem uR(d a n i):jy (d++[(a,n)]) i=if i=a then jy d i+1 else jy d i:=by
 unfold jy;rw[Ht]
 split<;>simp
theorem Nn(d e i):Bi (d++e) i=Bi d i++Bi e i:=by simp[Bi]
theorem Zu(d e i):jy (d++e) i=jy d i+jy e i:=by simp[jy,Nn]
theorem abx(d i):jy d i<=bB d:=by grind[jy,Bi]
def kf(c:Nat->Nat):Nat->Nat
 |0=>0
 |i+1=>kf c i+c i
theorem sJ(c)(h:i<j):kf c i+c i<=kf c j:=by
 induction j with
 |zero=>omega
 |succ j a=>grind[kf]
theorem Mc{c a:Nat->Nat}(h:∀i,c i=a i)(n):kf c n=kf a n:=by
 induction n with
 |zero=>rfl
 |succ n e=>simp only[kf];rw[e,h]
theorem Uv(c a n):kf (λi=>if i=a then c i+1 else c i) n=kf c n+if a<n then 1 else 0:=by
 induction n with
 |zero=>simp[kf]
 |succ n e=>grind[kf]
theorem Uu(N d)(h:∀x∈d,x.1<N):kf (jy d) N=bB d:=by
 have m:∀e:List (Nat×Nat),(∀x∈e,x.1<N)->kf (jy e.reverse) N=bB e:=by
  intro e
  induction e with
  |nil=>
   intro _;have:∀n,kf (jy []) n=0:=by
    intro n
    induction n with
    |zero=>rfl
    |succ n f=>simp only[kf];rw[f];rfl
   simpa using this N
  |cons x e f=>intro c;obtain⟨a,n⟩:=x;have q:=f (λy z=>c y (by simp[z]));have v:a<N:=c (a,n) bQ;rw[yu,Mc (uR e.reverse a n) N,Uv,q,cY v];simp
 have:=m d.reverse (λx c=>h x (by simpa using c));simpa using this
theorem abj{N:Nat}(e:∀t∈l,∀a∈t.args,a<N):∀m,∀x∈nJ l m,x.1<N:=by
 induction l with
 |nil=>intro m x c;simp[nJ] at c
 |cons t l f=>grind[nJ,evn]
theorem Ov(a:∀t∈l,bB t.args<=4):∀m,bB (nJ l m)<=4*bB l:=by
 induction l with
 |nil=>intro m;simp[nJ]
 |cons t l c=>grind[nJ,evn]
theorem Yi(a:∀t∈l,bB t.args<=4)(c:l[n]?=ah t)(k):bB (pre l n t k)<=4*bB l:=by have h:=(bU.1 c).1;have f:=Ov (l:=l.take n) (λu e=>a u (je e)) 0;grind[pre]
theorem Ub(f:l[n]?=ah t)(k):∃e,nJ l 0=pre l n t k++e:=by
 have c:=iT (n+1) l;refine⟨(t.args.drop k).map (λa=>(a,n))++nJ (l.drop (n+1)) (0+bB (l.take (n+1))),?_⟩
 conv=>lhs;rw[<-c]
 rw[Ox,JL f];grind[pre,evn,List.take_append_drop,List.append_assoc]
theorem NK(c:l[n]?=ah t)(k i):jy (pre l n t k) i<=jy (nJ l 0) i:=by let⟨e,a⟩:=Ub c k;rw[a,Zu];omega
theorem aaz(l r n):(Bi (nJ l 0) r).count n=uc l id r n:=by
 have h:∀(l:List Tm)(m:Nat),(Bi (nJ l m) r).count n=if m<=n then uc l id r (n-m) else 0:=by
  intro l
  induction l with
  |nil=>intro m;simp[nJ,Bi,uc]
  |cons t l c=>
   intro m;rw[nJ,Nn,Sf,c (m+1)];have y:(Bi (evn t m) r).count n=if m=n then t.args.countP (λa=>a==r) else 0:=by
    have:∀f:List Nat,(Bi (f.map λa=>(a,m)) r).count n=if m=n then f.countP (λa=>a==r) else 0:=by
     intro f
     induction f with
     |nil=>simp[Bi]
     |cons x f c=>
      unfold Bi at c⊢;by_cases e:x=r
      .subst e;by_cases q:m=n
       .subst q;simp at c⊢;exact c
       simp[q] at c⊢;exact c
      have v:(x==r)=aL:=gB.2 e;simp only[iG,Xe,v,As];simpa using c
    exact this t.args
   grind[uc]
 simpa using h l 0
end Cc
def FM(bp:aA)(s:ByteArray)(i d:Nat)(j:Nat):aA:=if j=0 then bp else if j=1 then .string s else if j=2 then ae af i else .int .u64 d
structure Lp(w:ay)(r:Nat)(bp:aA)(s:ByteArray)(i d:Nat):Prop where
 row:bE w r 107 4 (FM bp s i d)
 le:i<=s.size
 small:s.size<=400
variable{s:ByteArray}
def Lp.c0(h:Lp w r bp s i d):cz w r 0 bp:=h.row.cell bO
def Lp.c1(h:Lp w r bp s i d):cz w r 1 (.string s):=h.row.cell (i:=1) bO
def Lp.c2(h:Lp w r bp s i d):cz w r 2 (iz i):=h.row.cell (i:=2) bO
def Lp.c3(h:Lp w r bp s i d):cz w r 3 (.int .u64 d):=h.row.cell (i:=3) bO
def Lp.drewN(h:Lp w r bp s i d)(m):Lp (bF w m) r bp s i d:=⟨h.row,h.le,h.small⟩
theorem Lp.step(h:Lp w r bp s i d){k:Nat}(a:k<=s.size):Lp (aW w (az r 2) (iz k)) r bp s k d:=
 ⟨(h.row.set 2 _).congr (λj c=>by grind[FM]),a,h.small⟩
theorem Lp.deep(h:Lp w r bp s i d)(e:Nat):Lp (aW w (az r 3) (.int .u64 e)) r bp s i e:=
 ⟨(h.row.set 3 _).congr (λj a=>by grind[FM]),h.le,h.small⟩
def Lp.of_block(h:Lp w r bp s i d)(a:w'.heap[r]?=w.heap[r]?):Lp w' r bp s i d:=⟨h.row.of_block a,h.le,h.small⟩
theorem Yx{w}{r}{bp}{s}{i d}(h:Lp w r bp s i d):
  aB prog 110 #[pz r] w λe w'=>e=aw (.int .u8 (ji s i:Int))∧∃m,w'=bF w m:=by
 have c1:=h.c1;have c2:=h.c2;have q:=h.le;go_enter func110,ntmps110;by_cases c:i<s.size
 .have f:((i:Int)==(s.size:Int))=aL:=bX
  have a:=mv c
  go_wp2;go_quiet(fail)
  go_wp2;go_quiet(fail)
  go_wp2;go_ret;refine⟨?_,_,Sb _ _ _⟩;rw[<-a];rfl
 have f:((i:Int)==(s.size:Int))=aK:=bX
 have a:ji s i=0:=by simp[ji,c]
 go_wp2;go_quiet(fail)
 go_wp2;go_ret;exact⟨by rw[a];rfl,_,rfl⟩
def yP{w}{r}(bp){s}(i){d}(h:Lp w r bp s i d):
  aB prog 110 #[pz r] w λe w'=>e=aw (.int .u8 (ji s i:Int))∧dG w w':=
 (Yx h).mono λ_ _ ⟨a,m,c⟩=>⟨a,c▸(bW _ w).drewN m⟩
def Lp.dF(h:Lp w r bp s i d)(K:dG w w'):Lp w' r bp s i d:=h.of_block (K.block _ h.row.lt λe=>e)
theorem qS{w}{r}{bp}{s}(i){d}(h:Lp w r bp s i d):
  aB prog 67 #[pz r] w λe w'=>e=aw (.tuple #[])∧Lp w' r bp s (bl s i) d∧dV r w w':=by
 go_enter func67,ntmps67
 go_wp2
 go_loopw[] (λW=>∃k:Nat,Lp W r bp s k d∧Hid (bl s k=bl s i)∧Hid (dV r w W)) λW=>s.size-(match aU W (az r 2) with|some v=>(intOf v).toNat|none=>0)
 case atStart=>exact⟨i,h,rfl,bW _ w⟩
 case round=>
  obtain⟨k,c,E,C⟩:=hrel;have y:=yP bp k c;have J:=c.small;have z:=c.c2;by_cases m:k<s.size∧ji s k=32
  .rw[m.2] at y;have f:Hid (∀W,dG wr W->Lp (aW W (az r 2) (iz ((k:Int)+1))) r bp s (k+1) d):=λW K=>by
    have:=(c.dF K).step (k:=k+1) bO;simpa using this
   have F:Hid (∀W,dG wr W->cz W r 2 (iz k)∧bG W (az r 2)=aL):=λW K=>⟨(c.dF K).c2,(c.dF K).row.frozen 2⟩;have A:Hid (bl s (k+1)=bl s i):=(EK m.1 m.2).symm.trans E;have x:Hid (cz wr r 2 (iz k)):=z;have H:k<s.size:=m.1
   go_wp2_with(go_at_call 110;refine y.mono ?_;rintro e q ⟨rfl,a⟩;let⟨c2,M⟩:=F.out q a);refine⟨⟨k+1,f.out q a,A,eH (C.out.trans (dW a λ_ _ e=>e.elim)) _ _⟩,?_⟩;rw[(f.out q a).c2,x.out];simp only[intOf];omega
  have e:bl s i=k:=E.symm.trans (tD m);have I:¬ji s k=32:=λL=>by
   grind[ji]
  have G:((ji s k:Int)==32)=aL:=bX
  have B:=bL (b9 c C.out);generalize ji s k=bk at *
  go_wp2_with(go_at_call 110;refine y.mono ?_;rintro e q ⟨rfl,a⟩)
  go_end0
  exact⟨rfl,by rw[e];exact B.out.1.dF a,B.out.2.trans (dW a λ_ _ e=>e.elim)⟩
def jU(e p:Int):aA:=.iface 155 (.agg #[ae af e,ae af p])
theorem pK(w e p):
  aB prog 69 #[iz e,iz p] w λx w'=>x=.panicked [{v:=jU e p,recovered:=aL}]∧w=w':=by
 go_enter func69,ntmps69
 go_wp2;exact⟨rfl,rfl,rfl⟩
theorem UD{w}{r}{bp}{s}{i d}(h:Lp w r bp s i d)(c)(m:ix s i c=aK):
  aB prog 112 #[pz r,.int .u8 c] w λe w'=>e=aw (.tuple #[])∧Lp w' r bp s (bl s (i+1)) d∧dV r w w':=by
 have v:=ft m;have q:=yP bp i h;rw[v.2] at q;have E:=h.small;have z:Hid (∀W,dG w W->cz W r 2 (iz i)∧bG W (az r 2)=aL):=λW K=>⟨(h.dF K).c2,(h.dF K).row.frozen 2⟩;have f:Hid (∀W,dG w W->Lp (aW W (az r 2) (iz ((i:Int)+1))) r bp s (i+1) d):=λW K=>by have:=(h.dF K).step (k:=i+1) bO;simpa using this
 have C:i<s.size:=v.1;go_enter func112,ntmps112
 go_wp2_with(first|(go_at_call 110;refine q.mono ?_;rintro e x ⟨rfl,a⟩;let⟨c2,F⟩:=z.out x a;have y:=qS (i+1) (f.out x a))|(go_at_call 67;refine y.mono ?_;rintro e G ⟨rfl,B,A⟩))
 go_end0
 exact⟨rfl,B,gQ (eH (dW a λ_ _ e=>e.elim) _ _) A⟩
theorem YB{w}{r}{bp}{s}{i d}(h:Lp w r bp s i d)(c)(B:c≠0)(y:ix s i c=aL):
  aB prog 112 #[pz r,.int .u8 c] w λe w'=>e=.panicked [{v:=jU 2 (i:Int),recovered:=aL}]∧dG w w':=by
 have x:ji s i≠c:=λe=>by grind[ji,pG]
 have m:=yP bp i h;have f:Hid (∀W,dG w W->cz W r 2 (iz i)):=λW K=>(h.dF K).c2;have q:((ji s i:Int) != (c:Int))=aK:=bX
 generalize ji s i=A at *;go_enter func112,ntmps112
 go_wp2_with(first|(go_at_call 110;refine m.mono ?_;rintro e z ⟨rfl,a⟩;have c2:=f.out z a)|(go_at_call 69;refine(pK _ _ _).mono ?_;rintro e C ⟨rfl,rfl⟩));exact⟨rfl,rfl,a⟩
def xK(c:Nat):Bool:=isLet c||lK c
theorem Ca(w:ay)(c:Nat):
  aB prog 259 #[.int .u8 c] w λe w'=>e=aw (.bool (xK c))∧w=w':=by
 go_enter func259,ntmps259;by_cases q:97<=c
 .have h:aM ((97:Int)<=(c:Int))=aK:=cZ bO;by_cases v:c<=122
  .have m:aM ((c:Int)<=122)=aK:=cZ bO;have e:xK c=aK:=by simp[xK,isLet,lK];omega
   go_wp2;go_ret;exact⟨fr e.symm,rfl⟩
  have m:aM ((c:Int)<=122)=aL:=cP bO;have a:aM ((48:Int)<=(c:Int))=aK:=cZ bO;have f:aM ((c:Int)<=57)=aL:=cP bO;have e:xK c=aL:=by simp[xK,isLet,lK];omega
  go_wp2;go_ret;exact⟨fr e.symm,rfl⟩
 have h:aM ((97:Int)<=(c:Int))=aL:=cP bO;by_cases x:48<=c
 .have a:aM ((48:Int)<=(c:Int))=aK:=cZ bO;by_cases y:c<=57
  .have f:aM ((c:Int)<=57)=aK:=cZ bO;have e:xK c=aK:=by simp[xK,isLet,lK];omega
   go_wp2;go_ret;exact⟨fr e.symm,rfl⟩
  have f:aM ((c:Int)<=57)=aL:=cP bO;have e:xK c=aL:=by simp[xK,isLet,lK];omega
  go_wp2;go_ret;exact⟨fr e.symm,rfl⟩
 have a:aM ((48:Int)<=(c:Int))=aL:=cP bO;have e:xK c=aL:=by simp[xK,isLet,lK];omega
 go_wp2;go_ret;exact⟨fr e.symm,rfl⟩
