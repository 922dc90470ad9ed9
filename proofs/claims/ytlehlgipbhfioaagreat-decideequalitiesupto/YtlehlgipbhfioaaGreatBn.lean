import Derived.Test.YtlehlgipbhfioaaGreatBg
import Derived.Test.YtlehlgipbhfioaaGreatBm
namespace Go.Proofs.YtlehlgipbhfioaaGreat
set_option maxHeartbeats 2000000
set_option maxRecDepth 100000
set_option linter.all false
open Go.RowKit Go.Maps Go.Proofs.Tryz
open Go.Value renaming int->ae,slice->aj,pointer->ak,int->aS,slice->aT,ownBlock->aP
open Go.IntKind renaming i64->af
open Go.Obj renaming cells->aq
open Go.Ending renaming returned->aw
open Option renaming some->ah,none->ai
open Go.World renaming alloc->bC,cell?->aU,rowIs->bE,ownsRow->bD,setCell->aW,drewN->bF
open Go renaming Calls->aB,World->ay,Value->aA,TypeId->aE
open List renaming length->bB
open Go.Act renaming eval->bq
open Bool renaming true->aK,false->aL
def adJ:(98:aE)<prog.types.size:=ft bV
def Vw:prog.cellsOf 98=5:=bV
def Vv:prog.keyType 98=aK:=bV
def abd:prog.keyTypeAt 3 98=aK:=bV
theorem MF:Keyed prog 98:=Dr (deep_law_laid Ii (m:=3) bO adJ abd (by rw[underlying98]))
def nC(s:Tm):List aA:=[.string s.name,ae af (s.arg 0:Int),ae af (s.arg 1:Int),ae af (s.arg 2:Int),ae af (s.arg 3:Int)]
def oR(s:Tm):aA:=.agg (nC s).toArray
theorem LL(t):(oR t).formed prog 98=aK:=by simp[oR,nC,Value.formed,underlying98,Vw]
theorem XR(t)(h:t.ok):∃kl,keyOf prog 98 (oR t)=ah kl:=by
 have i:t.name.size<=maxLen:=bZ h.name bS;have g0:(Lit.int .i64 (t.arg 0:Int)).wf=aK:=uj (by have:=h.arg 0;omega);have c:(Lit.int .i64 (t.arg 1:Int)).wf=aK:=uj (by have:=h.arg 1;omega);have d:(Lit.int .i64 (t.arg 2:Int)).wf=aK:=uj (by have:=h.arg 2;omega);have g:(Lit.int .i64 (t.arg 3:Int)).wf=aK:=uj (by have:=h.arg 3;omega);unfold keyOf;rw[underlying98];simp only[Vv,LL];obtain⟨m,o⟩:∃m,prog.types.size+1=m+3:=⟨prog.types.size-2,by simp_all⟩
 rw[o];have p:List.range 4=[0,1,2,3]:=rfl;simp[Program.keyLits,underlying98,underlying96,underlying3,underlying9,Vw,Fk,xw,Fj,oR,nC,Value.cells,p,i,g0,c,d,g]
noncomputable def DG(t:Tm):Lit:=(keyOf prog 98 (oR t)).getD (.bool aL)
variable{t s:Tm}
theorem vH(h:t.ok):keyOf prog 98 (oR t)=ah (DG t):=by grind[DG,XR]
structure Sk(s:Tm):Prop where
 ok:s.ok
 four:bB s.args=4
theorem BD{u:Tm}(d:Sk t)(q:Sk u)(h:oR t=oR u):t=u:=by
 have o:=d.four;have k4:=q.four;have c:=d.ok;obtain⟨n,a⟩:=t;obtain⟨m,b⟩:=u;simp[oR,nC,Tm.arg] at h;obtain⟨g,r,x,p,y⟩:=h;have hl:bB a=bB b:=by simp at o k4;omega
 have:a=b:=Ke hl c.args (λi A=>by obtain rfl|rfl|rfl|rfl:=(by omega:i=0∨i=1∨i=2∨i=3)<;>simp only[px]<;>omega)
 rw[g,this]
theorem JC{u:Tm}(c:Sk t)(d:Sk u)(h:DG t=DG u):t=u:=
 BD c d (MF.inj (vH c.ok) (by rw[h];exact vH d.ok))
theorem Vu(c:t.ok):∃k,DG t=k∧WideAt.IsKeyLit k:=by have h:=vH c;generalize DG t=k at h;exact⟨k,rfl,MF.key h⟩
variable{l:List Tm}{lo:Nat->Nat}{n j base size k b a b' n':Nat}
theorem Nw(d:Cc.Bd l)(g:∀i,i<bB l->lo i<=i)(hl:bB l<=1000)(h:l[n]?=ah t)(c:t.ok):Sk (Cc.sg lo t):=by
 have o:∀k,Cc.ar lo t k<1000:=by
  intro k;unfold Cc.ar;cases e:t.args[k]? with
  |none=>simp
  |some a=>have m:=d.args n t h a (cH e);grind
 refine⟨⟨c.name,by simp[Cc.sg],?_⟩,rfl⟩;grind[Cc.sg]
def Sat(st:List (Nat×Obj))(w:ay):Prop:=∀x∈st,w.heap[x.1]?=ah x.2
def iB(st:List (Nat×Obj))(v:aA)(xs:List Nat):Prop:=
 ∃a cap,v=aj a (bB xs) cap∧bB xs<=cap∧(xs=[]∨∃(b off:Nat)(c:Array aA)(fz:Nat×Nat),a=ah ⟨b,off,ai⟩∧(b,Obj.cells c 3 fz)∈st∧∀j x:Nat,xs[j]?=ah x->c[off+j]?=ah (aS .i64 x))
variable{st:List (Nat×Obj)}{v:aA}{xs:List Nat}
theorem iB.mono{c:List (Nat×Obj)}(h:iB st v xs)(hs:∀x∈st,x∈c):iB c v xs:=by obtain⟨a,d,e,g,h⟩:=h;refine⟨a,d,e,g,h.imp id ?_⟩;grind
variable{w w':ay}
theorem iB.cell(h:iB st v xs)(r:Sat st w){x:Nat}(q:xs[j]?=ah x):
  ∃b g d,v=aj (ah (az b g)) (bB xs) d∧bB xs<=d∧∀i y:Nat,xs[i]?=ah y->aU w ⟨b,g+i,ai⟩=ah (iz y):=by
 obtain⟨a,d,e,m,h⟩:=h;obtain rfl|⟨b,g,c,A,o,p,u⟩:=h
 .simp at q
 refine⟨b,g,d,by rw[e,o],m,λi y B=>?_⟩;have:=r _ p;grind[aU]
theorem iB.form(h:iB st v xs):∃a c,v=aj a (bB xs) c:=by obtain⟨a,c,e,_,_⟩:=h;grind
def abP:=@iB.form
structure Zs where
 pk:Nat
 ps:Nat
 nb:Nat
 tb:Nat
 ub:Nat
 mb:Nat
 jv:aA
 bv:aA
 av:Nat->aA
 uv:Nat->aA
 g:Uf.G
 t:List Uf.Rec
 bs:List aA
 st:List (Nat×Obj)
 us:Nat->List Nat
 kn:Tm->Option Nat
 ms:Nat
def Zs.gE(z:Zs)(k:Nat):Prop:=k=z.pk∨Go.Proofs.YtlehlgipbhfioaaGreat.gE z.ps z.nb z.jv k∨k=z.ub∨k=z.mb∨aP z.bv=ah k
def Wh(z:Zs)(n:Nat)(j:Nat):aA:=
 if j=0 then ak (ah ⟨z.ps,0,ai⟩) else if j=1 then aj (ah ⟨z.tb,0,ai⟩) n n else if j=2 then aj (ah ⟨z.ub,0,ai⟩) n n else if j=3 then .map (ah z.mb) else z.bv
def vZ(l:List Tm)(av:Nat->aA)(j:Nat):aA:=if j % 2=0 then .string ((l[j / 2]?).map Tm.name |>.getD ⟨#[]⟩) else av (j / 2)
structure Cz(w:ay)(base:Nat)(l:List Tm)(z:Zs):Prop where
 cls:bE w z.pk 71 5 (Wh z (bB l))
 ie:St w base z.ps z.nb z.jv (bB l) z.g z.t
 kN:bE w z.tb 102 (bB l*2) (vZ l z.av)
 ld:bE w z.ub 110 (bB l) z.uv
 known:∃D,mL w 98 z.mb D∧Maps.size D<=z.ms∧∀s:Tm,Sk s->kP D (DG s) (z.kn s)
 back:bD w base 1 1 z.bv (bB z.bs) z.bs
 sat:Sat z.st w
 ot:∀x∈z.st,base<=x.1∧¬z.gE x.1
 argsAt:∀(i:Nat)(t:Tm),l[i]?=ah t->iB z.st (z.av i) t.args
 ki:∀i,i<bB l->iB z.st (z.uv i) (z.us i)
 bd:Cc.Bd l
 yr:∀t∈l,t.ok
 len:bB l<=150
 bp:base<=z.pk
 bt:base<=z.tb
 bu:base<=z.ub
 bm:base<=z.mb
variable{e:aE}
theorem gh{xs:List aA}(h:bD w base e size v n xs)(o:∀k,aP v=ah k->w'.heap[k]?=w.heap[k]?):bD w' base e size v n xs:=by
 refine⟨h.1,?_⟩;obtain e|⟨b,c,d,e,g,i,m⟩:=h.2
 .exact cB e
 exact cI ⟨b,c,d,e,g,(o b (by rw[e];rfl)).trans i,m⟩
variable{D:DataW Unit}
theorem oe{k:aE}(h:mL w k b D)(d:w'.heap[b]?=w.heap[b]?):mL w' k b D:=by obtain⟨es,c,g,i,m,o⟩:=h;exact⟨es,c,d.trans g,i,m,o⟩
def Zs.nO(z:Zs)(k:Nat):Prop:=z.gE k∨k=z.tb∨∃o,(k,o)∈z.st
variable{z:Zs}
theorem Cz.tA(h:Cz w base l z)(d:z.gE k):k<w.heap.size:=by
 let⟨D,c,_⟩:=h.known;obtain e|(e|e|e)|e|e|e:=d
 .rw[e];exact h.cls.lt
 .rw[e];exact h.ie.mu.ie.lt
 .rw[e];exact h.ie.mu.nodes.lt
 .exact(h.ie.mu.iA.lt k e).2
 .rw[e];exact h.ld.lt
 .rw[e];exact gw c
 exact(h.back.lt k e).2
theorem Cz.tB(h:Cz w base l z)(c:z.gE k):base<=k:=by
 obtain e|(e|e|e)|e|e|e:=c
 .rw[e];exact h.bp
 .rw[e];exact h.ie.mu.bp
 .rw[e];exact h.ie.mu.bn
 .exact(h.ie.mu.iA.lt k e).1
 .rw[e];exact h.bu
 .rw[e];exact h.bm
 exact(h.back.lt k e).1
theorem Cz.pj(h:Cz w base l z)(c:z.nO k):k<w.heap.size:=by
 obtain e|e|⟨o,e⟩:=c
 .exact h.tA e
 .rw[e];exact h.kN.lt
 exact(bY.1 (h.sat _ e)).1
theorem Cz.wX(h:Cz w base l z)(c:z.nO k):base<=k:=by
 obtain e|e|⟨o,e⟩:=c
 .exact h.tB e
 .rw[e];exact h.bt
 exact(h.ot _ e).1
variable{S:Nat->Prop}
theorem Cz.keep(h:Cz w base l z)(K:bI S w w')(d:∀k,z.nO k->¬S k):Cz w' base l z:=by
 have B:∀k,z.nO k->w'.heap[k]?=w.heap[k]?:=λk c=>K.block k (h.pj c) (d k c);let⟨D,i,m,o⟩:=h.known;refine⟨h.cls.of_block (B _ (.inl (.inl rfl))),h.ie.other K (d _ (.inl (.inr (.inl (.inl rfl))))) (d _ (.inl (.inr (.inl (.inr (.inl rfl)))))) λk c=>d k (.inl (.inr (.inl (.inr (.inr c))))),h.kN.of_block (B _ (.inr (.inl rfl))),h.ld.of_block (B _ (.inl (.inr (.inr (.inl rfl))))),
  ⟨D,oe i (B _ (.inl (.inr (.inr (.inr (.inl rfl)))))),m,o⟩,gh h.back λk c=>B k (.inl (.inr (.inr (.inr (.inr c))))),λx g=>(B x.1 (.inr (.inr ⟨x.2,g⟩))).trans (h.sat x g),h.ot,h.argsAt,h.ki,h.bd,h.yr,h.len,h.bp,h.bt,h.bu,h.bm⟩
def Cz.dF(h:Cz w base l z)(K:dG w w'):Cz w' base l z:=h.keep K λ_ _ e=>e
def Cz.drewN(h:Cz w base l z)(m):Cz (bF w m) base l z:=h.dF ((bW _ w).drewN m)
def Cz.drew(h:Cz w base l z):Cz w.drew base l z:=h.dF (bW _ w).drew
def Cz.k0(h:Cz w base l z):cz w z.pk 0 (pz z.ps):=h.cls.cell (i:=0) bO
def Cz.k1(h:Cz w base l z):cz w z.pk 1 (aj (ah (az z.tb 0)) (bB l) (bB l)):=h.cls.cell (i:=1) bO
def Cz.k2(h:Cz w base l z):cz w z.pk 2 (aj (ah (az z.ub 0)) (bB l) (bB l)):=h.cls.cell (i:=2) bO
def Cz.k3(h:Cz w base l z):cz w z.pk 3 (.map (ah z.mb)):=h.cls.cell (i:=3) bO
def Cz.k4(h:Cz w base l z):cz w z.pk 4 z.bv:=h.cls.cell (i:=4) bO
theorem Cz.t0(h:Cz w base l z)(c:l[n]?=ah t):aU w ⟨z.tb,n*2,ai⟩=ah (.string t.name):=by have d:=(bU.1 c).1;rw[h.kN.cell (i:=n*2) bO];simp[vZ,c]
theorem Cz.t1(h:Cz w base l z)(c:l[n]?=ah t):aU w ⟨z.tb,n*2+1,ai⟩=ah (z.av n):=by have d:=(bU.1 c).1;rw[h.kN.cell (i:=n*2+1) bO];grind[vZ]
def Cz.u(h:Cz w base l z)(c:n<bB l):cz w z.ub n (z.uv n):=h.ld.cell bO
def Cz.ok(h:Cz w base l z):Uf.Ok (bB l) z.g (bB z.t):=h.ie.ok
theorem Cz.least(h:Cz w base l z)(c:a<bB l):
  aB prog 38 #[pz z.ps,iz a] w λe w'=>e=aw (iz (z.g.lo a:Int))∧∃m,w'=bF w m:=by
 have:=Kw base h.ie.mu _ h.ok a;rw[lN c,cY rfl,eS] at this;exact this
theorem bI.nR{W:ay}(h:bI S w W){off:Nat}(d:w.heap.size<=b)(u):bI S w (aW W (az b off) u):=
 ⟨h.os,h.tape,h.output,by simpa[aW] using h.size,λk c hs=>(cO _ _ _ _ λe=>by have:k=b:=e;omega).trans (h.block k c hs)⟩
def jo:=@bI.nR
def ZT(s:Tm)(k:Nat)(j:Nat):aA:=if j=0 then .string s.name else if j<=k then ae af (s.arg (j-1):Int) else ae af 0
theorem Ts(g:bB t.args<=4)(c:t.args[k]?=ah a):∀j,j<5->(if j=1+k then aS .i64 (lo a:Int) else ZT (Cc.sg lo t) k j)=ZT (Cc.sg lo t) (k+1) j:=by
 intro j i;have d:=(bU.1 c).1;have h:(Cc.sg lo t).arg k=lo a:=by rw[Cc.wE _ _ _ bO,Cc.vP c]
 grind[ZT]
theorem XT(g:bB t.args<=4)(h:j<5):(nC (Cc.sg lo t)).toArray[j]?.getD undef=ZT (Cc.sg lo t) (bB t.args) j:=by
 have hz:∀k,bB t.args<=k->k<4->(Cc.sg lo t).arg k=0:=λk c d=>by rw[Cc.wE _ _ _ d];unfold Cc.ar;rw[gW c]
 unfold ZT;obtain rfl|rfl|rfl|rfl|rfl:=(by omega:j=0∨j=1∨j=2∨j=3∨j=4)
 .rfl
 .by_cases e:1<=bB t.args
  .simp[nC,e]
  simp[nC,e,hz 0 bO]
 .by_cases e:2<=bB t.args
  .simp[nC,e]
  simp[nC,e,hz 1 bO]
 .by_cases e:3<=bB t.args
  .simp[nC,e]
  simp[nC,e,hz 2 bO]
 grind[nC]
theorem LJ(h:Cz w base l z)(n:Nat)(t:Tm)(p:l[n]?=ah t):
  aB prog 34 #[ak (ah ⟨z.pk,0,ai⟩),ae af n] w λe w'=>e=aw (oR (Cc.sg z.g.lo t))∧dG w w':=by
 have hn:n<bB l:=(bU.1 p).1;have N:=h.yr t (cH p);have Z:=N.args;have c:=h.argsAt n t p;have hV:oR (Cc.sg z.g.lo t)=.agg #[.string (Cc.sg z.g.lo t).name,ae af ((Cc.sg z.g.lo t).arg 0:Int),ae af ((Cc.sg z.g.lo t).arg 1:Int),ae af ((Cc.sg z.g.lo t).arg 2:Int),ae af ((Cc.sg z.g.lo t).arg 3:Int)]:=rfl;rw[hV];have G:dG w (bC w (aq #[.string ⟨#[]⟩,ae af 0,ae af 0,ae af 0,ae af 0] 98)):=dD (bW _ w) _;have V:=ey w #[.string ⟨#[]⟩,ae af 0,ae af 0,ae af 0,ae af 0] 98;have k1:=(h.dF G).k1;have t0:=(h.dF G).t0 p;have t1:=(h.dF G).t1 p;let⟨x,y,I⟩:=c.form;rw[I] at t1 c;go_enter func34,ntmps34
 go_wp2_with fail;have T:∀W:ay,bE (bC W (aq #[.string t.name,ae af 0,ae af 0,ae af 0,ae af 0] 98)) W.heap.size 98 5 (ZT (Cc.sg z.g.lo t) 0):=λW=>(ey W #[.string t.name,ae af 0,ae af 0,ae af 0,ae af 0] 98).congr (λj L=>by have ab:j<5:=L;obtain rfl|rfl|rfl|rfl|rfl:=(by omega:j=0∨j=1∨j=2∨j=3∨j=4)<;>rfl)
 have E:=T (bC (bC w (aq #[.string ⟨#[]⟩,ae af 0,ae af 0,ae af 0,ae af 0] 98)) (aq #[.string t.name,aj x (bB t.args) y] 102));have O:(bC (bC w (aq #[.string ⟨#[]⟩,ae af 0,ae af 0,ae af 0,ae af 0] 98)) (aq #[.string t.name,aj x (bB t.args) y] 102)).heap.size=w.heap.size+1+1:=bQ
 rw[O] at E;have P:=(G.alloc (aq #[.string t.name,aj x (bB t.args) y] 102)).alloc (aq #[.string t.name,ae af 0,ae af 0,ae af 0,ae af 0] 98);have R:=kX (kX V (aq #[.string t.name,aj x (bB t.args) y] 102)) (aq #[.string t.name,ae af 0,ae af 0,ae af 0,ae af 0] 98);generalize bC (bC (bC w (aq #[.string ⟨#[]⟩,ae af 0,ae af 0,ae af 0,ae af 0] 98)) (aq #[.string t.name,aj x (bB t.args) y] 102)) (aq #[.string t.name,ae af 0,ae af 0,ae af 0,ae af 0] 98)=w3 at E P R⊢;have J:w.heap.size<w.heap.size+1+1:=bO
 generalize w.heap.size+1+1=g at E J⊢
 go_loopw[22] (λq W=>∃k:Nat,k<=bB t.args∧q=ae af k∧bE W g 98 5 (ZT (Cc.sg z.g.lo t) k)∧(∃f,bE W w.heap.size 98 5 f)∧dG w W) λq _=>bB t.args-(intOf q).toNat
 case atStart=>exact⟨0,by omega,rfl,E,⟨_,R⟩,P⟩
 case round=>
  obtain⟨k,hk,rfl,F,⟨f4,d⟩,K⟩:=hrel;have H:=h.dF K;have k0:=H.k0;by_cases A:k<bB t.args
  .have Y:=bM k (bB t.args);have o:t.args[k]?=ah t.args[k]:=bP A;let⟨b,off,X,hv,_,hc⟩:=c.cell H.sat o;injection hv with e1 e2 e3;subst e1 e3;have ck:=hc k _ o;have M:=h.bd.args n t p _ (dw A);have U:=λm=>(H.drewN m).least M;have B:=h.bd.four t (cH p);have x1:aU wr ⟨g,1+k,ai⟩=ah (ae af 0):=by
    rw[F.cell (i:=1+k) bO];simp[ZT];omega
   have x2:=F.frozen (1+k)
   go_wp2_with(go_at_call 38;refine(U 0).mono ?_;rintro e w9 ⟨rfl,m9,rfl⟩);refine⟨⟨k+1,by omega,by simp,?_,⟨_,GZ (du d rfl) (show w.heap.size≠g by omega) _⟩,bI.nR (K.drewN _) bO _⟩,by simp[intOf];omega⟩;exact eO (jf (du F rfl:bE (bF wr m9) g 98 5 _) (1+k) _) (Ts B o)
  have Y:=bN k (bB t.args);obtain rfl:k=bB t.args:=bO
  have u:bE wr g 98 5 (λj=>(nC (Cc.sg z.g.lo t)).toArray[j]?.getD undef):=F.congr λj L=>(XT Z L).symm;have x0:aU wr ⟨g,0,ai⟩=ah (.string (Cc.sg z.g.lo t).name):=u.cell (i:=0) bO;have x1:aU wr ⟨g,1,ai⟩=ah (ae af ((Cc.sg z.g.lo t).arg 0:Int)):=u.cell (i:=1) bO;have x2:aU wr ⟨g,2,ai⟩=ah (ae af ((Cc.sg z.g.lo t).arg 1:Int)):=u.cell (i:=2) bO;have x3:aU wr ⟨g,3,ai⟩=ah (ae af ((Cc.sg z.g.lo t).arg 2:Int)):=u.cell (i:=3) bO;have x4:aU wr ⟨g,4,ai⟩=ah (ae af ((Cc.sg z.g.lo t).arg 3:Int)):=u.cell (i:=4) bO;have y0:=d.cell (i:=0) bO;have y1:=d.cell (i:=1) bO;have y2:=d.cell (i:=2) bO;have y3:=d.cell (i:=3) bO;have y4:=d.cell (i:=4) bO;have v0:=d.frozen 0;have v1:=d.frozen 1;have v2:=d.frozen 2;have v3:=d.frozen 3;have v4:=d.frozen 4
  go_wp2_with fail;generalize Cc.sg z.g.lo t=s at *;have Q:=bI.nR (off:=4) (bI.nR (off:=3) (bI.nR (off:=2) (bI.nR (off:=1) (bI.nR (off:=0) K (bT _) (.string s.name)) (bT _) (ae af (s.arg 0:Int))) (bT _) (ae af (s.arg 1:Int))) (bT _) (ae af (s.arg 2:Int))) (bT _) (ae af (s.arg 3:Int));have r:=((((d.set 0 (.string s.name)).set 1 (ae af (s.arg 0:Int))).set 2 (ae af (s.arg 1:Int))).set 3 (ae af (s.arg 2:Int))).set 4 (ae af (s.arg 3:Int));generalize aW (aW (aW (aW (aW wr ⟨w.heap.size,0,ai⟩ (.string s.name)) ⟨w.heap.size,1,ai⟩ (ae af (s.arg 0:Int))) ⟨w.heap.size,2,ai⟩ (ae af (s.arg 1:Int))) ⟨w.heap.size,3,ai⟩ (ae af (s.arg 2:Int))) ⟨w.heap.size,4,ai⟩ (ae af (s.arg 3:Int))=C at Q r⊢;have z0:aU C ⟨w.heap.size,0,ai⟩=ah (.string s.name):=r.cell (i:=0) bO;have z1:aU C ⟨w.heap.size,1,ai⟩=ah (ae af (s.arg 0:Int)):=r.cell (i:=1) bO;have z2:aU C ⟨w.heap.size,2,ai⟩=ah (ae af (s.arg 1:Int)):=r.cell (i:=2) bO;have z3:aU C ⟨w.heap.size,3,ai⟩=ah (ae af (s.arg 2:Int)):=r.cell (i:=3) bO;have z4:aU C ⟨w.heap.size,4,ai⟩=ah (ae af (s.arg 3:Int)):=r.cell (i:=4) bO;refine⟨rfl,.agg #[.string s.name,ae af (s.arg 0:Int),ae af (s.arg 1:Int),ae af (s.arg 2:Int),ae af (s.arg 3:Int)],by simp[results,results34,go_sem,z0,z1,z2,z3,z4],rfl,Q⟩
variable{f:Nat->aA}
theorem mT{t d:aE}{g:Nat->aA}(h:bE w b t n f)(i:bE w b' d n' g)(q:t≠d):b≠b':=by rintro rfl;obtain⟨c,p,_⟩:=h;obtain⟨o,m,_⟩:=i;grind
theorem sH{t k:aE}(h:bE w b t n f)(d:mL w k b' D):b≠b':=by rintro rfl;obtain⟨c,i,_⟩:=h;obtain⟨es,g,m,_⟩:=d;grind
theorem mJ{B o s C:Nat}{i:aE}{m:aA}{xs c:List aA}(h:bD w B e s v n xs)(u:bD w o i C m n' c)(F:e≠i)(G:aP v=ah k):aP m≠ah k:=by
 intro y;obtain⟨r,_⟩|⟨b,p,q,r,_,E,_⟩:=h.2
 .grind[aP]
 obtain⟨A,_⟩|⟨b',d,g,A,_,x,_⟩:=u.2
 .grind[aP]
 grind[aP]
structure abN(z:Zs):Prop where
 kp:z.pk≠z.ps
 kn:z.pk≠z.nb
 kj:aP z.jv≠ah z.pk
 kt:z.pk≠z.tb
 ku:z.pk≠z.ub
 km:z.pk≠z.mb
 kb:aP z.bv≠ah z.pk
 pt:z.ps≠z.tb
 nt:z.nb≠z.tb
 jt:aP z.jv≠ah z.tb
 ut:z.ub≠z.tb
 mt:z.mb≠z.tb
 bt:aP z.bv≠ah z.tb
 pu:z.ps≠z.ub
 nu:z.nb≠z.ub
 ju:aP z.jv≠ah z.ub
 pm:z.ps≠z.mb
 nm:z.nb≠z.mb
 jm:aP z.jv≠ah z.mb
 pb:aP z.bv≠ah z.ps
 nb:aP z.bv≠ah z.nb
 jb:∀k,aP z.jv=ah k->aP z.bv≠ah k
 um:z.ub≠z.mb
 ub:aP z.bv≠ah z.ub
 mb:aP z.bv≠ah z.mb
theorem Cz.apart(h:Cz w base l z):abN z:=by
 let⟨D,c,_⟩:=h.known;have L:=h.ie.mu;exact⟨mT h.cls L.ie bS,mT h.cls L.nodes bS,dY h.cls bS L.iA,mT h.cls h.kN bS,mT h.cls h.ld bS,sH h.cls c,dY h.cls bS h.back,
  mT L.ie h.kN bS,mT L.nodes h.kN bS,dY h.kN bS L.iA,mT h.ld h.kN bS,(sH h.kN c).symm,dY h.kN bS h.back,
  mT L.ie h.ld bS,mT L.nodes h.ld bS,dY h.ld bS L.iA,sH L.ie c,sH L.nodes c,tu c L.iA,dY L.ie bS h.back,dY L.nodes bS h.back,
  λk d=>mJ L.iA h.back bS d,sH h.ld c,dY h.ld bS h.back,tu c h.back⟩
def Cz.xx(h:Cz w base l z){x:Nat×Obj}(c:x∈z.st):x.1<w.heap.size:=(bY.1 (h.sat x c)).1
structure oW(w:ay)(z z':Zs):Prop where
 pk:z'.pk=z.pk
 Gg:∀k,z'.gE k->z.gE k∨w.heap.size<=k
 tb:z'.tb=z.tb
 st:∀x∈z'.st,x∈z.st∨w.heap.size<=x.1
theorem oW.refl(w z):oW w z z:=⟨rfl,λ_ h=>.inl h,rfl,λ_ h=>.inl h⟩
def oW.trans{a b c:Zs}(h:oW w a b)(k:oW w' b c)(hs:w.heap.size<=w'.heap.size):oW w a c:=
 ⟨k.pk.trans h.pk,λi d=>(k.Gg i d).elim (h.Gg i) λx=>.inr (bZ hs x),k.tb.trans h.tb,λx g=>(k.st x g).elim (h.st x) λx=>.inr (bZ hs x)⟩
theorem oW.all{c:Zs}(h:oW w z c)(d:c.nO k):z.nO k∨w.heap.size<=k:=by
 obtain e|e|⟨o,e⟩:=d
 .exact(h.Gg k e).imp .inl id
 .exact .inl (.inr (.inl (e.trans h.tb)))
 exact(h.st _ e).imp (λx=>.inr (.inr ⟨o,x⟩)) id
theorem Cz.ON(h:Cz w base l z)(x:Nat×Obj)(p:w.heap[x.1]?=ah x.2)(d:base<=x.1)(g:¬z.gE x.1):Cz w base l {z with st:=z.st++[x]}:=by
 refine⟨h.cls,h.ie,h.kN,h.ld,h.known,h.back,?_,?_,λi t o=>(h.argsAt i t o).mono λy c=>dh _ c,λi m=>(h.ki i m).mono λy c=>dh _ c,h.bd,h.yr,h.len,h.bp,h.bt,h.bu,h.bm⟩
 .intro y c;obtain c|c:=cU.1 c
  .exact h.sat y c
  grind
 intro y c;obtain c|c:=cU.1 c
 .exact h.ot y c
 simp at c;subst c;exact⟨d,g⟩
theorem Cz.store(h:Cz w base l z)(hs:Sk s)(r:n<100000)(q:z.ms<1000000):
  ∃w',(Instr.mapUpdate 68 (.map (ah z.mb)) (oR s) (iz n)).run prog w=.ok () w'∧Cz w' base l {z with kn:=λu=>if u=s then ah n else z.kn u,ms:=z.ms+1}∧dV z.mb w w':=by
 let⟨D,o,C,p⟩:=h.known;let⟨w',B,y,c⟩:=ke o MF underlying68 cJ (vH hs.ok) (ou underlying3 (uj r));have K:dV z.mb w w':=jw c.grown;have A:=h.apart;have g:=gT o MF;refine⟨w',B,⟨h.cls.of_block (K.block _ h.cls.lt A.km),h.ie.other K A.pm A.nm (λk d e=>A.jm (by rw[d,e])),h.kN.of_block (K.block _ h.kN.lt A.mt.symm),h.ld.of_block (K.block _ h.ld.lt A.um),⟨_,jP y,?_,?_⟩,
  gh h.back (λk d=>K.block k (h.back.lt k d).2 λe=>A.mb (by rw[d,e])),λx m=>(K.block x.1 (h.xx m) λe=>(h.ot x m).2 (.inr (.inr (.inr (.inl e))))).trans (h.sat x m),h.ot,h.argsAt,h.ki,h.bd,h.yr,h.len,h.bp,h.bt,h.bu,h.bm⟩,K⟩
 .grind[size_put]
 intro u i;show kP _ (DG u) (if u=s then ah n else z.kn u);by_cases e:u=s
 .subst e;rw[cY rfl];let⟨E,e,d⟩:=Vu i.ok;rw[e];exact tS g.isMap d n
 rw[cC e];exact(p u i).n9 (λx=>e (JC i hs x)) _
theorem Cz.look(h:Cz w base l z)(hs:Sk s):
  (Instr.lookup 68 (.map (ah z.mb)) (oR s) aK).run prog w=.ok (.tuple #[iz (((z.kn s).getD 0:Nat):Int),.bool (z.kn s).isSome]) w:=by
 let⟨D,c,g,d⟩:=h.known;exact(d s hs).look c MF underlying68 (vH hs.ok)
theorem Cz.push{C w1:ay}(h:Cz w base l z)(E:dG w C)(f g)(r:bD w1 base 1 1 g (bB z.bs+1) (z.bs++[f]))(m:C.grownBy w1 (aP z.bv))(q:aP g=aP z.bv∨∀k,aP g=ah k->C.heap.size<=k):
  Cz (aW w1 (az z.pk 4) g) base l {z with bv:=g,bs:=z.bs++[f]}∧bI z.gE w (aW w1 (az z.pk 4) g)∧oW w z {z with bv:=g,bs:=z.bs++[f]}∧cz w1 z.pk 4 z.bv∧w1.frozen? (az z.pk 4)=aL∧bI (λk=>aP z.bv=ah k) w w1:=by
 have y:bI (λk=>aP z.bv=ah k) w w1:=gA (dW E λ_ _ e=>e.elim) m λ_ e=>e;have o:bI (λk=>k=z.pk∨aP z.bv=ah k) w (aW w1 (az z.pk 4) g):=eY (p:=az z.pk 4) (dW y λ_ _ e=>.inr e) (.inl rfl) _;have A:=h.apart;have hp:bE w1 z.pk 71 5 (Wh z (bB l)):=h.cls.of_block (y.block _ h.cls.lt A.kb);have np:=dY hp bS r;let⟨D,F,G,H⟩:=h.known;have c:∀k,Zs.gE {z with bv:=g,bs:=z.bs++[f]} k->z.gE k∨w.heap.size<=k:=by
  rintro k (e|e|e|e|e)
  .exact .inl (.inl e)
  .exact .inl (.inr (.inl e))
  .exact .inl (.inr (.inr (.inl e)))
  .exact .inl (.inr (.inr (.inr (.inl e))))
  obtain B|B:=q
  .exact .inl (.inr (.inr (.inr (.inr (B▸e)))))
  exact .inr (bZ E.size (B k e))
 refine⟨⟨(hp.set 4 g).congr ?_,h.ie.other o ?_ ?_ ?_,h.kN.of_block (o.block _ h.kN.lt ?_),h.ld.of_block (o.block _ h.ld.lt ?_),⟨D,oe F (o.block _ (gw F) ?_),G,H⟩,?_,?_,?_,h.argsAt,h.ki,h.bd,h.yr,h.len,h.bp,h.bt,h.bu,h.bm⟩,?_,⟨rfl,c,rfl,λ_ d=>.inl d⟩,hp.cell (i:=4) bO,hp.frozen 4,y⟩
 .grind[Wh]
 .rintro(e|e)
  .exact A.kp e.symm
  exact A.pb e
 .rintro(e|e)
  .exact A.kn e.symm
  exact A.nb e
 .rintro k u (e|e)
  .exact A.kj (by rw[u,e])
  exact A.jb k u e
 .rintro(e|e)
  .exact A.kt e.symm
  exact A.bt e
 .rintro(e|e)
  .exact A.ku e.symm
  exact A.ub e
 .rintro(e|e)
  .exact A.km e.symm
  exact A.mb e
 .grind[ownsRow_setCell_other]
 .intro x d;refine(o.block x.1 (h.xx d) ?_).trans (h.sat x d);rintro(e|e)
  .exact(h.ot x d).2 (.inl e)
  exact(h.ot x d).2 (.inr (.inr (.inr (.inr e))))
 .intro x d;refine⟨(h.ot x d).1,λu=>?_⟩;obtain e|e:=c _ u
  .exact(h.ot x d).2 e
  have:=h.xx d;omega
 refine dW o ?_;rintro k _ (e|e)
 .exact .inl e
 exact .inr (.inr (.inr (.inr e)))
theorem iQ{xs:List aA}(h:bD w base e size v n xs):∃a c,v=aj a n c:=by
 obtain⟨rfl,i⟩|⟨b,d,g,rfl,_⟩:=h.2
 .grind
 grind
theorem vB{t:aE}(h:bE w b t n f)(C)(hs:C.size=n)(o:∀i,i<n->C[i]?=ah (f i)):w.heap[b]?=ah (.cells C t):=by
 obtain⟨c,d,g,m⟩:=h;have:c=C:=cG
 rw[d,this]
theorem uH(w:ay)(m:Nat)(x:aA)(t:aE):∀j u,[x][j]?=ah u->aU (bC (bF w m) (aq #[x] t)) ((az w.heap.size 0:Addr).add j)=ah u:=by intro j u c;have e:∀k,aU (bC (bF w m) (aq #[x] t)) (az (hz w) k)=#[x][k]?:=λk=>World.cell?_alloc_at (w:=bF w m) _ t _ k rfl;grind[Addr.add]
def yY:(prog.info? 1).map (λi=>(i.zero,i.size,i.bytes))=ah (ah .nilFunc,1,8):=bV
def To(W:ay)(s:Tm):bE (bC W (aq #[.string s.name,iz (s.arg 0:Int),iz (s.arg 1:Int),iz (s.arg 2:Int),iz (s.arg 3:Int)] 98)) W.heap.size 98 5 (λj=>(nC s).toArray[j]?.getD undef):=
 ey W (nC s).toArray 98
theorem UQ(h:Cz w base l z)(n:Nat)(t:Tm)(x:l[n]?=ah t)(m:Nat)(I:z.kn (Cc.sg z.g.lo t)=ah m)(r:∀i,i<bB l->z.g.lo i<=i):
  aB prog 40 #[pz z.pk,iz n] w λe w'=>e=aw (iz m)∧dG w w':=by
 have u:=Nw h.bd r (by have:=h.len;omega) x (h.yr t (cH x));have A:dG w (bC w (aq #[pz z.pk] 57)):=dD (bW _ w) _;have q:=ey w #[pz z.pk] 57;have J:aU (bC w (aq #[pz z.pk] 57)) (az w.heap.size 0)=ah (pz z.pk):=q.cell (i:=0) bQ;have E:=LJ (h.dF A) n t x;have F:oR (Cc.sg z.g.lo t)=.agg #[.string (Cc.sg z.g.lo t).name,iz ((Cc.sg z.g.lo t).arg 0:Int),iz ((Cc.sg z.g.lo t).arg 1:Int),iz ((Cc.sg z.g.lo t).arg 2:Int),iz ((Cc.sg z.g.lo t).arg 3:Int)]:=rfl;rw[F] at E;generalize Cc.sg z.g.lo t=s at *;go_enter func40,ntmps40
 go_wp2_with(go_at_call 34;refine E.mono ?_;rintro e c ⟨rfl,p⟩);have o:=A.trans p;have B:dG c (bC c (aq #[.string s.name,iz (s.arg 0:Int),iz (s.arg 1:Int),iz (s.arg 2:Int),iz (s.arg 3:Int)] 98)):=dD (bW _ c) _;have g:=To c s;have y:w.heap.size<c.heap.size:=by have:=p.size;simp at this;omega
 generalize bC c (aq #[.string s.name,iz (s.arg 0:Int),iz (s.arg 1:Int),iz (s.arg 2:Int),iz (s.arg 3:Int)] 98)=d at *;have G:=du (du q (p.block _ q.lt λe=>e)) (B.block w.heap.size y λe=>e);generalize c.heap.size=b5 at *;have K:=o.trans B;have H:=h.dF K;have x2:cz d w.heap.size 0 (pz z.pk):=G.cell (i:=0) bQ;have k3:=H.k3;have L:cz d b5 0 (.string s.name):=g.cell (i:=0) bO;have M:cz d b5 1 (iz (s.arg 0:Int)):=g.cell (i:=1) bO;have N:cz d b5 2 (iz (s.arg 1:Int)):=g.cell (i:=2) bO;have O:cz d b5 3 (iz (s.arg 2:Int)):=g.cell (i:=3) bO;have P:cz d b5 4 (iz (s.arg 3:Int)):=g.cell (i:=4) bO;have C:=λm=>(H.drewN m).look u;rw[I,F] at C;simp only[eQ,iM] at C;go_quiet(fail)
 go_wp2;go_ret;exact⟨rfl,K.drewN _⟩
def wU(bc bx:Nat):aA:=.func (.func 75) #[] #[ak (ah ⟨bc,0,ai⟩),ak (ah ⟨bx,0,ai⟩)]
def JW(z:Zs)(bc bx:Nat)(s:Tm):List (Nat×Obj):=[(bc,aq #[ak (ah ⟨z.pk,0,ai⟩)] 57),(bx,aq (nC s).toArray 98)]
def uN(z:Zs)(n:Nat)(s:Tm)(bc bx:Nat)(v:aA):Zs:={z with bv:=v,bs:=z.bs++[wU bc bx],st:=z.st++JW z bc bx s,kn:=λu=>if u=s then ah n else z.kn u,ms:=z.ms+1}
theorem UR(h:Cz w base l z)(n:Nat)(t:Tm)(W:l[n]?=ah t)(hm:z.kn (Cc.sg z.g.lo t)=ai)(ag:∀i,i<bB l->z.g.lo i<=i)(al:z.ms<1000000)(a7:bB z.bs<1000000)(G:base<=w.heap.size):
  aB prog 40 #[pz z.pk,iz n] w λe w'=>e=aw (iz n)∧∃r bx v,w.heap.size<=r∧w.heap.size<=bx∧Cz w' base l (uN z n (Cc.sg z.g.lo t) r bx v)∧bI z.gE w w'∧oW w z (uN z n (Cc.sg z.g.lo t) r bx v):=by
 have P:=Nw h.bd ag (by have:=h.len;omega) W (h.yr t (cH W));have K1:dG w (bC w (aq #[pz z.pk] 57)):=dD (bW _ w) _;have R1:=ey w #[pz z.pk] 57;have r1:aU (bC w (aq #[pz z.pk] 57)) (az w.heap.size 0)=ah (pz z.pk):=R1.cell (i:=0) bQ;have SG:=LJ (h.dF K1) n t W;have hV:oR (Cc.sg z.g.lo t)=.agg #[.string (Cc.sg z.g.lo t).name,iz ((Cc.sg z.g.lo t).arg 0:Int),iz ((Cc.sg z.g.lo t).arg 1:Int),iz ((Cc.sg z.g.lo t).arg 2:Int),iz ((Cc.sg z.g.lo t).arg 3:Int)]:=rfl;rw[hV] at SG;generalize Cc.sg z.g.lo t=s at *;go_enter func40,ntmps40
 go_wp2_with(go_at_call 34;refine SG.mono ?_;rintro e I ⟨rfl,K2⟩);have aa:=K1.trans K2;have K3:dG I (bC I (aq #[.string s.name,iz (s.arg 0:Int),iz (s.arg 1:Int),iz (s.arg 2:Int),iz (s.arg 3:Int)] 98)):=dD (bW _ I) _;have F:=To I s;have Q:w.heap.size<I.heap.size:=by have:=K2.size;simp at this;omega
 generalize bC I (aq #[.string s.name,iz (s.arg 0:Int),iz (s.arg 1:Int),iz (s.arg 2:Int),iz (s.arg 3:Int)] 98)=B at *;have R2:=du (du R1 (K2.block _ R1.lt λe=>e)) (K3.block w.heap.size Q λe=>e);generalize I.heap.size=b5 at *;have K:=aa.trans K3;have H:=h.dF K;have b3:=F.lt;have x2:aU B (az w.heap.size 0)=ah (pz z.pk):=R2.cell (i:=0) bQ;have k3:=H.k3;have y0:aU B (az b5 0)=ah (.string s.name):=F.cell (i:=0) bO;have y1:aU B (az b5 1)=ah (iz (s.arg 0:Int)):=F.cell (i:=1) bO;have y2:aU B (az b5 2)=ah (iz (s.arg 1:Int)):=F.cell (i:=2) bO;have y3:aU B (az b5 3)=ah (iz (s.arg 2:Int)):=F.cell (i:=3) bO;have y4:aU B (az b5 4)=ah (iz (s.arg 3:Int)):=F.cell (i:=4) bO;have LN:=λm=>(H.drewN m).look P;rw[hm,hV] at LN;simp only[pT,kJ] at LN;go_quiet(fail)
 go_wp2;have hn:n<bB l:=(bU.1 W).1;have a5:=h.len;let⟨g,an,H4,R⟩:=(H.drewN (nq+1)).store P (n:=n) bO al;rw[hV] at an;have z0:∀m,aU (bF B m) (az b5 0)=ah (.string s.name):=λm=>y0;have z1:∀m,aU (bF B m) (az b5 1)=ah (iz (s.arg 0:Int)):=λm=>y1;have z2:∀m,aU (bF B m) (az b5 2)=ah (iz (s.arg 1:Int)):=λm=>y2;have z3:∀m,aU (bF B m) (az b5 3)=ah (iz (s.arg 2:Int)):=λm=>y3;have z4:∀m,aU (bF B m) (az b5 4)=ah (iz (s.arg 3:Int)):=λm=>y4;have q3:∀m,aU (bF B m) (az z.pk 3)=ah (.map (ah z.mb)):=λm=>k3;have q2:∀m,aU (bF B m) (az w.heap.size 0)=ah (pz z.pk):=λm=>x2
 go_region
 have T:bI z.gE w g:=(dW (K.drewN _) λ_ _ e=>e.elim).trans (dW R λ_ _ e=>.inr (.inr (.inr (.inl e))));have a8:=R.size;have nf:∀k,w.heap.size<=k->¬z.gE k:=λk hk hf=>by have:=h.tA hf;omega
 have M:g.heap[w.heap.size]?=ah (aq #[pz z.pk] 57):=(R.block _ (by exact Nat.lt_trans Q b3) λe=>nf _ (bT _) (.inr (.inr (.inr (.inl e))))).trans (vB R2 _ rfl λi hi=>by grind)
 have O5:g.heap[b5]?=ah (aq (nC s).toArray 98):=(R.block _ b3 λe=>nf b5 bO (.inr (.inr (.inr (.inl e))))).trans (vB F _ rfl λi hi=>by obtain rfl|rfl|rfl|rfl|rfl:=(by omega:i=0∨i=1∨i=2∨i=3∨i=4)<;>rfl)
 have J:=(H4.ON (w.heap.size,aq #[pz z.pk] 57) M G (nf _ (bT _))).ON (b5,aq (nC s).toArray 98) O5 (by show base<=b5;omega) (nf b5 bO);have G5:oW w z {z with st:=z.st++JW z w.heap.size b5 s,kn:=λu=>if u=s then ah n else z.kn u,ms:=z.ms+1}:=⟨rfl,λk hk=>.inl hk,rfl,λx hx=>by grind[JW]⟩
 have e2:z.st++[(w.heap.size,aq #[pz z.pk] 57)]++[(b5,aq (nC s).toArray 98)]=z.st++JW z w.heap.size b5 s:=by simp[JW]
 simp only[e2] at J;have a6:base<=g.heap.size:=cG
 let⟨i0,ad,ap,a0,a1⟩:=eB yY;obtain⟨E,r,A⟩:∃E r,z.bv=aj E (bB z.bs) r:=iQ h.back;have A4:∀O,aU (bC g O) (az z.pk 4)=ah (aj E (bB z.bs) r):=λO=>by rw[<-A];exact(kX J.cls O).cell (i:=4) bO
 have A2:∀O,aU (bC g O) (az w.heap.size 0)=ah (pz z.pk):=λO=>(cL (dB _ _ _ (bY.1 M).1)).trans (by simp[aU,M]);have a4:aU g (az z.pk 4)=ah (aj E (bB z.bs) r):=by rw[<-A];exact J.k4
 have a2:aU g (az w.heap.size 0)=ah (pz z.pk):=by simp[aU,M]
 have ab:∀O,(bC g O).drew.ownsRow base 1 1 (aj E (bB z.bs) r) (bB z.bs) z.bs:=λO=>by rw[<-A];exact fT J.back O
 have L:=uH g 0 (wU w.heap.size b5) 1;have KD:∀O,dG g (bC g O).drew:=λO=>((bW _ g).alloc O).drew;have N:=λw1 O q=>J.push (w1:=w1) (KD O) (wU w.heap.size b5) q;have ac:w.heap.size<g.heap.size:=(bY.1 M).1;have Y:∀o,bI (λk=>aP z.bv=ah k) g o->aU o (az w.heap.size 0)=ah (pz z.pk):=λo K5=>(cL (K5.block w.heap.size ac λe=>nf _ (bT _) (.inr (.inr (.inr (.inr e)))))).trans a2;have C:∀o O q,bD o base 1 1 q (bB z.bs+1) (z.bs++[wU w.heap.size b5])->(bC g O).drew.grownBy o (aP (aT E (bB z.bs) r))->(aP q=aP (aT E (bB z.bs) r)∨∀k,aP q=ah k->(bC g O).drew.heap.size<=k)->_:=λo O q h1 U V=>N o O q h1 (by rw[<-A] at U;exact U) (by rw[<-A] at V;exact V);have Z:∀o O q,bD o base 1 1 q (bB z.bs+1) (z.bs++[.func (.func 75) #[] #[pz w.heap.size,pz b5]])->(bC g O).drew.grownBy o (aP (aT E (bB z.bs) r))->(aP q=aP (aT E (bB z.bs) r)∨∀k,aP q=ah k->(bC g O).drew.heap.size<=k)->
   aU o (az z.pk 4)=ah (aj E (bB z.bs) r)∧o.frozen? (az z.pk 4)=aL∧aU o (az w.heap.size 0)=ah (pz z.pk):=λo O q h1 U V=>by
  let⟨_,_,_,c1,c2,P6⟩:=C o O q h1 U V;exact⟨(by rw[<-A];exact c1),c2,Y o P6⟩
 simp only[wU] at L;have X:Hid (_∧_∧_):=⟨C,T,G5⟩
 go_wp2;go_region_law(refine fe rfl (.tmp 32) (.tmp 34) 69 rfl base 1 i0 _ 1 8 underlying69 ad ap a0 a1 rfl bS _ (bB z.bs) z.bs (by simp[bq];rfl) (by exact ab _) (az g.heap.size 0) 1 1 [.func (.func 75) #[] #[pz w.heap.size,pz b5]] (by simp[bq]) rfl (by exact L) cM cJ bO bX ?_;intro q o d p y;let⟨be,bb,a9⟩:=Z o _ q d p y;let⟨b1,a3,ao⟩:=ownsRow_succ d;subst ao;replace d:=bL d;replace p:=bL p;replace y:Hid _:=y);all_goals
  go_wp2;go_ret;let⟨PU,T,G5⟩:=X.out;let⟨P1,P2,P3,_⟩:=PU o _ _ d.out p.out y.out;exact⟨rfl,w.heap.size,b5,_,bT _,by omega,P1,T.trans P2,G5.trans P3 T.size⟩
def sN:(prog.info? 3).map (λi=>(i.zero,i.size,i.bytes))=ah (ah (iz 0),1,8):=bV
def gq(l:List Nat):List aA:=l.map λx:Nat=>aS .i64 x
theorem xO(l):bB (gq l)=bB l:=by simp[gq]
theorem xP(a b):gq a++gq b=gq (a++b):=by simp[gq]
theorem sL(l:List Nat)(j:Nat):(gq l)[j]?=(l[j]?).map (λx:Nat=>aS .i64 x):=by simp[gq]
theorem UB(l):∀u∈gq l,u.oneCell'=aK:=by intro u c;simp[gq] at c;obtain⟨a,_,rfl⟩:=c;rfl
theorem iB.own(h:bD w base 3 1 v (bB xs) (gq xs))(C:xs≠[]):
  ∃x:Nat×Obj,iB [x] v xs∧w.heap[x.1]?=ah x.2∧aP v=ah x.1:=by
 obtain⟨_,A⟩|⟨g,d,c,rfl,p,u,i,q,r,m⟩:=h.2
 .grind
 refine⟨(g,.cells c 3 (0,0)),⟨ah ⟨g,0,ai⟩,d,rfl,i,.inr ⟨g,0,c,(0,0),rfl,by simp,λj x o=>?_⟩⟩,u,rfl⟩;have y:=(bU.1 o).1;have B:(gq xs)[j]?=ah (ae af x):=by rw[sL,o];rfl
 grind
theorem iB.cells(h:iB st v xs)(i:Sat st w)(m:xs≠[]):
  ∃d c,v=aj (ah d) (bB xs) c∧bB xs<=c∧∀j u,(gq xs)[j]?=ah u->aU w (d.add j)=ah u:=by
 obtain⟨x,p,rfl⟩:=List.exists_cons_of_ne_nil m;obtain⟨b,o,c,e,g,q⟩:=h.cell i (j:=0) (x:=x) rfl;grind[Addr.add,sL]
theorem Hy{w}(L:Sat st w){I J}{xs d}(q:iB st I xs)(r:iB st J d)(hl:bB xs+bB d<=1000000):
  aB prog 72 #[I,J] w λe w'=>∃p h,e=aw p∧dG w w'∧iB (st++h) p (xs++d)∧Sat h w'∧∀x∈h,w.heap.size<=x.1:=by
 by_cases c:xs=[]
 .subst c;let⟨O,c1,i⟩:=q.form;subst i;have C:iB (st++[]) J ([]++d):=by simpa using r
  let⟨P,c2,m⟩:=r.form;subst m;have N:=bL C;go_enter func72,ntmps72
  go_wp2;go_ret;exact⟨_,[],rfl,bW _ w,N.out,λx c=>by simp at c,λx c=>by simp at c⟩
 have lx:0<bB xs:=List.length_pos_iff.2 c;have Z:((bB xs:Int)==0)=aL:=gB.2 bO;by_cases g:d=[]
 .subst g;have B:iB (st++[]) I (xs++[]):=by simpa using q
  let⟨O,c1,i⟩:=q.form;subst i;let⟨P,c2,m⟩:=r.form;subst m;have M:=bL B;go_enter func72,ntmps72
  go_wp2;go_ret;exact⟨_,[],rfl,bW _ w,M.out,λx c=>by simp at c,λx c=>by simp at c⟩
 have ly:0<bB d:=List.length_pos_iff.2 g;have dy:((bB d:Int)==0)=aL:=gB.2 bO;let⟨u,c1,i,p1,Q⟩:=q.cells L c;let⟨A,c2,m,p2,R⟩:=r.cells L g;subst i m;let⟨U,E,F,G,H⟩:=eB sN;go_enter func72,ntmps72
 go_wp2_with(at_builtin;refine wpList_append_grows w rfl _ _ 110 rfl 3 U _ 1 8 underlying110 E F G H rfl bS (ah u) (bB xs) (bB xs) (gq xs) rfl bQ (by simp[xO]) (λb T=>by cases T;exact Q) A (bB d) c2 (gq d) rfl (by simp[xO]) R (UB _) bO cJ bO ?_;intro p w' V W);have K:dG w w':=gA (bW _ w) W (λ_ e=>by cases e);rw[xP] at V;have o:bD w' (hz w) 3 1 p (bB (xs++d)) (gq (xs++d)):=cG
 let⟨x,X,u2,Y⟩:=iB.own o (by simp[c]);go_ret;refine⟨p,[x],rfl,K,X.mono λy g=>gm _ g,λy g=>?_,λy g=>?_⟩
 .grind
 simp at g;subst g;exact(o.lt _ Y).1
