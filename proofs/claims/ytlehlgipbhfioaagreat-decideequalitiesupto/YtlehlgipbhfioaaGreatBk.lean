import Derived.Test.YtlehlgipbhfioaaGreatBh
import Derived.Test.YtlehlgipbhfioaaGreatBi
import Derived.Test.YtlehlgipbhfioaaGreatBj
namespace Go.Proofs.YtlehlgipbhfioaaGreat
set_option maxHeartbeats 3000000
set_option maxRecDepth 100000
set_option linter.all false
open Go.RowKit Go.Maps Go.Proofs.Tryz
open Go.Value renaming int->ae,slice->aj,pointer->ak,int->aS,ownBlock->aP
open Go.IntKind renaming i64->af
open Go.Obj renaming cells->aq
open Go.Ending renaming returned->aw
open Option renaming some->ah,none->ai
open Go.World renaming frozen?->bG,alloc->bC,cell?->aU,rowIs->bE,ownsRow->bD,setCell->aW,drewN->bF,grownBy->bH
open Go.RowKit renaming Below->aC,intOf->aG
open Go renaming Calls->aB,World->ay,Value->aA,TypeId->aE,maxLen->aY
open List renaming length->bB,replicate->aN
open Go.Builtin renaming append_->bw
open Go.Act renaming eval->bq,put->aQ
open Bool renaming true->aK,false->aL
def nj(W W':ay):Prop:=∀a v,aU W a=ah v->aU W' a=ah v
variable{W W' A C w:ay}
def nj.below(h:aC W.heap.size W W'):nj W W':=λa _ c=>(h.cell (cV W a c)).trans c
def iS:=@nj.below
def nj.trans{B:ay}(h:nj A B)(k:nj B C):nj A C:=λa v e=>k a v (h a v e)
theorem oY.mono(h:nj W W'){d:Option Addr}{cls:List Int}(o:oY W d cls):oY W' d cls:=
 o.imp id λ⟨g,off,i,m⟩=>⟨g,off,i,λj c p=>h _ _ (m j c p)⟩
variable{v tv dv jv:aA}
theorem mB.mono(h:nj W W'){l:List Pr}(d:mB W v l):mB W' v l:=by obtain⟨a,c,rfl,d⟩:=d;exact⟨a,c,rfl,d.imp id λ⟨b,off,o,i⟩=>⟨b,off,o,λj p m=>⟨h _ _ (i j p m).1,h _ _ (i j p m).2⟩⟩⟩
def pQ(W:ay)(v:aA)(l:List Nat):Prop:=∃a c,v=aj a (bB l) c∧oY W a (l.map λn:Nat=>(n:Int))
variable{l:List Nat}
theorem pQ.mono(h:nj W W')(d:pQ W v l):pQ W' v l:=by obtain⟨a,c,rfl,d⟩:=d;exact⟨a,c,rfl,d.mono h⟩
variable{B j n a base g off x b size k pb sp nb kb:Nat}
theorem pQ.get(h:pQ W v l)(m:l[j]?=ah n):∃b off c,v=aj (ah (az b off)) (bB l) c∧aU W ⟨b,off+j,ai⟩=ah (iz n):=by
 obtain⟨a,c,rfl,i⟩:=h;obtain e|⟨b,off,rfl,d⟩:=i
 .simp_all
 exact⟨b,off,c,rfl,d j n (by simp[m])⟩
def zW(W:ay)(v:aA)(L:List (List Nat)):Prop:=∃a c,v=aj a (bB L) c∧(L=[]∨∃b off,a=ah ⟨b,off,ai⟩∧∀(j:Nat)(r:List Nat),L[j]?=ah r->∃u,aU W ⟨b,off+j,ai⟩=ah u∧pQ W u r)
variable{L:List (List Nat)}
theorem zW.mono(h:nj W W')(d:zW W v L):zW W' v L:=by obtain⟨a,c,rfl,d⟩:=d;refine⟨a,c,rfl,d.imp id λ⟨b,off,i,m⟩=>⟨b,off,i,λj r o=>?_⟩⟩;let⟨u,p,q⟩:=m j r o;exact⟨u,h _ _ p,q.mono h⟩
theorem zW.get(h:zW W v L){r:List Nat}(d:L[j]?=ah r):∃b off c u,v=aj (ah (az b off)) (bB L) c∧aU W ⟨b,off+j,ai⟩=ah u∧pQ W u r:=by
 obtain⟨a,c,rfl,i⟩:=h;obtain e|⟨b,off,rfl,m⟩:=i
 .rw[e] at d;simp at d
 grind
def sR(W:ay)(v:aA)(ts:List Tm):Prop:=∃a c,v=aj a (bB ts) c∧(ts=[]∨∃b off,a=ah ⟨b,off,ai⟩∧∀(j:Nat)(t:Tm),ts[j]?=ah t->aU W ⟨b,off+j*2,ai⟩=ah (.string t.name)∧∃u,aU W ⟨b,off+j*2+1,ai⟩=ah u∧pQ W u t.args)
variable{ts:List Tm}
theorem sR.mono(h:nj W W')(d:sR W v ts):sR W' v ts:=by obtain⟨a,c,rfl,d⟩:=d;refine⟨a,c,rfl,d.imp id λ⟨b,off,i,m⟩=>⟨b,off,i,λj r o=>?_⟩⟩;let⟨p,u,q,s⟩:=m j r o;exact⟨h _ _ p,u,h _ _ q,s.mono h⟩
theorem sR.get(h:sR W v ts){t:Tm}(d:ts[j]?=ah t):∃b off c u,v=aj (ah (az b off)) (bB ts) c∧aU W ⟨b,off+j*2,ai⟩=ah (.string t.name)∧aU W ⟨b,off+j*2+1,ai⟩=ah u∧pQ W u t.args:=by
 obtain⟨a,c,rfl,i⟩:=h;obtain e|⟨b,off,rfl,m⟩:=i
 .rw[e] at d;simp at d
 grind
def ye(l:List Tm)(i:Nat):List Nat:=(l[i]?.map Tm.args).getD []
def iZ(l:List Tm)(c:Pr):List Pr:=List.zipWith eT (ye l c.1) (ye l c.2)
theorem Up(a b:Nat):min (a:Int) (b:Int)=((eT a b).1:Int):=by unfold eT;simp only;omega
theorem Uo(a b:Nat):max (a:Int) (b:Int)=((eT a b).2:Int):=by unfold eT;simp only;omega
theorem yN(w:ay)(a b:Nat):aB prog 79 #[iz a,iz b] w λe c=>e=aw (.agg #[iz ((eT a b).1:Int),iz ((eT a b).2:Int)])∧aC w.heap.size w c:=by refine(BX w a b).mono ?_;rintro e c ⟨rfl,rfl⟩;rw[Up,Uo];exact⟨rfl,(cW _ _).alloc (bT _) _⟩
theorem Kg{w}{pb}{tv}{l}(c)(x1:cz w pb 1 tv)(hT:sR w tv l)(s t)(hs:l[c.1]?=ah s)(ht:l[c.2]?=ah t)(M:bB s.args=bB t.args)(a8:bB s.args<=4):
  aB prog 141 #[pz pb,.agg #[iz c.1,iz c.2]] w λe w'=>∃v,e=aw v∧bD w' w.heap.size 34 2 v (bB (iZ l c)) (lj (iZ l c))∧aC w.heap.size w w':=by
 let⟨b,off,tc,u1,hv,_,p1,R⟩:=hT.get hs;let⟨b',a3,a1,u2,z,_,Q,S⟩:=hT.get ht;rw[hv] at z;simp only[fL,fw,oy,mC,sk] at z;obtain⟨⟨rfl,rfl⟩,rfl⟩:=z;subst hv;have a4:=(bU.1 hs).1;have a5:=(bU.1 ht).1;have HA:Hid (iZ l c=List.zipWith eT s.args t.args):=by show _=_;simp[iZ,ye,hs,ht]
 obtain⟨sa,sc,rfl,k1⟩:=id R;obtain⟨ta,ba,rfl,k2⟩:=id S;have HR:=bL (b9 x1 (b9 p1 (b9 Q (b9 R S))));let⟨i0,ac,ao,ap,a0⟩:=eB Mx;have J:bB (iZ l c)=bB s.args:=by rw[HA.out];simp[<-M]
 have HG:Hid (∀i a b,s.args[i]?=ah a->t.args[i]?=ah b->(iZ l c)[i]?=ah (eT a b)):=λi a b h1 h2=>by rw[HA.out,List.getElem?_zipWith,h1,h2]
 have U:aC w.heap.size w (bC w (aq #[iz c.1,iz c.2] 34)):=(cW _ _).alloc (bT _) _;have T:=ey w #[iz c.1,iz c.2] 34;have HX:Hid (∀W,aC (w.heap.size+1) (bC w (aq #[iz c.1,iz c.2] 34)) W->nj w W∧cz W w.heap.size 0 (iz c.1)∧cz W w.heap.size 1 (iz c.2)∧aC w.heap.size w W):=λW N=>by have e:=N.block w.heap.size bO;have q:aC w.heap.size w W:=U.trans (N.mono bO);exact⟨nj.below q,(cL (a:=az w.heap.size 0) e).trans (T.cell (i:=0) bQ),(cL (a:=az w.heap.size 1) e).trans (T.cell (i:=1) bQ),q⟩
 have y1:=nj.below U _ _ x1;have y2:=nj.below U _ _ p1;have y3:=T.cell (i:=0) bQ;have hz:(bC w (aq #[iz c.1,iz c.2] 34)).heap.size=w.heap.size+1:=bQ
 have R0:Hid (∀m,tZ w.heap.size 34 2 (bC w (aq #[iz c.1,iz c.2] 34)) (aj ai 0 0) (bF (bC w (aq #[iz c.1,iz c.2] 34)) m) (aj ai 0 0) 0 (lj ((iZ l c).take 0))):=λm=>by refine⟨by simpa[lj] using eR _ _ _ _,(bW _ _).drewN m,cB rfl⟩
 have X:=bL J;obtain⟨n,hn⟩:=bJ (bB s.args);have d:Hid (bB t.args=n∧bB s.args=n):=⟨by omega,hn⟩
 rw[<-M,hn] at HR;rw[hn] at y2;go_enter func141,ntmps141
 go_wp2;generalize(bC w (aq #[iz c.1,iz c.2] 34))=F at *;go_quiet(fail)
 go_wp2;have R1:Hid (_):=R0.out nq;have G:Hid (∀W,aC F.heap.size F W->_):=λW N=>HX.out W (hz▸N);have a2:(bF F nq).heap.size=w.heap.size+1:=hz;generalize bF F nq=w1 at *
 go_loopw[5,18] (λt5 D W=>∃i:Nat,i<=n∧D=iz i∧Hid (tZ w.heap.size 34 2 F (aj ai 0 0) W t5 i (lj ((iZ l c).take i)))) λ_ D _=>n-(aG D).toNat
 case atStart=>grind
 case round=>
  obtain⟨i,hi,rfl,h⟩:=hrel;by_cases u:i<n
  .have an:IntKind.i64.wrap ((i:Int)+1)=(i:Int)+1:=by rw[cX];omega
   have ag:aC F.heap.size F wr:=h.out.kept.below (bT _) (λk e=>by cases e);let⟨O,z1,z2,_⟩:=G.out wr ag;let⟨x1,p1,Q,R,S⟩:=HR.out;have x1:=O _ _ x1;have Q:=O _ _ Q;have H:i<bB s.args:=by rw[d.out.2];exact u
   have I:i<bB t.args:=by rw[d.out.1];exact u
   let⟨sb,so,a9,Y,g1⟩:=(R.mono O).get (bP H);let⟨tb,bb,a1,Z,g2⟩:=(S.mono O).get (bP I);rw[d.out.2] at Y;rw[d.out.1] at Z;simp only[fL,mC] at Y Z;obtain⟨rfl,rfl⟩:=Y;obtain⟨rfl,rfl⟩:=Z;have HT:Hid ((iZ l c).take (i+1)=(iZ l c).take i++[eT s.args[i] t.args[i]]):=by show _=_;rw[dJ,HG.out i _ _ (bP H) (bP I)];rfl
   have OR:=yN wr.drew s.args[i] t.args[i];generalize s.args[i]=a at *;generalize t.args[i]=b at *;let⟨ma,mc,hm⟩:=dZ h.out.row;subst hm;have a6:bB ((iZ l c).take i)=i:=by rw[fB,X.out,d.out.2];omega
   have a7:w.heap.size+1<=wr.heap.size:=by have:=h.out.kept.size;omega
   go_wp2;go_region_law(first|(refine fe rfl (.tmp 23) (.tmp 38) 109 rfl w.heap.size 34 i0 _ 2 16 underlying109 ac ao ap a0 rfl bS (aj ma i mc) i (lj ((iZ l c).take i)) (by(try simp only[aQ,cD,cw,ct,cf,cN,cK]);first|rfl|(simp[bq];done)) (by exact fT R5 _) (az w5.heap.size 0) 1 1 [iz ((eT a b).1:Int),iz ((eT a b).2:Int)] (by(try simp only[aQ,cD,cw,ct,cf,cN,cK]);first|rfl|(simp[bq];done)) rfl (xZ _ _ _ _) cM cJ bO bX ?_;intro v8 w8 y p r)|(go_simp;go_at_call 79;refine OR.mono ?_;rintro e w5 ⟨rfl,o⟩;have R5:=ew (W:=wr.drew) h.out.row o;have ab:wr.heap.size<=w5.heap.size:=o.size));all_goals
    have aa:aC wr.heap.size wr w5:=⟨o.os,o.tape,o.output,o.size,o.block⟩
    have H8:Hid (_):=h.out.push (aa.alloc ab _) y p r
    go_wp2;refine⟨⟨i+1,u,by simp,?_⟩,by simp[aG];omega⟩;rw[HT.out,BJ];exact H8.out
  have ad:i=n:=bO
  have HF:Hid (_):=h.out;rw[ad] at HF;have al:(iZ l c).take n=iZ l c:=by rw[<-d.out.2,<-X.out];exact fI
  have V:Hid (aC w.heap.size w wr):=(G.out wr (h.out.kept.below (bT _) λk e=>by cases e)).2.2.2;have HL:Hid (bB (iZ l c)=n):=X.out.trans d.out.2
  go_wp2;go_ret;refine⟨_,rfl,?_,V.out⟩;have:=HF.out.row;rw[al] at this;rw[HL.out];exact this
def kH(W:ay)(base:Nat)(e:aE)(v:aA)(xs:List aA):Prop:=
 ∃g off cap cur,v=aj (ah ⟨g,off,ai⟩) (bB xs) cap∧base<=g∧W.heap[g]?=ah (.cells cur e (0,0))∧off+cap<=cur.size∧bB xs<=cap∧cap<=aY∧(cur.toList.drop off).take (bB xs)=xs
def zZ:aA->Option Nat
 | aj (ah a) _ _=>ah a.block
 |_=>ai
variable{P:Program}
theorem BH(w base)(t X e:aE)(i:TypeInfo)(z m)(ht:P.underlying t=ah (.slice e))(hi:P.info? e=ah i)(hz:i.zero=ah z)(d:i.size=1)(N:i.bytes=m)(V:z.cells.size=1)(v xs)(hw:kH w base e v xs)(a c u)(hu:aU w a=ah u)(h1:u.oneCell'=aK)(F:bB xs+1<=aY)(r:(bB xs+1)*m<=140737488355328)(y:base<=w.heap.size):
  ∃J Y,(bw #[t,t] X #[v,aj (ah a) 1 c]).run P w=.ok J Y∧kH Y base e J (xs++[u])∧bH w Y (zZ v)∧(zZ J=zZ v∨zZ J=ah w.heap.size):=by
 obtain⟨g,off,h,q,rfl,M,Q,aa,ab,O,D⟩:=hw;have I:bB xs+1<=9223372036854775807:=by simp only[aY] at F;omega
 have o:∀j v,[u][j]?=ah v->aU w (a.add j)=ah v:=λj v s=>by
  match j,s with
  |0,s=>simp at s;subst s;exact hu
 have hl:[u].length=1*i.size:=by rw[d];rfl
 by_cases p:bB xs+1<=h
 .have Z:=run_firstCells_some (P:=P) w i.size 1 a 1 c [u] hl o;have H:=run_storeCells_at P g (off+bB xs) e [u] 0 q w Q bX (by simpa using h1);simp only[fH] at H;have U:(bw #[t,t] X #[aj (ah (az g off)) (bB xs) h,aj (ah a) 1 c]).run P w=.ok (aj (ah (az g off)) (bB xs+1) h) (w.setRow g (q.toList.take (off+bB xs)++[u]++q.toList.drop (off+bB xs+1)).toArray):=by
   simp[bw,gM ht,sizeOf,typeInfo,hi,Builtin.lenOf,p,j9,d];rw[d] at Z;simp[Z,H]
  refine⟨_,_,U,⟨g,off,h,_,by simp,M,setRow_heap w g q _ e _ Q,?_,by simpa using p,O,?_⟩,⟨rfl,rfl,rfl,by simp,λk _ T=>setRow_other w g k _ λe=>T (by simp[zZ,e])⟩,cB rfl⟩
  .simp only[fU,cR,fB,tH,KU,eD];omega
  grind
 have holds:∀j v,xs[j]?=ah v->aU w ((az g off:Addr).add j)=ah v:=λj v s=>by
  have S:=(bU.1 s).1;rw[<-D,qz S,lS] at s;rw[j9];simp only[aU,Q];simpa using s
 have U:=run_append_grow (P:=P) w t X e i z ht hi hz (az g off) (bB xs) h xs (by rw[d,iq]) holds a 1 c [u] hl o bO bO (by rw[N];exact growslice_fits bO r);have R:=grownCap_ge w (bB xs+1) h e;have G:grownCap w (bB xs+1) h e<=aY:=grownCap_le_maxLen w (bB xs+1) h e F;refine⟨_,_,U,⟨w.heap.size,0,_,_,by simp,y,eW w.drew _,?_,by simpa using R,G,?_⟩,⟨rfl,rfl,rfl,by simp,λk T _=>jd w.drew _ T⟩,cI rfl⟩
 .simp only[Sh,fU,size_zeroCells,V,eD];omega
 grind
theorem rL{D:Array Oper}{p:List Oper}{o:Oper}{a:Act}{Q:Exit->Act->ay->Prop}(J:o.guard=ai)(s x:Operand)(t:aE)(V:o.op=.call {callee:=.builtin .append,args:=#[s,x],argTypes:=#[t,t]})(base)(e:aE)(i:TypeInfo)(z d)(Y:P.underlying t=ah (.slice e))(U:P.info? e=ah i)(hz:i.zero=ah z)(r:i.size=1)(I:i.bytes=d)(M:z.cells.size=1)(v xs)(hs:a.eval s=v)(hw:kH w base e v xs)(G c u)(hx:a.eval x=aj (ah G) 1 c)(Z:aU w G=ah u)(N:u.oneCell'=aK)(H:bB xs+1<=aY)(m:(bB xs+1)*d<=140737488355328)(q:base<=w.heap.size)(h:∀y F,kH F base e y (xs++[u])->bH w F (zZ v)->(zZ y=zZ v∨zZ y=ah w.heap.size)->wpList P D Q p (a.put o.dst y) F):
  wpList P D Q (o::p) a w:=by
 refine wpList_plain J λK T=>?_;let⟨y,F,X,O,R,S⟩:=BH (P:=P) w base t o.type e i z d Y U hz r I M v xs hw G c u Z N H m q;unfold Oper.wp execOp;simp[V,resolve,invoke,builtin,Sem.run_bind,Sem.run_pure,Sd,Xc,iG,nZ,hs,hx,X];exact T _ _ (h y F O R S)
variable{e:aE}{xs:List aA}
theorem kH.keep(h:kH W base e v xs)(p:∀g,zZ v=ah g->W'.heap[g]?=W.heap[g]?):kH W' base e v xs:=by obtain⟨g,off,c,d,rfl,i,m,o⟩:=h;exact⟨g,off,c,d,rfl,i,(p g rfl).trans m,o⟩
theorem kH.lt(h:kH W base e v xs)(i:zZ v=ah g):base<=g∧g<W.heap.size:=by
 obtain⟨m,off,c,d,rfl,o,p,q⟩:=h;cases i
 grind
theorem kH.get(h:kH W base e v xs):∃g off c,v=aj (ah (az g off)) (bB xs) c∧bB xs<=c∧c<=aY∧∀(j:Nat)(u:aA),xs[j]?=ah u->aU W ⟨g,off+j,ai⟩=ah u:=by obtain⟨g,off,c,d,rfl,i,m,o,p,q,r⟩:=h;grind[aU]
theorem kH.tail{c:Nat}{x:aA}(h:kH W base e (aj (ah (az g off)) n c) (x::xs)):kH W base e (.slice (ah (az g (off+1))) (bB xs) (c-1)) xs:=by
 obtain⟨z,p,i,d,m,q,r,D,s,F,o⟩:=h;simp[fL,fw,oy,sk] at m;obtain⟨⟨rfl,rfl⟩,rfl,rfl⟩:=m;simp[ed] at s o;refine⟨g,off+1,c-1,d,rfl,q,r,by omega,by omega,by omega,?_⟩;have u:d.toList.drop (off+1)=(d.toList.drop off).drop 1:=by rw[py]
 have y:=congrArg (List.drop 1) o;grind[List.drop_take]
theorem kH.none_{x:aA}(h:kH W base e (aj (ah (az g off)) n 1) (x::xs)):kH W base e (aj (ah (az g off)) (bB xs) 0) xs:=by obtain⟨r,m,d,c,i,o,p,s,u,y,z⟩:=h;simp[fL,fw,oy,sk] at i;obtain⟨⟨rfl,rfl⟩,rfl,rfl⟩:=i;have q:xs=[]:=eE cG;subst q;exact⟨g,off,0,c,rfl,o,p,by omega,by simp,by omega,by simp⟩
def aem:=@kH.none_
theorem kH.one(w:ay)(e:aE)(u:aA)(base:Nat)(c:base<=w.heap.size):kH (bC w (aq #[u] e)) base e (aj (ah (az w.heap.size 0)) 1 1) [u]:=
 ⟨hz w,0,1,#[u],rfl,c,eW w _,bT _,bT _,by unfold aY;omega,rfl⟩
def oN(W:ay)(g:Nat)(xs:List Nat):Prop:=W.heap[g]?=ah (aq (xs.map i64).toArray 3)
theorem oN.cell{xs:List Nat}(h:oN W g xs){i:Nat}(c:xs[i]?=ah x):aU W (az g i)=ah (iz x):=by unfold oN at h;simp[aU,h,c,i64]
theorem oN.frozen{xs:List Nat}(h:oN W g xs)(i):bG W (az g i)=aL:=by unfold oN at h;simp[bG,h]
theorem oN.set{xs:List Nat}(h:oN W g xs)(i x:Nat):oN (aW W (az g i) (iz x)) g (xs.set i x):=by unfold oN at h⊢;rw[pW];exact mf h i (i64 x)
theorem M8(t):∀(c:List Nat)(n:Nat)(d td:List Nat),jW t (c++[n]) d td=if(jW t c d td).1[n]?.getD 0=0 then((jW t c d td).1.set n (t+1),(jW t c d td).2++[n]) else jW t c d td:=by
 intro c
 induction c with
 |nil=>grind[jW]
 |cons m c h=>grind[jW]
theorem Dd(t):∀(c d td:List Nat),(jW t c d td).1.length=bB d∧∃u,(jW t c d td).2=td++u∧∀x∈u,x∈c:=by
 intro c
 induction c with
 |nil=>simp_all[jW]
 |cons m c h=>
  intro d td;simp[jW]
  split
  .let⟨i,u,o,p⟩:=h (d.set m (t+1)) (td++[m]);grind
  let⟨i,u,o,p⟩:=h d td;grind
theorem EL(t):∀(c d td:List Nat),(∀n∈c,n<bB d)->(jW t c d td).2.length+(jW t c d td).1.count 0<=bB td+d.count 0:=by
 intro c
 induction c with
 |nil=>intro d td _;exact bT _
 |cons m c h=>grind[jW]
structure PaR(w W:ay)(nx td:List Nat)(v:aA):Prop where
 row:oN W w.heap.size nx
 win:kH W (w.heap.size+1) 3 v (td.map i64)
 below:aC w.heap.size w W
variable{E:iE}
theorem Yn(D:wu L E)(h:gO E a b)(r:a<bB L)(s:b<bB L):
  ∃d td done p,ZB L a (bB L+2) ((aN (bB L) 0).set b (b+1)) [b]=ah d∧Bf L b d td done∧d[a]?.getD 0≠0∧uk d b (bB L+1) a=ah p∧BW L a b=ah (a::p):=by
 have q:∀x,((aN (bB L) 0).set b (b+1))[x]?.getD 0=if x=b then b+1 else 0:=λx=>by
  by_cases e:x=b
  .subst e;rw[cY rfl,lE (by simpa using s)];rfl
  rw[cC e,uh λc=>e c.symm,rD]
  split<;>rfl
 have z:Bf L b ((aN (bB L) 0).set b (b+1)) [b] []:=by
  refine⟨by simp,by simp,λx=>?_,by rw[q,cY rfl],λi x m o=>?_,by simp⟩
  .rw[q];by_cases e:x=b
   .subst e;simp[s]
   simp[e]
  exfalso;have:=cH m;simp at this;exact o this
 let⟨d,td,done,H,c,y⟩:=MZ D h.symm r (bB L+2) _ [b] [] z bQ bQ;let⟨i,G,F⟩:=gF.1 ((c.mem a).2 ⟨r,y⟩);have u:=sK c.nd λx m=>((c.mem x).1 m).1;let⟨p,I,J,M,N,O⟩:=Be c (bB L+1) i a (by rw[bP G,F]) bO;grind[BW]
def qQ:(prog.info? 3).map (λi=>(i.zero,i.size,i.bytes))=ah (ah (iz 0),1,8):=bV
theorem wN(w:ay)(n:Nat)(p:n<=1048577):(Instr.makeSlice 39 (iz n) (iz n)).run prog w=.ok (aj (ah (az w.heap.size 0)) n n) (bC w (aq (aN n (iz 0)).toArray 3)):=by let⟨o,d,h,i,m⟩:=eB qQ;have c:=oo (P:=prog) w 39 3 o _ underlying39 d h .i64 .i64 (n:Int) (n:Int) bO (kh _) (by rw[m];omega) bO;rw[i] at c;simp[eS,iq] at c;rw[<-jE];exact c
theorem Ym{w}(pb ta tc){lv}(hL:bB L<=1048576)(cp:∀r∈L,bB r<=1048576)(x1:aU w ⟨pb,1,ai⟩=ah (aj ta (bB L) tc))(x3:aU w ⟨pb,3,ai⟩=ah lv)(hl:zW w lv L)(hE:wu L E){a b}(cr:gO E a b)(ha:a<bB L)(hb:b<bB L){p}(hp:BW L a b=ah p):
  aB prog 140 #[ak (ah ⟨pb,0,ai⟩),ae af a,ae af b] w λe w'=>∃v,e=aw v∧bD w' w.heap.size 3 1 v (bB p) (p.map i64)∧aC w.heap.size w w':=by
 let⟨NX,TD,DN,q,g1,g2,g3,g4,g5⟩:=Yn hE cr ha hb;obtain rfl:a::q=p:=cG
 have m1:=wN w (bB L) bO;have HE:=bL hE;have cm:=bL cp;have HB:=bL (b9 g1 (b9 g2 (b9 g3 g4)));have HL:=bL (b9 x3 (b9 hl x1));have a7:=fq (a:=b) bO;have hW:=eW w (aq (aN (bB L) (ae af 0)).toArray 3);have R0:oN (bC w (aq (aN (bB L) (ae af 0)).toArray 3)) w.heap.size (aN (bB L) 0):=by simp_all[oN,i64]
 have dy:Hid (PaR w (bC (bC w (aq ((Array.replicate (bB L) (aS .i64 0)).setIfInBounds b (ae af ((b:Int)+1))) 3)) (aq #[ae af b] 3)) ((aN (bB L) 0).set b (b+1)) [b] (aj (ah ⟨w.heap.size+1,0,ai⟩) 1 1)):=by
  have hs:(bC w (aq ((Array.replicate (bB L) (aS .i64 0)).setIfInBounds b (ae af ((b:Int)+1))) 3)).heap.size=w.heap.size+1:=bQ
  refine⟨?_,?_,((cW _ w).alloc (bT _) _).alloc (by rw[hs];omega) _⟩
  .unfold oN;grind[Array.replicate,i64,aN,heap_alloc_old,heap_alloc_new,List.map_set,List.map_replicate]
  have:=kH.one (bC w (aq ((Array.replicate (bB L) (aS .i64 0)).setIfInBounds b (ae af ((b:Int)+1))) 3)) 3 (ae af b) (w.heap.size+1) (by rw[hs];exact bT _);rw[hs] at this;exact this
 let⟨i0,bj,ch,ci,cj⟩:=eB qQ;go_enter func140,ntmps140
 go_wp2_with fail;generalize(bC (bC w (aq ((Array.replicate (bB L) (aS .i64 0)).setIfInBounds b (ae af ((b:Int)+1))) 3)) (aq #[ae af b] 3))=w1 at *;obtain⟨s,bi⟩:=bJ w.heap.size;have F:=bL bi;have co:Hid (PaR w w1 ((aN (bB L) 0).set b (b+1)) [b] (aj (ah ⟨s+1,0,ai⟩) 1 1)):=cG
 simp only[bi]
 go_loopg[8] (bB L+2) λk t8 W=>∃o td,Hid (ZB L a k o td=ah NX∧bB o=bB L∧((∀x∈td,x<bB L)∧bB td+o.count 0<=bB L)∧PaR w W o td t8)
 case atStart=>exact⟨_,_,HB.out.1,by simp,⟨by simpa using hb,by grind⟩,co.out⟩
 case round=>
  obtain⟨o,td,S⟩:=hrel;have an:a<bB o:=by rw[S.out.2.1];exact ha
  have q1:aU wr ⟨s,a,ai⟩=ah (ae af (o[a]:Int)):=by rw[<-F.out];exact S.out.2.2.2.row.cell (bP an)
  cases gk with
  |zero=>exact absurd S.out.1 (by simp[ZB])
  |succ k=>
  have G:=S.out.1;rw[ZB.eq_def] at G;simp only at G;by_cases ag:o[a]=0
  .have dx:((o[a]:Int)==0)=aK:=by simp[ag]
   rw[cC (by simp[bP an,ag])] at G;cases td with
   |nil=>exact absurd G bQ
   |cons t r=>
   simp only at G;have ht:t<bB L:=S.out.2.2.1.1 t bQ;have a3:L[t]?=ah L[t]:=bP ht;rw[a3,eQ] at G;let⟨x3,hl,_⟩:=HL.out;let⟨b3,o3,c3,u,c6,q3,hu⟩:=hl.get a3;have dm:L[t].length<=1048576:=cm.out _ (dw ht);have aa:Hid (∀y∈L[t],y<bB L):=λy hy=>HE.out.lt t y (by rw[a3];exact hy);generalize L[t]=z at *;let⟨na,nc,db,_⟩:=id hu;subst db c6;have cn:Hid (pQ w (aj na (bB z) nc) z):=hu;have hM:nj w wr:=iS S.out.2.2.2.below;have x3:=hM _ _ x3;have q3:=hM _ _ q3;let⟨wg,wo,wc,dg,d5,d6,dj⟩:=S.out.2.2.2.win.get;subst dg;have q2:aU wr ⟨wg,wo,ai⟩=ah (ae af t):=dj 0 _ rfl;have ck:Hid (∀m,PaR w (bF wr m) (jW t (z.take 0) o (t::r)).1 (jW t (z.take 0) o (t::r)).2 (.slice (ah ⟨wg,wo,ai⟩) (bB ((t::r).map i64)) wc)):=λm=>by let⟨R,p2,J⟩:=S.out.2.2.2;exact⟨R,p2,⟨J.os,J.tape,J.output,J.size,J.block⟩⟩
   have HK:=bL (b9 G (b9 S.out.2.1 S.out.2.2.1));have ds:1<=bB ((t::r).map i64):=bQ
   generalize bB ((t::r).map i64)=wl at *
   go_wp2_with fail;go_quiet(fail)
   go_wp2_with fail;have N:Hid (_):=ck.out nq;generalize bF wr nq=w2 at *
   go_loopw[8,43] (λt8 a9 W=>∃i:Nat,i<=bB z∧a9=ae af i∧Hid (PaR w W (jW t (z.take i) o (t::r)).1 (jW t (z.take i) o (t::r)).2 t8)) λ_ a9 _=>bB z-(aG a9).toNat
   case atStart=>exact⟨0,dt _,rfl,N⟩
   case round=>
    obtain⟨i,hi,rfl,H⟩:=hrel;by_cases V:i<bB z
    .have di:=bM i (bB z);have a7:IntKind.i64.wrap ((i:Int)+1)=(i:Int)+1:=by rw[cX];omega
     let⟨nb,no,d9,e1,k1⟩:=(cn.out.mono (iS H.out.below)).get (bP V);simp only[fL,mC] at e1;obtain⟨rfl,rfl⟩:=e1;have a4:=M8 t (z.take i) z[i] o (t::r);have cc:z.take (i+1)=z.take i++[z[i]]:=by rw[dJ,bP V,fE]
     have a0:=Dd t (z.take i) o (t::r);have cE:=aa.out z[i] (dw V);rw[<-cc] at a4;generalize z[i]=n at *;have HS:=bL a4;generalize hX:jW t (z.take i) o (t::r)=X at *;obtain⟨O,u',I,_⟩:=a0;have ac:n<X.1.length:=by rw[O,HK.out.2.1];exact cE
     have dn:=bM n (bB L);have k2:aU wr ⟨s,n,ai⟩=ah (ae af (X.1[n]:Int)):=by rw[<-F.out];exact H.out.row.cell (bP ac)
     have k3:bG wr ⟨s,n,ai⟩=aL:=by rw[<-F.out];exact H.out.row.frozen n
     let⟨vg,vo,vc,a5,a6,de,ad⟩:=H.out.win.get;subst a5;have k4:aU wr ⟨vg,vo,ai⟩=ah (ae af t):=ad 0 _ (by rw[I];rfl);have d4:=H.out.win.lt (g:=vg) rfl;have b7:¬s=vg:=by rw[<-F.out];omega
     have a1:bB (X.2.map i64)=bB r+1+bB u':=by rw[I];simp;omega
     have U:bB (X.2.map i64)<=2097152:=by have h1:=EL t (z.take i) o (t::r) (λy hy=>by rw[HK.out.2.1];exact aa.out y (je hy));have h2:=HK.out.2.2.2;rw[hX] at h1;rw[eG];omega
     by_cases hz:X.1[n]=0
     .have dz:((X.1[n]:Int)==0)=aK:=by simp[hz]
      have d7:=fq (a:=t) bO;have al:Hid (jW t (z.take (i+1)) o (t::r)=(X.1.set n (t+1),X.2++[n])):=by show _=_;rw[HS.out,cY (by simp[bP ac,hz])]
      have D:Hid (oN (aW wr ⟨s,n,ai⟩ (ae af ((t:Int)+1))) s (X.1.set n (t+1))∧kH (aW wr ⟨s,n,ai⟩ (ae af ((t:Int)+1))) (s+1) 3 (.slice (ah ⟨vg,vo,ai⟩) (bB (X.2.map i64)) vc) (X.2.map i64)∧aC s w (aW wr ⟨s,n,ai⟩ (ae af ((t:Int)+1)))∧s+1<=(aW wr ⟨s,n,ai⟩ (ae af ((t:Int)+1))).heap.size):=by
       let⟨R,p2,J⟩:=H.out;rw[F.out] at R p2 J;refine⟨R.set n (t+1),p2.keep λg hg=>?_,J.setCell (p:=⟨s,n,ai⟩) (bT _) _,?_⟩
       .cases hg
        simp only[aW];rw[oP,cC b7]
       have:=(bY.1 R).1;simp[aW];omega
      have ba:Hid (bB (X.2.map i64)<=2097152):=U;generalize bB (X.2.map i64)=ml at a1 a6 U D⊢;generalize X.1[n]=xn at *
      go_wp2_with(first|(at_builtin;refine dM ?_));delta Aside;refine rL rfl _ _ 39 rfl (s+1) 3 i0 _ 8 underlying39 bj ch ci cj rfl (aj (ah ⟨vg,vo,ai⟩) ml vc) (X.2.map i64) rfl (D.out.2.1.keep λg hg=>by cases hg;exact jd _ _ (D.out.2.1.lt rfl).2) ⟨(aW wr ⟨s,n,ai⟩ (ae af ((t:Int)+1))).heap.size,0,ai⟩ 1 (ae af n) (by simp[bq]) (by have:=ey (aW wr ⟨s,n,ai⟩ (ae af ((t:Int)+1))) #[ae af n] 3;exact this.cell (i:=0) bQ) rfl (by have:=ba.out;unfold aY;omega) (by have:=ba.out;omega) (by have:=D.out.2.2.2;simp at this⊢;omega) ?_;intro v8 w8 Z c Q;have T:Hid (PaR w w8 (X.1.set n (t+1)) (X.2++[n]) v8):=by
       let⟨R,p2,J,p4⟩:=D.out;have hB:aC s w w8:=by
        have b1:=J.alloc bO (aq #[ae af n] 3);exact⟨c.os.trans b1.os,c.tape.trans b1.tape,c.output.trans b1.output,bZ b1.size c.size,λk hk=>(c.block k (by simp at p4⊢;omega) λe=>by have e':k=vg:=qG e;have:=(p2.lt (g:=vg) rfl).1;omega).trans (b1.block k hk)⟩
       refine⟨?_,?_,by rw[F.out];exact hB⟩
       .rw[F.out];unfold oN at R⊢;rw[c.block s (by simp at p4⊢;omega) (λe=>by cases e;exact b7 rfl),jd _ _ bO];exact R
       rw[F.out,fZ];exact Z
      clear Z c Q D
      go_wp2_with fail;refine⟨⟨i+1,V,by simp,?_⟩,by simp[aG];omega⟩;rw[al.out];exact T.out
     have dz:((X.1[n]:Int)==0)=aL:=by simpa using hz
     have al:Hid (jW t (z.take (i+1)) o (t::r)=X):=by show _=_;rw[HS.out,cC (by simp[bP ac,hz])]
     generalize bB (X.2.map i64)=ml at *;generalize X.1[n]=xn at *;clear ad hX HS a4 O I ac cc
     go_wp2_with fail;refine⟨⟨i+1,V,by simp,?_⟩,by simp[aG];omega⟩;rw[al.out];exact H.out
    have di:=bN i (bB z);obtain rfl:i=bB z:=bO
    have a0:=Dd t z o (t::r);have ao:=EL t z o (t::r) (λy hy=>by rw[HK.out.2.1];exact aa.out y hy);have D:Hid (_):=H.out;rw[fI] at D;generalize hX:jW t z o (t::r)=X at *;obtain⟨O,u',I,ce⟩:=a0;let⟨vg,vo,vc,a5,a6,de,ad⟩:=D.out.win.get;subst a5;have T:Hid (∀v,kH wr (w.heap.size+1) 3 v (X.2.tail.map i64)->ZB L a k X.1 X.2.tail=ah NX∧X.1.length=bB L∧((∀x∈X.2.tail,x<bB L)∧X.2.tail.length+X.1.count 0<=bB L)∧PaR w wr X.1 X.2.tail v):=λv hv=>by
     let⟨z1,z2,z3,z4⟩:=HK.out;let⟨R,p2,J⟩:=D.out;have cd:X.2=t::(r++u'):=by rw[I];rfl
     refine⟨z1,by rw[O,z2],⟨λx hx=>?_,?_⟩,R,hv,J⟩
     .rw[cd,List.tail_cons] at hx;obtain hx|hx:=cU.1 hx
      .exact z3 x (Hb _ hx)
      exact aa.out x (ce x hx)
     rw[cd] at ao⊢;rw[List.tail_cons];simp only[ed] at ao z4;omega
    have a1:bB (X.2.map i64)=bB (X.2.tail.map i64)+1:=by rw[I];simp
    have HW:Hid (kH wr (w.heap.size+1) 3 (.slice (ah ⟨vg,vo,ai⟩) (bB (X.2.map i64)) vc) (i64 t::X.2.tail.map i64)):=by have:=D.out.win;rw[I] at this⊢;exact this
    rw[a1] at a6 HW⊢;generalize b6:bB (X.2.tail.map i64)=ml at *;have bb:=bL b6;clear H D ad I O ce hX ao b6;by_cases dd:vc=1
    .subst dd;have c7:ml=0:=bO
     subst c7
     go_wp2_with fail
     go_roundg k
     case measure=>omega
     case rel=>refine⟨X.1,X.2.tail,T.out _ ?_⟩;have:=kH.none_ HW.out;rw[bb.out] at this;exact this
    go_wp2_with fail
    go_roundg k
    case measure=>omega
    case rel=>refine⟨X.1,X.2.tail,T.out _ ?_⟩;have:=kH.tail HW.out;rw[bb.out] at this;exact this
  have dx:((o[a]:Int)==0)=aL:=by simpa using ag
  rw[cY (by simp[bP an,ag])] at G;obtain rfl:o=NX:=qG G;have N:Hid (oN wr s o∧aC s w wr∧s<wr.heap.size):=by let⟨R,_,J⟩:=S.out.2.2.2;rw[F.out] at R J;exact⟨R,J,(bY.1 R).1⟩
  have bc:Hid (tZ s 3 1 wr (aj ai 0 0) (bC wr (aq #[ae af a] 3)) (aj (ah ⟨wr.heap.size,0,ai⟩) 1 1) 1 ([a].map i64)):=by refine⟨⟨rfl,cI ⟨wr.heap.size,1,#[ae af a],rfl,ir N.out.2.2,eW _ _,bT _,by unfold aY;omega,rfl,rfl⟩⟩,(bW _ _).alloc _,cI λk hk=>by cases hk;exact bT _⟩
  let⟨_,g2,g3,g4⟩:=HB.out;let⟨i1,bo,be⟩:=gF.1 ((g2.mem a).2 ⟨ha,g3⟩);have bx:(DN++TD)[i1]?=ah a:=by rw[bP bo,be]
  have HS:=bL (b9 g4 bx);have c9:bB o=bB L:=S.out.2.1;clear S G bo be bx g2 g3 g4;generalize o[a]=xa at *
  go_wp2_with fail;generalize bC wr (aq #[ae af a] 3)=w3 at *;clear q1
  go_loopg[11,12] (bB L+1) λk dk dl W=>∃(x:Nat)(M dn:List Nat)(i:Nat),dl=ae af x∧bB dn+k=bB L+2∧Hid (uk o b k x=ah M∧a::q=dn++M∧(DN++TD)[i]?=ah x∧tZ s 3 1 wr (aj ai 0 0) W dk (bB dn) (dn.map i64))
  case atStart=>exact⟨a,q,[a],i1,rfl,by simp;omega,HS.out.1,rfl,HS.out.2,bc.out⟩
  case round=>
   obtain⟨x,M,dn,i,rfl,d2,H⟩:=hrel;clear bc HS;have g2:=HB.out.2.1;have a2:=(g2.mem x).1 (cH H.out.2.2.1);have d:=H.out.1;cases gk with
   |zero=>exact absurd d (by simp[uk])
   |succ k2=>
   rw[uk] at d;by_cases a8:x=b
   .subst a8;rw[cY rfl] at d;have cb:M=[]:=(qG d).symm;have T:Hid (bD wr w.heap.size 3 1 u11 (bB (a::q)) ((a::q).map i64)∧aC w.heap.size w wr):=by
     let⟨_,p2,_,p4⟩:=H.out;rw[cb,gC] at p2;rw[p2,F.out];let⟨_,J,b0⟩:=N.out;exact⟨p4.row,J.trans ((p4.kept.below (bT _) λk e=>by cases e).mono (ir b0))⟩
    clear H g2 a2 d cb
    go_wp2_with fail;go_ret;exact⟨_,rfl,T.out.1,T.out.2⟩
   rw[cC a8] at d;let⟨j,y,cy,ap,ab,_⟩:=g2.par i x H.out.2.2.1 a8;rw[ab,lQ] at d;have c8:=(g2.mem y).1 (cH ap);have O:x<bB o:=by rw[c9];exact a2.1
   have b8:o[x]?=ah (y+1):=by rw[bP O] at ab⊢;simpa using ab
   obtain⟨h,bR,ca⟩:∃h,uk o b k2 y=ah h∧M=y::h:=by
    cases hq:uk o b k2 y with
    |none=>rw[hq] at d;simp at d
    |some h=>rw[hq] at d;exact⟨h,rfl,by simpa using d.symm⟩
   have k1:aU wr ⟨s,x,ai⟩=ah (ae af ((y:Int)+1)):=by have cv:=H.out.2.2.2.kept.block s N.out.2.2 (λe=>by cases e);have:=(cL (a:=⟨s,x,ai⟩) cv).trans (N.out.1.cell b8);rw[this];simp
   have dx:=bM x (bB L);have d0:((x:Int) != (b:Int))=aK:=bX
   have d8:=A8 (a:=y) bO;have T:Hid (uk o b k2 y=ah h∧a::q=(dn++[y])++h∧(DN++TD)[j]?=ah y):=⟨bR,by rw[H.out.2.1,ca];simp,ap⟩
   have HR:Hid (_):=H.out.2.2.2;let⟨da,dc,cx⟩:=dZ HR.out.row;subst cx;have d1:s<=wr.heap.size:=bZ (ir N.out.2.2) HR.out.kept.size;have d3:bB dn<=1048578:=bO
   clear H g2 d cy ap ab a2 c8 b8 bR ca
   go_wp2_with(first|(at_builtin;refine dM ?_));delta Aside;refine fX _ rfl _ _ 39 rfl s 3 i0 _ 1 8 underlying39 bj ch ci cj rfl bS _ _ _ rfl (HR.out.row.alloc _) ⟨_,0,ai⟩ 1 1 [ae af y] rfl rfl (qF wr _ _) cM cJ bO bX ?_;intro v8 w8 Y c _ Q;have H8:Hid (_):=HR.out.push ((cW _ _).alloc (bT _) _) Y c (Q.imp id λe k hk=>by rw[e] at hk;cases hk;exact bT _);clear Y c Q HR k1
   go_wp2_with fail
   go_roundg k2
   case measure=>omega
   case rel=>refine⟨y,h,dn++[y],j,rfl,by simp;omega,T.out.1,T.out.2.1,T.out.2.2,?_⟩;have:=H8.out;rw[cR,fZ];exact this
def pfC(sp kb n:Nat)(tv dv:aA):Nat->aA:=λj=>if j=0 then ak (ah ⟨sp,0,ai⟩) else if j=1 then tv else if j=2 then dv else aj (ah ⟨kb,0,ai⟩) n n
structure sU(W:ay)(B pb sp nb kb:Nat)(tv dv jv:aA)(n:Nat)(g:Uf.G)(t:List Uf.Rec)(L:List (List Nat))(lv:Nat->aA):Prop where
 cells:bE W pb 246 4 (pfC sp kb n tv dv)
 ie:St W B sp nb jv n g t
 outer:bE W kb 39 n lv
 rows:∀j,j<n->bD W B 3 1 (lv j) (bB (L[j]?.getD [])) ((L[j]?.getD []).map i64)
 VZ:∀i j b,i<n->j<n->aP (lv i)=ah b->aP (lv j)=ah b->i=j
 len:bB L=n
 bp:B<=pb
 bk:B<=kb
variable{f lv:Nat->aA}
theorem mS{c:Nat}{t:aE}{q:Nat}{d:Nat->aA}(h:bE w b t n f)(i:bE w c e q d)(p:t≠e):b≠c:=by rintro rfl;obtain⟨c1,m,_⟩:=h;obtain⟨c2,o,_⟩:=i;grind
theorem kz{r:aE}{c d I:Nat}{u:aA}{o:List aA}(h:bD w base e size v k xs)(F:bD w c r d u I o)(H:e≠r)(m:aP v=ah b):aP u≠ah b:=by
 intro G;obtain⟨s,_⟩|⟨g,y,z,s,_,J,_⟩:=h.2
 .grind[aP]
 rw[s] at m;simp[aP] at m;subst m;obtain⟨i,_⟩|⟨M,p,q,i,_,D,_⟩:=F.2
 .grind[aP]
 grind[aP]
theorem eP{i:aE}(h:bD W base i size v k xs)(q:∀b,aP v=ah b->W'.heap[b]?=W.heap[b]?):bD W' base i size v k xs:=by
 refine⟨h.1,?_⟩;obtain e|⟨g,c,d,e,m,o,p⟩:=h.2
 .exact cB e
 exact cI ⟨g,c,d,e,m,(q g (by rw[e];rfl)).trans o,p⟩
variable{t:List Uf.Rec}
def sU.keep{g:Uf.G}(h:sU W B pb sp nb kb tv dv jv n g t L lv)(hs:St W' B sp nb jv n g t)(d:W'.heap[pb]?=W.heap[pb]?)(i:W'.heap[kb]?=W.heap[kb]?)(m:∀j b,j<n->aP (lv j)=ah b->W'.heap[b]?=W.heap[b]?):sU W' B pb sp nb kb tv dv jv n g t L lv:=
 ⟨h.cells.of_block d,hs,h.outer.of_block i,λj c=>eP (h.rows j c) λb o=>m j b c o,h.VZ,h.len,h.bp,h.bk⟩
theorem sU.below{g:Uf.G}(h:sU W B pb sp nb kb tv dv jv n g t L lv)(c:aC W.heap.size W W'):sU W' B pb sp nb kb tv dv jv n g t L lv:=by refine h.keep (h.ie.other (S:=λ_=>False) ⟨c.os,c.tape,c.output,c.size,λk m _=>c.block k m⟩ id id λ_ _=>id) (c.block _ h.cells.lt) (c.block _ h.outer.lt) λj b i d=>c.block b (dI (h.rows j i) d).2
def nL(W W':ay):Prop:=∀(k:Nat) es c,W.heap[k]?=ah (Obj.map es c)->W'.heap[k]?=ah (Obj.map es c)
def nL.trans{B:ay}(h:nL A B)(k:nL B C):nL A C:=λi es c e=>k i es c (h i es c e)
theorem iW{t:aE}(h:bE w b t n f){es:_}{c:_}(i:w.heap[k]?=ah (Obj.map es c)):k≠b:=by rintro rfl;obtain⟨c1,d,_⟩:=h;grind
theorem iL{t:aE}(h:bD w base t size v n xs){es:_}{c:_}(q:w.heap[k]?=ah (Obj.map es c)):aP v≠ah k:=by
 intro p;obtain⟨m,_⟩|⟨g,d,i,m,_,o,_⟩:=h.2
 .grind[aP]
 grind[aP]
theorem sU.join{o:aA}{g q:Uf.G}{r:List Uf.Rec}(h:sU W B pb sp nb kb tv dv jv n g t L lv)(d:bI (gE sp nb jv) W W')(hs:St W' B sp nb o n q r):sU W' B pb sp nb kb tv dv o n q r L lv∧aC B W W'∧nL W W':=by
 have hl:=h.ie.mu;refine⟨⟨h.cells.of_block (d.block _ h.cells.lt ?_),hs,h.outer.of_block (d.block _ h.outer.lt ?_),λj m=>eP (h.rows j m) λb p=>d.block b (dI (h.rows j m) p).2 ?_,h.VZ,h.len,h.bp,h.bk⟩,⟨d.os,d.tape,d.output,d.size,λk i=>d.block k (cQ i h.ie.low) ?_⟩,λk es c i=>(d.block k (bY.1 i).1 ?_).trans i⟩
 .rintro(e|e|e)
  .exact mS h.cells hl.ie bS e
  .exact mS h.cells hl.nodes bS e
  exact dY h.cells bS hl.iA e
 .rintro(e|e|e)
  .exact mS h.outer hl.ie bS e
  .exact mS h.outer hl.nodes bS e
  exact dY h.outer bS hl.iA e
 .rintro(e|e|e)
  .subst e;exact dY hl.ie bS (h.rows j m) p
  .subst e;exact dY hl.nodes bS (h.rows j m) p
  exact kz (h.rows j m) hl.iA bS p e
 .rintro(e|e|e)
  .have:=hl.bp;omega
  .have:=hl.bn;omega
  have:=(dI hl.iA e).1;omega
 rintro(e|e|e)
 .exact iW hl.ie i e
 .exact iW hl.nodes i e
 exact iL hl.iA i e
theorem ER(c:a<bB L)(j):(l9 L a x)[j]?.getD []=if j=a then L[a]?.getD []++[x] else L[j]?.getD []:=by grind[l9]
theorem sU.grow{W1 o:ay}{y:aA}{g:Uf.G}(h:sU W B pb sp nb kb tv dv jv n g t L lv)(z:a<n)(J:aC W.heap.size W W1)(H:bD o B 3 1 y (bB (L[a]?.getD [])+1) ((L[a]?.getD []).map i64++[i64 x]))(d:bH W1 o (aP (lv a)))(V:aP y=aP (lv a)∨∀k,aP y=ah k->W1.heap.size<=k):
  cz o kb a (lv a)∧bG o (az kb a)=aL∧cz o pb 3 (aj (ah (az kb 0)) n n)∧
  sU (aW o (az kb a) y) B pb sp nb kb tv dv jv n g t (l9 L a x) (λj=>if j=a then y else lv j)∧aC B W (aW o (az kb a) y)∧nL W (aW o (az kb a) y):=by
 have q:=h.below J;have hl:=q.ie.mu;have u:∀k,k<W1.heap.size->aP (lv a)≠ah k->o.heap[k]?=W1.heap[k]?:=λk r m=>d.block k r λe=>m e.symm;have rp:aP (lv a)≠ah pb:=dY q.cells bS (q.rows a z);have rk:aP (lv a)≠ah kb:=dY q.outer bS (q.rows a z);have U:bE o pb 246 4 (pfC sp kb n tv dv):=q.cells.of_block (u _ q.cells.lt rp);have M:bE o kb 39 n lv:=q.outer.of_block (u _ q.outer.lt rk);have Z:St o B sp nb jv n g t:=q.ie.other (S:=λk=>aP (lv a)=ah k) ⟨d.os,d.tape,d.output,d.size,λk r m=>u k r m⟩ (dY hl.ie bS (q.rows a z)) (dY hl.nodes bS (q.rows a z)) λk r e=>kz hl.iA (q.rows a z) bS r e;have Y:∀j,j<n->j≠a->bD o B 3 1 (lv j) (bB (L[j]?.getD [])) ((L[j]?.getD []).map i64):=λj s m=>eP (q.rows j s) λb D=>u b (dI (q.rows j s) D).2 λe=>m (h.VZ j a b s z D e);have X:aP y≠ah kb:=dY M bS H;have Q:bI (λk=>k=kb) o (aW o (az kb a) y):=eY (S:=λk=>k=kb) (bW _ o) (p:=az kb a) rfl y;have I:∀k,k<o.heap.size->k≠kb->(aW o (az kb a) y).heap[k]?=o.heap[k]?:=λk r m=>Q.block k r m;have O:=Z.mu;refine⟨M.cell z,M.frozen a,by simpa[pfC] using U.cell (i:=3) bO,⟨U.of_block (I _ U.lt (mS U M bS)),Z.other Q (mS O.ie M bS) (mS O.nodes M bS) λk r e=>dY M bS O.iA (e▸r),?_,λj s=>?_,λi j b hi s R T=>?_,by unfold l9;rw[gd];exact h.len,h.bp,h.bk⟩,?_,λk es c r=>?_⟩
 .exact(M.set a y).congr λj s=>rfl
 .rw[ER (by rw[h.len];exact z)];by_cases e:j=a
  .subst e;rw[cY rfl,cY rfl,cR,fZ];exact eP H λb D=>I b (dI H D).2 λe=>X (e▸D)
  rw[cC e,cC e];exact eP (Y j s e) λb D=>I b (dI (Y j s e) D).2 λN=>dY M bS (Y j s e) (N▸D)
 .have aa:∀j,j<n->j≠a->∀b,aP (lv j)=ah b->aP y≠ah b:=λj s m b D e=>by
   obtain N|N:=V
   .exact m (h.VZ j a b s z D (N.symm.trans e))
   have:=N b e;have:=(dI (q.rows j s) D).2;omega
  by_cases e1:i=a
  .grind
  by_cases N:j=a
  .grind
  simp only[cC e1,cC N] at R T;exact h.VZ i j b hi s R T
 .have hz:=h.ie.low;refine⟨Q.os.trans (d.os.trans J.os),Q.tape.trans (d.tape.trans J.tape),Q.output.trans (d.output.trans J.output),bZ J.size (bZ d.size Q.size),λk r=>?_⟩;have G:k<W.heap.size:=cQ r hz;have F:k<W1.heap.size:=cQ G J.size;rw[I k (cQ F d.size) (by have:=h.bk;omega),u k F (λe=>by have:=(dI (h.rows a z) e).1;omega),J.block k G]
 have G:=(bY.1 r).1;have F:k<W1.heap.size:=cQ G J.size;rw[I k (cQ F d.size) (iW h.outer r),u k F (iL (h.rows a z) r),J.block k G];exact r
theorem sU.aaO{g:Uf.G}(h:sU W B pb sp nb kb tv dv jv n g t L lv){d:Nat}{c:Array aA}(F:W.heap[d]?=ah (.cells c 288))(i v):sU (aW W (az d i) v) B pb sp nb kb tv dv jv n g t L lv:=by
 have K:bI (λk=>k=d) W (aW W (az d i) v):=by simp_all[az,eY,bW]
 have ne:∀{b:Nat}{t:aE}{m:Nat}{f:Nat->aA},bE W b t m f->t≠288->b≠d:=λ{b t m f} hr hne e=>by subst e;obtain⟨c1,z,_⟩:=hr;grind
 have o:∀{base size m:Nat}{t:aE}{u:aA}{xs:List aA},bD W base t size u m xs->t≠288->aP u≠ah d:=λ{base size m t u xs} hr hne e=>by
  obtain⟨y,_⟩|⟨g,r,s,y,_,G,_⟩:=hr.2
  .grind[aP]
  grind[aP]
 have hl:=h.ie.mu;exact h.keep (h.ie.other K (ne hl.ie bS) (ne hl.nodes bS) λk D e=>o hl.iA bS (e▸D)) (K.block _ h.cells.lt (ne h.cells bS)) (K.block _ h.outer.lt (ne h.outer bS)) λj b q p=>K.block b (dI (h.rows j q) p).2 λe=>o (h.rows j q) bS (e▸p)
theorem nK(w O):aC w.heap.size w (bC w O).drew:=⟨rfl,rfl,rfl,by simp,λ_ c=>jd w O c⟩
theorem Of(w B){pb sp nb kb}{tv dv jv}{n}{g}{t}{lv}(h:sU w B pb sp nb kb tv dv jv n g t L lv)(a b)(V:a<n)(hb:b<n)(N:∀r∈L,bB r<=1048576):
  aB prog 138 #[pz pb,iz a,iz b] w λe w'=>e=aw (.bool (Pf.link n ⟨g,L⟩ a b).1)∧∃y G,sU w' B pb sp nb kb tv dv y n (Pf.link n ⟨g,L⟩ a b).2.g (lz n g t a b) (Pf.link n ⟨g,L⟩ a b).2.L G∧aC B w w'∧nL w w':=by
 have x0:cz w pb 0 (pz sp):=h.cells.cell (i:=0) bO;have J:=OV h.ie a b;have HM:=bL h;cases S:iA n g a b
 .rw[S] at J;have e1:Pf.link n ⟨g,L⟩ a b=(aL,⟨g,L⟩):=by simp[Pf.link,S]
  have e2:mX n g a b=g:=by simp[mX,S]
  rw[e1];rw[e2] at J;clear h S e1 e2;go_enter func138,ntmps138
  go_wp2_with(go_at_call 71;refine J.mono ?_;rintro e H ⟨rfl,y,hS,hK,_⟩;have u:Hid (_∧_∧_):=HM.out.join hK hS);go_ret;exact⟨rfl,y,lv,u.out.1,u.out.2⟩
 rw[S] at J;have e1:Pf.link n ⟨g,L⟩ a b=(aK,⟨mX n g a b,l9 (l9 L a b) b a⟩):=by simp[Pf.link,S]
 rw[e1];have ab:=h.len;clear h S e1;go_enter func138,ntmps138
 go_wp2_with(go_at_call 71;refine J.mono ?_;rintro e H ⟨rfl,y,hS,hK,_⟩;refine dM ?_);delta Aside;obtain⟨p,X⟩:=HM.out.join hK hS;generalize al:lz n g t a b=t' at *;have a2:=bL al;clear al;generalize ac:mX n g a b=g' at *;have a1:=bL ac;clear ac;have s:=bL X;have z:=bL p;obtain⟨i0,ad,an,ao,ap⟩:=eB qQ;have c3:cz H pb 3 (aj (ah (az kb 0)) n n):=by simpa[pfC] using p.cells.cell (i:=3) bO
 obtain⟨la,lc,q⟩:=dZ (p.rows a V);have ca:cz H kb a (.slice la (bB (L[a]?.getD [])) lc):=by rw[<-q];exact p.outer.cell V
 have zp:=p.cells.lt;have zk:=p.outer.lt;have Q:∀O,aU (bC (bF H 1) O) (az pb 3)=ah (aj (ah (az kb 0)) n n):=λO=>(cL (a:=az pb 3) (dB _ O pb zp)).trans c3;have R:∀O,aU (bC (bF H 1) O) (az kb a)=ah (.slice la (bB (L[a]?.getD [])) lc):=λO=>(cL (a:=az kb a) (dB _ O kb zk)).trans ca;have ag:bB (L[a]?.getD [])<=1048576:=cG
 have OW:Hid (bD H B 3 1 (.slice la (bB (L[a]?.getD [])) lc) (bB (L[a]?.getD [])) ((L[a]?.getD []).map i64)):=by show _;rw[<-q];exact p.rows a V
 have o:=bL q;have aa:B<=H.heap.size:=p.ie.low;have Z:=bL N;generalize F:bB (L[a]?.getD [])=wl at *;have D:=bL F;clear J hS hK p X HM q F N;apply_assumption
 go_wp2
 go_cut[15] from 16 to 30 λ_ U=>∃G,sU U B pb sp nb kb tv dv y n g' t' (l9 L a b) G∧aC B w U∧nL w U
 case first=>
  go_region_law(first|(refine fe rfl (.tmp 26) (.tmp 28) 39 rfl B 3 i0 _ 1 8 underlying39 ad an ao ap rfl bS (aj la wl lc) wl ((L[a]?.getD []).map i64) iC (by exact fT OW.out _) (az H.heap.size 0) 1 1 [iz b] iC rfl (qF _ _ _) cM cJ bO bX ?_;intro v8 w8 c d m;obtain⟨b8,k8,T⟩:=ownsRow_succ c;obtain⟨d1,d2,d3,d4,d5⟩:=z.out.grow V (W1:=(bC H (aq #[iz b] 3)).drew) (nK H _) (x:=b) (by rw[D.out];exact c) (by rw[o.out];exact d) (by rw[o.out];exact m);rw[o.out] at d1;have u:=bL (b9 d4 d5);subst T;clear c d m d4 d5));all_goals
   try simp[aQ,cD,cw,ct,cf,cN,cK]
   go_wp2;go_meet
   case rel=>exact⟨_,u.out.1,s.out.1.trans u.out.2.1,s.out.2.trans u.out.2.2⟩
 case rest=>
  obtain⟨a3,p,X⟩:=hcut;clear OW ca R Q c3 zp zk o D ag aa z s;have s:=bL X;have z:=bL p;have c3:cz wc pb 3 (aj (ah (az kb 0)) n n):=by simpa[pfC] using p.cells.cell (i:=3) bO
  obtain⟨I,M,q⟩:=dZ (p.rows b hb);have ca:aU wc (az kb b)=ah (.slice I (bB ((l9 L a b)[b]?.getD [])) M):=by rw[<-q];exact p.outer.cell hb
  have zp:=p.cells.lt;have zk:=p.outer.lt;have Q:∀O,aU (bC (bF wc 1) O) (az pb 3)=ah (aj (ah (az kb 0)) n n):=λO=>(cL (a:=az pb 3) (dB _ O pb zp)).trans c3;have R:∀O,aU (bC (bF wc 1) O) (az kb b)=ah (.slice I (bB ((l9 L a b)[b]?.getD [])) M):=λO=>(cL (a:=az kb b) (dB _ O kb zk)).trans ca;have ag:bB ((l9 L a b)[b]?.getD [])<=1048577:=by
   rw[ER (by rw[ab];exact V)];have h1:∀k,k<n->bB (L[k]?.getD [])<=1048576:=λk hk=>by rw[bP (by rw[ab];exact hk),eQ];exact Z.out _ (dw _)
   have h2:=h1 a V;have h3:=h1 b hb
   split
   .simp;omega
   omega
  have OW:Hid (bD wc B 3 1 (.slice I (bB ((l9 L a b)[b]?.getD [])) M) (bB ((l9 L a b)[b]?.getD [])) (((l9 L a b)[b]?.getD []).map i64)):=by show _;rw[<-q];exact p.rows b hb
  have o:=bL q;have aa:B<=wc.heap.size:=p.ie.low;generalize F:bB ((l9 L a b)[b]?.getD [])=a0 at *;have D:=bL F;clear p X q F;obtain⟨w4,rfl⟩:=bK wc
  go_wp2
  go_cut[31] from 32 to 46 λ_ U=>∃G,sU U B pb sp nb kb tv dv y n g' t' (l9 (l9 L a b) b a) G∧aC B w U∧nL w U
  case first=>
   go_region_law(first|(refine fe rfl (.tmp 42) (.tmp 44) 39 rfl B 3 i0 _ 1 8 underlying39 ad an ao ap rfl bS (aj I a0 M) a0 (((l9 L a b)[b]?.getD []).map i64) iC (by exact fT OW.out _) (az w4.heap.size 0) 1 1 [iz a] iC rfl (qF _ _ _) cM cJ bO bX ?_;intro v8 w8 c d m;obtain⟨b8,k8,T⟩:=ownsRow_succ c;obtain⟨d1,d2,d3,d4,d5⟩:=z.out.grow hb (W1:=(bC w4 (aq #[iz a] 3)).drew) (nK w4 _) (x:=a) (by rw[D.out];exact c) (by rw[o.out];exact d) (by rw[o.out];exact m);rw[o.out] at d1;have u:=bL (b9 d4 d5);subst T;clear c d m d4 d5));all_goals
    try simp[aQ,cD,cw,ct,cf,cN,cK]
    go_wp2;go_meet
    case rel=>exact⟨_,u.out.1,s.out.1.trans u.out.2.1,s.out.2.trans u.out.2.2⟩
  case rest=>
   obtain⟨a4,M4,B4⟩:=hcut;have u:=bL (b9 M4 B4);clear M4 B4 z s OW ca R c3 Q o D
   go_wp2;go_ret;have Y:=u.out.1;rw[<-a1.out,<-a2.out] at Y;exact⟨rfl,_,_,Y,u.out.2⟩
