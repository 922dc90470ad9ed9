import Derived.Test.YtlehlgipbhfioaaGreatBf
import Derived.Test.YtlehlgipbhfioaaGreatBg
import Derived.Shelf.SlicesQ.Contains
import Derived.Deep.WholeRow
namespace Go.Proofs.YtlehlgipbhfioaaGreat
set_option maxHeartbeats 3000000
set_option maxRecDepth 100000
set_option linter.all false
open Go.RowKit Go.Maps Go.Proofs.Tryz
open Go.Value renaming int->ae,slice->aj,int->aS,ownBlock->aP
open Go.IntKind renaming i64->af
open Go.Obj renaming cells->aq
open Go.Ending renaming returned->aw
open Option renaming some->ah,none->ai
open Go.RowKit renaming Below->aC
open Go.World renaming alloc->bC,cell?->aU,ownsRow->bD
open Go renaming TypeId->aE,Calls->aB,World->ay,Value->aA
open List renaming length->bB
section
open Go.Shelf
def Mr:Go.Shelf.Ren:=⟨fun|6=>178|7=>133|n=>n,fun|0=>0|3=>3|4=>4|22=>109|24=>34|n=>n,fun|n=>n⟩
theorem aa8:Go.Proofs.SlLaysQ.n7 prog Mr:={
 mixed:=bV
 f6:=⟨f178.name,by kernel_rfl,func178.trans (congrArg ah bV)⟩
 f7:=⟨f133.name,by kernel_rfl,func133.trans (congrArg ah bV)⟩
 t0:=underlying0
 a0:=isAgg0
 z0:=sizeOf0
 v0:=zeroValue0
 t3:=underlying3
 a3:=isAgg3
 z3:=sizeOf3
 v3:=zeroValue3
 t4:=underlying4
 a4:=isAgg4
 z4:=sizeOf4
 v4:=zeroValue4
 t22:=underlying109
 a22:=isAgg109
 z22:=sizeOf109
 v22:=zeroValue109}
end
def OD(x:Nat×Nat):List aA:=[ae af x.1,ae af x.2]
def lj(l:List (Nat×Nat)):List aA:=l.flatMap OD
theorem BJ(l m):lj (l++m)=lj l++lj m:=by simp[lj]
theorem adM:EqlAt prog 34 (λx=>.agg (OD x).toArray) (λx y=>decide (x=y)):=by
 refine⟨λx y w=>?_,GuardAt.agg _ bV⟩;have g:=underlying3;have f:=isAgg3;have h:=sizeOf3;have c:prog.underlying 34=ah (.struct (prog.fieldsOf 34)):=bV
 have hp:prog.stoodInHeld 34=false:=bV
 simp only[OD];rw[run_eql_struct,show(10000:Nat)=9999+1 from rfl,run_equalIn_agg w 9999 34 _ _ c hp];simp only[Program.fieldsOf,underlying34];go_simp;obtain⟨x1,x2⟩:=x;obtain⟨d,e⟩:=y;by_cases a:x1=d<;>by_cases b:x2=e<;>simp[a,b,Int.ofNat_inj]
def mB(W:ay)(v:aA)(l:List Pr):Prop:=∃a c,v=aj a (bB l) c∧(l=[]∨∃b off,a=ah ⟨b,off,ai⟩∧∀(j:Nat)(p:Pr),l[j]?=ah p->aU W ⟨b,off+j*2,ai⟩=ah (ae af p.1)∧aU W ⟨b,off+j*2+1,ai⟩=ah (ae af p.2))
theorem BI:∀{l:List Pr}{j:Nat}{p:Pr},l[j]?=ah p->(lj l)[j*2]?=ah (iz p.1)∧(lj l)[j*2+1]?=ah (iz p.2)
 | [],j,p,h=>by simp at h
 |q::l,0,p,h=>by simp at h;subst h;simp[lj,OD]
 |q::l,j+1,p,h=>by have:=BI (l:=l) (j:=j) (p:=p) (by simpa using h);grind[lj,OD]
theorem xz(l):bB (lj l)=bB l*2:=by
 induction l with
 |nil=>rfl
 |cons a l b=>grind[lj,OD]
variable{W W' w:ay}{base size k n sz:Nat}{v v0:aA}{l:List Pr}
theorem mB.qO(h:bD W base 34 2 v (bB l) (lj l)):mB W v l:=by
 obtain⟨e,c⟩|⟨b,a,d,e,o,q,r⟩:=h.2
 .refine⟨ai,0,by rw[e,c],cB (rC.1 c)⟩
 refine⟨_,a,e,cI ⟨b,0,rfl,λj p f=>?_⟩⟩;let⟨i,m⟩:=BI f;have c1:=h.cells (g:=b) (by rw[e];rfl) _ _ i;have c2:=h.cells (g:=b) (by rw[e];rfl) _ _ m;rw[j9,fM] at c1 c2;grind
def nQ:=@mB.qO
theorem mB.below(h:mB W v l)(i:aC W.heap.size W W'):mB W' v l:=by obtain⟨a,c,rfl,g⟩:=h;refine⟨a,c,rfl,g.imp id ?_⟩;rintro⟨b,f,rfl,h⟩;refine⟨b,f,rfl,λj p m=>?_⟩;have d:=cV W _ (h j p m).1;have e:=i.block b d;grind[World.cell?_of_block]
theorem V3(w a c x y):aB prog 178 #[aj a 0 c,.agg #[iz x,iz y]] w λe f=>e=aw (iz (-1))∧aC w.heap.size w f:=by
 have b:Hid (_):=(cW (hz w) w).alloc (bT _) (aq #[iz x,iz y] 34);go_enter func178,ntmps178
 go_wp2
 go_loopw[8] (λd W=>d=iz 0∧Hid (bz w W)) λ_ _=>0
 case atStart=>exact⟨rfl,b⟩
 case round=>
  obtain⟨rfl,H⟩:=hrel
  go_wp2;go_ret;exact⟨rfl,H.out⟩
theorem Rf(w a c x y):aB prog 133 #[aj a 0 c,.agg #[iz x,iz y]] w λe f=>e=aw (.bool false)∧aC w.heap.size w f:=by
 have N:=V3 (bC w (aq #[iz x,iz y] 34)) a c x y;have d:Hid (_):=(cW (hz w) w).alloc (bT _) (aq #[iz x,iz y] 34);have hz:(bC w (aq #[iz x,iz y] 34)).heap.size=hz w+1:=bQ
 go_enter func133,ntmps133
 go_wp2_with(go_at_call 178;refine N.mono ?_;rintro e g ⟨rfl,b⟩);go_ret;exact⟨rfl,d.out.trans (b.mono bO)⟩
theorem C8(w v){l}(h:mB w v l)(q:bB l<=9223372036854775807)(x):aB prog 133 #[v,.agg (OD x).toArray] w λe o=>e=aw (.bool (decide (x∈l)))∧aC w.heap.size w o:=by
 obtain⟨a,c,rfl,h⟩:=h;obtain rfl|⟨b,f,rfl,h⟩:=h
 .refine(Rf w a c x.1 x.2).mono ?_;grind
 have:=AnyQ.slices_Contains aa8 2 isAgg34 sizeOf34 OD (λ_=>rfl) _ adM b f (bB l) c l x w (bT _) q (λj g i v d=>by
  let⟨r,s⟩:=h j l[j] (bP g);have e:l[j]! = l[j]:=getElem!_pos l j g;rw[e] at d
  match i,d with
  |0,d=>simp[OD] at d;subst d;exact r
  |1,d=>simp[OD] at d;subst d;exact s)
 refine jD this ?_;rintro e o ⟨rfl,p⟩;refine⟨?_,p⟩;congr 2;rw[fI];by_cases m:x∈l
 .rw[cZ m,List.any_eq_true];exact⟨x,m,by simp⟩
 grind
structure tZ(base:Nat)(ty:aE)(sz:Nat)(w:ay)(v0:aA)(W:ay)(v:aA)(n:Nat)(xs:List aA):Prop where
 row:bD W base ty sz v n xs
 kept:bI (λk=>aP v0=ah k) w W
 at_:aP v=aP v0∨∀k,aP v=ah k->w.heap.size<=k
variable{ty:aE}{xs:List aA}
theorem ew(h:bD W base ty size v k xs)(i:aC W.heap.size W W'):bD W' base ty size v k xs:=by
 refine⟨h.1,?_⟩;obtain e|⟨g,a,b,e,d,c,f⟩:=h.2
 .exact cB e
 exact cI ⟨g,a,b,e,d,(i.block g (bY.1 c).1).trans c,f⟩
theorem dI(h:bD W base ty size v k xs){b:Nat}(a:aP v=ah b):base<=b∧b<W.heap.size:=by
 obtain⟨e,_⟩|⟨g,c,d,e,f,i,_⟩:=h.2
 .rw[e] at a;simp[aP] at a
 grind[aP]
theorem dZ{e:aE}(h:bD w base e size v n xs):∃a c,v=aj a n c:=by
 obtain⟨rfl,g⟩|⟨b,d,f,rfl,_⟩:=h.2
 .grind
 exact⟨_,d,rfl⟩
def bI.under{S:Nat->Prop}{a d:ay}(h:bI S a w)(b:aC w.heap.size w d):bI S a d:=
 ⟨b.os.trans h.os,b.tape.trans h.tape,b.output.trans h.output,bZ h.size b.size,λk c hs=>(b.block k (cQ c h.size)).trans (h.block k c hs)⟩
def tZ.start(h:bD w base ty sz v n xs):tZ base ty sz w v w v n xs:=⟨h,bW _ _,cB rfl⟩
def tZ.below(h:tZ base ty sz w v0 W v n xs)(a:aC W.heap.size W W'):tZ base ty sz w v0 W' v n xs:=
 ⟨ew h.row a,h.kept.under a,h.at_⟩
theorem tZ.push{m:Nat}{W1 w8:ay}{v8:aA}{i:List aA}(h:tZ base ty sz w v0 W v n xs)(j:aC W.heap.size W W1)(c:bD w8 base ty sz v8 m i)(a:W1.grownBy w8 (aP v))(f:aP v8=aP v∨∀k,aP v8=ah k->W1.heap.size<=k):tZ base ty sz w v0 w8 v8 m i:=by
 have b:=h.kept.under j;refine⟨c,⟨a.os.trans b.os,a.tape.trans b.tape,a.output.trans b.output,bZ b.size a.size,λk d hs=>(a.block k (cQ d b.size) λe=>?_).trans (b.block k d hs)⟩,?_⟩
 .obtain g|g:=h.at_
  .grind
  have:=g k e.symm;omega
 obtain e|e:=f
 .rw[e];exact h.at_
 exact cI λk d=>bZ b.size (e k d)
theorem xZ(w:ay)(a b:aA)(ty:aE):∀j u,[a,b][j]?=ah u->aU (bC w (aq #[a,b] ty)) ((az w.heap.size 0:Addr).add j)=ah u:=by
 intro j u c;have d:=ey w #[a,b] ty
 match j,c with
 |0,c=>simp at c;subst c;exact d.cell (i:=0) bQ
 |1,c=>simp at c;subst c;exact d.cell (i:=1) bQ
def Mx:(prog.info? 34).map (λi=>(i.zero,i.size,i.bytes))=ah (ah (.agg #[iz 0,iz 0]),2,16):=bV
theorem RI(l):∀(r:List Pr)(a:Pr),fK l (r++[a])=if a∈fK l r then fK l r else fK l r++[a]:=by
 intro r
 induction r generalizing l with
 |nil=>grind[fK]
 |cons q r b=>grind[fK]
theorem mO(l):∀(r:List Pr),bB (fK l r)<=bB l+bB r:=by
 intro r
 induction r generalizing l with
 |nil=>simp[fK]
 |cons q r a=>grind[fK]
theorem zV(w base)(u:base<=w.heap.size)(v0 l)(Z:bD w base 34 2 v0 (bB l) (lj l))(D pc ps)(hp:mB w (aj D (bB ps) pc) ps)(B:∀b d,D=ah (az b d)->aP v0≠ah b)(hn:(bB l+bB ps)*16<=140737488355328):
  aB prog 89 #[v0,aj D (bB ps) pc] w λe w'=>∃v',e=aw v'∧tZ base 34 2 w v0 w' v' (bB (fK l ps)) (lj (fK l ps)):=by
 have T:Hid (∀W:ay,bI (λk=>aP v0=ah k) w W->∀(j:Nat)(p:Pr),ps[j]?=ah p->∃b d,D=ah (az b d)∧aU W ⟨b,d+j*2,ai⟩=ah (iz p.1)∧aU W ⟨b,d+j*2+1,ai⟩=ah (iz p.2)):=λW K j p I=>by
  obtain⟨a,c,e,h⟩:=hp;simp only[fL,mC] at e;obtain⟨rfl,rfl⟩:=e;obtain e|⟨b,d,rfl,h⟩:=h
  .rw[e] at I;simp at I
  have f:=cV w _ (h j p I).1;have e:=K.block b f (B b d rfl);grind[World.cell?_of_block]
 let⟨i0,G,L,M,N⟩:=eB Mx;obtain⟨n,X⟩:=bJ (bB ps);have P:Hid (_):=tZ.start Z;have HA:Hid (∀r:List Pr,bB (fK l r)<=bB l+bB r):=mO l;let⟨va,vc,hv⟩:=dZ Z;rw[hv] at P T⊢;rw[X] at hn⊢;have S:=bL X;go_enter func89,ntmps89
 go_wp2
 go_loopw[0,9] (λt0 O W=>∃i:Nat,i<=n∧O=iz i∧Hid (tZ base 34 2 w (aj va (bB l) vc) W t0 (bB (fK l (ps.take i))) (lj (fK l (ps.take i))))) λ_ O _=>n-(intOf O).toNat
 case atStart=>exact⟨0,dt _,rfl,P⟩
 case round=>
  obtain⟨i,hi,rfl,s⟩:=hrel;by_cases f:i<n
  .have z:i<bB ps:=by rw[S.out];exact f
   obtain⟨b,d,rfl,q1,q2⟩:=T.out wr s.out.kept i _ (bP z);have J:IntKind.i64.wrap ((i:Int)+1)=(i:Int)+1:=aew
   have ab:bB (fK l (ps.take i))<=bB l+i:=bZ (HA.out _) bX;have HS:Hid (fK l (ps.take (i+1))=if ps[i]∈fK l (ps.take i) then fK l (ps.take i) else fK l (ps.take i)++[ps[i]]):=by show _=_;rw[dJ,bP z,fE,RI]
   generalize ps[i]=p at *;generalize fK l (ps.take i)=m at *;let⟨ma,mc,hm⟩:=dZ s.out.row;subst hm;by_cases A:p∈m
   .have C:=C8 (bC wr (aq #[iz p.1,iz p.2] 34)) (aj ma (bB m) mc) (mB.qO (ew s.out.row ((cW _ _).alloc (bT _) _))) bO p;rw[cZ A] at C;have t:Hid (_):=s.out.below ((cW _ wr).alloc (bT _) (aq #[iz p.1,iz p.2] 34));have F:Hid (fK l (ps.take (i+1))=m):=cG
    go_wp2_with(go_at_call 133;refine C.mono ?_;rintro e q ⟨rfl,g⟩);refine⟨⟨i+1,f,by simp,?_⟩,by simp[intOf];omega⟩;rw[F.out];exact t.out.below g
   have C:=C8 (bC wr (aq #[iz p.1,iz p.2] 34)) (aj ma (bB m) mc) (mB.qO (ew s.out.row ((cW _ _).alloc (bT _) _))) bO p;rw[cP A] at C;have t:Hid (_):=s.out.below ((cW _ wr).alloc (bT _) (aq #[iz p.1,iz p.2] 34));have F:Hid (fK l (ps.take (i+1))=m++[p]):=cG
   have V:=ey wr #[iz p.1,iz p.2] 34;have a1:=V.cell (i:=0) bQ;have a2:=V.cell (i:=1) bQ;have E:Hid (∀q:ay,aC (bC wr (aq #[iz p.1,iz p.2] 34)).heap.size (bC wr (aq #[iz p.1,iz p.2] 34)) q->cz q wr.heap.size 0 (iz p.1)∧cz q wr.heap.size 1 (iz p.2)):=λq hB=>by have e:=hB.block wr.heap.size bQ;grind[World.cell?_of_block]
   go_wp2_with(go_at_call 133;refine C.mono ?_;rintro e q ⟨rfl,g⟩;refine dM ?_);delta Aside;have U:=t.out.below g;let⟨a1,a2⟩:=E.out q g;have aa:base<=q.heap.size:=bZ u U.kept.size;have Q:Hid (_):=U;apply_assumption
   go_wp2_with(first|(at_builtin;refine dM ?_));delta Aside;refine fX _ rfl _ _ 109 rfl base 34 i0 _ 2 16 underlying109 G L M N rfl bS _ _ _ rfl (Q.out.row.alloc _) (az _ 0) 1 1 [iz p.1,iz p.2] rfl rfl (xZ q _ _ _) cM cJ bO bX ?_;intro v8 w8 x o _ y;have H8:Hid (_):=Q.out.push ((cW _ _).alloc (bT _) _) x o (y.imp id λe k Y=>by rw[e] at Y;cases Y;exact bT _)
   go_wp2;refine⟨⟨i+1,f,by simp,?_⟩,by simp[intOf];omega⟩;rw[F.out,BJ,cR];exact H8.out
  have H:i=n:=bO
  have R:Hid (_):=s.out;rw[H,<-S.out,fI] at R
  go_wp2;go_ret;exact⟨_,rfl,R.out⟩
theorem Fv{P:Program}(w)(dT A ty d:aE)(g o c f a e p b)(t:aE)(cs)(z:P.underlying dT=ah (.slice d))(hs:(P.info? d).map (·.size)=ah 2)(u:w.heap[g]?=ah (.cells b t (0,0)))(y:bB cs=Nat.min e c*2)(m:∀j v,cs[j]?=ah v->aU w (a.add j)=ah v)(h:o+bB cs<=b.size)(s:∀v∈cs,v.oneCell'=true):
  (Builtin.copy_ #[dT,A] ty #[aj (ah (az g o)) c f,aj (ah a) e p]).run P w=
   .ok (goInt (Nat.min e c)) (w.setRow g (b.toList.take o++cs++b.toList.drop (o+bB cs)).toArray):=by
 have hl:=run_loadCells_list (P:=P) w a cs m;have r:=run_storeCells_at P g o t cs 0 b w u (by simpa using h) s;cases q:P.info? d with
 |none=>simp[q] at hs
 |some i=>
  have x:i.size=2:=by simpa[q] using hs
  simp[Builtin.copy_,gM z,Builtin.lenOf,Builtin.firstCells,sizeOf,typeInfo,q,x,<-y,hl,r]
def kU(ps:List Pr):List Pr:=(ps++List.replicate 4 (0,0)).take 4
def rF(c:Pr)(ps:List Pr):List aA:=OD c++lj (kU ps)
def Om:(prog.info? 34).map (·.size)=ah 2:=bV
theorem Mi{w}(c){M}(pc){ps}(hp:mB w (aj M (bB ps) pc) ps)(m:1<=bB ps∧bB ps<=4):aB prog 142 #[.agg #[ae af c.1,ae af c.2],aj M (bB ps) pc] w λe U=>e=aw (.agg (rF c ps).toArray)∧aC w.heap.size w U:=by
 obtain⟨a,V,e,hp⟩:=hp;simp only[fL,mC] at e;obtain⟨rfl,rfl⟩:=e;obtain rfl|⟨b,i,rfl,hp⟩:=hp
 .simp at m
 have x:∀W:ay,aC w.heap.size w W->∀(g:Nat)(h:Array aA),W.heap[g]?=ah (.cells h 206 (0,0))->h.size=10->(Builtin.copy_ #[109,109] 3 #[aj (ah ⟨g,2,ai⟩) 4 4,aj (ah ⟨b,i,ai⟩) (bB ps) pc]).run prog W=.ok (goInt (bB ps)) (W.setRow g (h.toList.take 2++lj ps++h.toList.drop (2+bB (lj ps))).toArray):=λW Q g h R X=>by
  have t:Nat.min (bB ps) 4=bB ps:=ik m.2;have:=Fv (P:=prog) W 109 109 3 34 g 2 4 4 ⟨b,i,ai⟩ (bB ps) pc h 206 (lj ps) underlying109 Om R (by rw[t,xz]) (λj v s=>by
   have S:j<bB ps*2:=by rw[<-xz];exact(bU.1 s).1
   have L:j / 2<bB ps:=bO
   have q:=hp (j / 2) _ (bP L);have r:=BI (bP L);have A:=cV w _ q.1;have e:=Q.block b A;rw[j9];obtain T|T:=xg j
   .have z:j / 2*2=j:=bO
    rw[z] at q r;rw[r.1] at s;cases s
    exact(cL (a:=⟨b,i+j,ai⟩) e).trans q.1
   have z:j / 2*2+1=j:=bO
   have O:i+j / 2*2+1=i+j:=bO
   rw[O] at q;rw[z] at r;rw[r.2] at s;cases s
   exact(cL (a:=⟨b,i+j,ai⟩) e).trans q.2) (by rw[xz];omega) (λv u=>by
   simp only[lj,lI,OD] at u;obtain⟨p,_,u⟩:=u;simp at u;obtain rfl|rfl:=u<;>rfl)
  grind
 have N:Hid (_):=(((cW w.heap.size w).alloc (bT _) (aq #[ae af c.1,ae af c.2] 34)).alloc bQ (aq #[ae af 0,ae af 0,ae af 0,ae af 0,ae af 0,ae af 0,ae af 0,ae af 0,ae af 0,ae af 0] 206)).alloc bX (aq #[ae af c.1,ae af c.2,ae af 0,ae af 0,ae af 0,ae af 0,ae af 0,ae af 0,ae af 0,ae af 0] 206);have x:=x _ N.out (w.heap.size+1+1) _ (by have:=World.alloc_heap_new (bC (bC w (aq #[ae af c.1,ae af c.2] 34)) (aq #[ae af 0,ae af 0,ae af 0,ae af 0,ae af 0,ae af 0,ae af 0,ae af 0,ae af 0,ae af 0] 206)) (aq #[ae af c.1,ae af c.2,ae af 0,ae af 0,ae af 0,ae af 0,ae af 0,ae af 0,ae af 0,ae af 0] 206);simpa using this) rfl
 have hz:(bC (bC w (aq #[ae af c.1,ae af c.2] 34)) (aq #[ae af 0,ae af 0,ae af 0,ae af 0,ae af 0,ae af 0,ae af 0,ae af 0,ae af 0,ae af 0] 206)).heap.size=w.heap.size+1+1:=bQ
 have J:=World.setRow_alloc_new (bC (bC w (aq #[ae af c.1,ae af c.2] 34)) (aq #[ae af 0,ae af 0,ae af 0,ae af 0,ae af 0,ae af 0,ae af 0,ae af 0,ae af 0,ae af 0] 206)) #[ae af c.1,ae af c.2,ae af 0,ae af 0,ae af 0,ae af 0,ae af 0,ae af 0,ae af 0,ae af 0] (rF c ps).toArray 206;rw[hz] at J;have B:(#[aS .i64 c.1,ae af c.2,ae af 0,ae af 0,ae af 0,ae af 0,ae af 0,ae af 0,ae af 0,ae af 0].toList.take 2++lj ps++#[aS .i64 c.1,ae af c.2,ae af 0,ae af 0,ae af 0,ae af 0,ae af 0,ae af 0,ae af 0,ae af 0].toList.drop (2+bB (lj ps)))=rF c ps:=by
  match ps,m with
  | [a],_=>rfl
  | [a,b],_=>rfl
  | [a,b,d],_=>rfl
  | [a,b,d,f],_=>rfl
  |a::b::d::f::g::r,m=>simp at m
 rw[B,J] at x;have y:Hid (_):=(((cW w.heap.size w).alloc (bT _) (aq #[ae af c.1,ae af c.2] 34)).alloc bQ (aq #[ae af 0,ae af 0,ae af 0,ae af 0,ae af 0,ae af 0,ae af 0,ae af 0,ae af 0,ae af 0] 206)).alloc bX (aq (rF c ps).toArray 206);have o:∃C x1 x2 x3 D E F G H I:Int,rF c ps=[ae af C,ae af x1,ae af x2,ae af x3,ae af D,ae af E,ae af F,ae af G,ae af H,ae af I]:=by
  match ps,m with
  | [a],_=>exact⟨_,_,_,_,_,_,_,_,_,_,rfl⟩
  | [a,b],_=>exact⟨_,_,_,_,_,_,_,_,_,_,rfl⟩
  | [a,b,d],_=>exact⟨_,_,_,_,_,_,_,_,_,_,rfl⟩
  | [a,b,d,f],_=>exact⟨_,_,_,_,_,_,_,_,_,_,rfl⟩
  |a::b::d::f::g::r,m=>simp at m
 obtain⟨C,x1,x2,x3,D,E,F,G,H,I,o⟩:=o;rw[o] at x y⊢;generalize bB ps=n at *;go_enter func142,ntmps142
 go_wp2_with fail;refine⟨rfl,.agg #[ae af C,ae af x1,ae af x2,ae af x3,ae af D,ae af E,ae af F,ae af G,ae af H,ae af I],by simp[results,results142,go_sem],rfl,?_⟩;exact(((cW w.heap.size w).alloc (bT _) _).alloc bQ _).alloc bX _
