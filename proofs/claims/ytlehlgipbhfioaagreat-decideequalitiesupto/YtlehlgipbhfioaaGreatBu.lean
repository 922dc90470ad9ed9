import Derived.Test.YtlehlgipbhfioaaGreatBp
import Derived.Test.YtlehlgipbhfioaaGreatBt
namespace Go.Proofs.YtlehlgipbhfioaaGreat
set_option maxHeartbeats 18000000
set_option maxRecDepth 100000
set_option linter.all false
open Go.RowKit Go.Shelf Go.Maps Go.Proofs.Tryz
open Go.Value renaming int->ae,slice->aj,pointer->ak,int->aS,ownBlock->aP
open Go.IntKind renaming i64->af
open Go.Obj renaming cells->aq,cells->aR
open Go.Ending renaming returned->aw
open Option renaming some->ah,none->ai
open Go.World renaming frozen?->bG,alloc->bC,cell?->aU,rowIs->bE,ownsRow->bD,setCell->aW,drewN->bF,grownBy->bH
open Go.RowKit renaming Below->aC
open Go renaming Calls->aB,World->ay,Aside->aH,Value->aA,undef->aF,TypeId->aE,Addr->aD
open List renaming length->bB
open Bool renaming true->aK,false->aL
open Go.Act renaming put->aQ
section
attribute [local go_sem] ij
def KZ(t:aE):Prop:=t=335∨t=36∨t=161∨t=243∨t=241
def encS(x:Lf×Nat):Array aA:=#[ak (ah ⟨x.1.b,x.1.o,ai⟩),ae af x.2]
def rO(ws:List (Lf×Nat)):List aA:=ws.flatMap λx=>[ak (ah ⟨x.1.b,x.1.o,ai⟩),ae af x.2]
theorem Im(w a):
  aB prog 196 #[.pointer a] w λe h=>e=aw (.func (.func 234) #[] #[pz w.heap.size])∧h=bC w (aq #[.pointer a] 161):=by
 go_enter func196,ntmps196
 go_wp2;go_ret;exact⟨rfl,rfl⟩
theorem sG(ws:List (Lf×Nat)):bB (rO ws)=bB ws*2:=by
 induction ws with
 |nil=>rfl
 |cons x ws e=>simp[rO] at e⊢;omega
theorem vn(a b:List (Lf×Nat)):rO (a++b)=rO a++rO b:=by simp[rO]
variable{B base size g d cap i b n:Nat}{W W' w w8:ay}
def Kr.fG(K:Kr KZ B W W'):fQ 0 W W':=λk c e _ h=>K.same k _ h (cI ⟨c,36,e,rfl,cI (cB rfl)⟩)
variable{v:aA}{xs:List aA}
theorem Kr.row(K:Kr KZ B W W'){k:Nat}(h:bD W base 335 size v k xs):bD W' base 335 size v k xs:=by
 refine⟨h.1,?_⟩;obtain e|⟨g,cap,j,e,o,q,r⟩:=h.2
 .exact cB e
 exact cI ⟨g,cap,j,e,o,K.same g _ q (cI ⟨j,_,_,rfl,cB rfl⟩),r⟩
variable{ty:aE}
theorem Ow.grownBy{row:Option Nat}(h:bH W W' row)(y:∀r,row=ah r->B<=r∧∃c q,W.heap[r]?=ah (aR c ty q)):Ow ty B W W':=by
 refine⟨h.os,h.tape,h.output,h.size,λk o s j=>?_⟩;refine(h.block k (bY.1 s).1 λe=>?_).trans s;let⟨z,c,q,u⟩:=y k e.symm;obtain j|j:=j
 .omega
 rw[s] at u;cases u
 exact j.2 ⟨c,ty,q,rfl,rfl⟩
def Ow.drewN(W m):Ow ty B W (bF W m):=⟨rfl,rfl,rfl,bT _,λ_ _ h _=>h⟩
def Se:=@Ow.drewN
variable{c args:Array aA}
theorem Ow.setCell(W)(q:B<=g){j:Nat×Nat}(s:W.heap[g]?=ah (aR c ty j))(o u):Ow ty B W (aW W (az g o) u):=
 Ow.grownBy (row:=ah g) ⟨rfl,rfl,rfl,by simp[aW],λk _ h=>cO W (az g o) u k λe=>h (by rw[show k=g from e])⟩ λr e=>by grind
variable{k t x:Lf}
theorem vG(h:jS W t):∃a cap,(if t.op=0 then Value.slice ai 0 0 else t.kv)=aj a (bB t.ks) cap:=by let⟨a,cap,e,_⟩:=h.tw;unfold Lf.ks;grind
theorem Lj{t:Lf}{d m:Nat}(h:m<bB t.ks)(j:d<=m):m-d+2<=bB (wk t d):=by
 obtain⟨k,e⟩:∃k,t.ks[d]?=ah k:=⟨_,bP bO⟩
 rw[oz e];by_cases o:d=m
 .grind[wk]
 have:=Lj (t:=t) (d:=d+1) h bO;simp;omega
termination_by bB t.ks-d
decreasing_by omega
theorem Ss{t k:Lf}{d m:Nat}(h:t.ks[m]?=ah k)(r:d<=m):bB (wk k 0)+1<=bB (wk t d):=by
 have q:=(bU.1 h).1;by_cases o:d=m
 .subst o;rw[oz h];simp
 obtain⟨j,e⟩:∃j,t.ks[d]?=ah j:=⟨_,bP bO⟩
 have:=Ss (d:=d+1) h bO;rw[oz e];simp;omega
termination_by bB t.ks-d
decreasing_by omega
def Vh:(prog.info? 335).map (λi=>(i.zero,i.size,i.bytes))=ah (ah (.agg #[ak ai,iz 0]),2,16):=bV
theorem EI(w:ay)(x y:aA)(t:aE):∀j u,[x,y][j]?=ah u->aU (bC w (aq #[x,y] t)) ((az w.heap.size 0:aD).add j)=ah u:=by
 intro j u e;have R:=ey w #[x,y] t
 match j,e with
 |0,e=>simp at e;rw[<-e];exact R.cell (i:=0) bQ
 |1,e=>simp at e;rw[<-e];exact R.cell (i:=1) bQ
theorem aba(h:jS W t)(e:t.ks[d]?=ah k):∃kb j kl cap,t.kv=aj (ah (az kb j)) kl cap∧d<kl∧k.b=kb∧k.o=j+d*4∧k∈t.kids:=by
 unfold Lf.ks at e
 split at e
 .simp at e
 let⟨a,cap,o,_,q⟩:=h.tw;grind
structure Wy(W:ay)(B:Nat)(t:Lf)(v:aA)(ws:List (Lf×Nat)):Prop where
 row:bD W B 335 2 v (bB ws) (rO ws)
 here:∀x∈ws,jS W x.1∧x.2<=x.1.ks.length
 deep:∀(i:Nat)(x:Lf×Nat),ws[i]?=ah x->bB (wk x.1 0)+i<=bB (wk t 0)
def Wy.kr{C:Nat}{ws:List (Lf×Nat)}(h:Wy W B t v ws)(K:Kr KZ C W W'):Wy W' B t v ws:=
 ⟨K.row h.row,λx e=>⟨(h.here x e).1.keep (K.fG.yq _),(h.here x e).2⟩,h.deep⟩
variable{rest:List (Lf×Nat)}{p:Lf×Nat}
theorem Wy.last(h:Wy W B t v (rest++[p])):
  ∃g cap,v=aj (ah (az g 0)) (bB rest+1) cap∧bB rest+1<=cap∧B<=g∧(∃c,W.heap[g]?=ah (aR c 335 (0,0)))∧aU W ⟨g,bB rest*2,ai⟩=ah (ak (ah (az p.1.b p.1.o)))∧aU W ⟨g,bB rest*2+1,ai⟩=ah (iz p.2)∧Wy W B t (aj (ah (az g 0)) (bB rest) cap) rest:=by
 have o:=h.row;rw[cR,eD,vn] at o;let⟨g,cap,z⟩:=ownsRow_succ o;subst z;have j:bB rest+1<=cap∧B<=g∧∃c,W.heap[g]?=ah (aR c 335 (0,0)):=by
  obtain⟨e,_⟩|⟨C,y,q,e,r,s,u,_⟩:=o.2
  .cases e
  cases e;exact⟨u,r,q,s⟩
 have c0:=o.cellAt (bB rest*2) bO;have c1:=o.cellAt (bB rest*2+1) bO;rw[dr (by rw[sG];omega),sG] at c0 c1;refine⟨g,cap,rfl,j.1,j.2.1,j.2.2,by simpa[rO] using c0,by simpa[rO] using c1,⟨ownsRow_pop (sG rest) o,λx A=>h.here x (dh _ A),λi x D=>h.deep i x ?_⟩⟩;grind
theorem Wy.at(h:Wy W B t (aj (ah (az g 0)) (bB rest+1) cap) (rest++[p])):
  B<=g∧(∃c,W.heap[g]?=ah (aR c 335 (0,0)))∧aU W ⟨g,bB rest*2,ai⟩=ah (ak (ah (az p.1.b p.1.o)))∧aU W ⟨g,bB rest*2+1,ai⟩=ah (iz p.2)∧Wy W B t (aj (ah (az g 0)) (bB rest) cap) rest:=by
 let⟨j,e,y,_,o,q,r,s,u⟩:=h.last;grind
theorem QO(h:W.heap[g]?=ah (aR c ty (0,0)))(o):bG W (az g o)=aL:=by simp[bG,h]
theorem Wy.done(h:Wy W B t (aj (ah (az g 0)) (bB rest+1) cap) (rest++[p]))(s:p.2<p.1.ks.length):
  Wy (aW W ⟨g,bB rest*2+1,ai⟩ (iz ((p.2:Int)+1))) B t (aj (ah (az g 0)) (bB rest+1) cap) (rest++[(p.1,p.2+1)]):=by
 have r:=h.row;rw[cR,eD] at r;let⟨_,⟨c,A⟩,_,_,_⟩:=h.at;refine⟨?_,?_,?_⟩
 .rw[cR,eD];have e:(rO (rest++[p])).set (bB rest*2+1) (iz ((p.2:Int)+1))=rO (rest++[(p.1,p.2+1)]):=by
   rw[vn,vn,gJ _ _ (by rw[sG];omega),sG];have:bB rest*2+1-bB rest*2=1:=bO
   rw[this];simp[rO]
  rw[<-e];exact(r.stored (bB rest*2+1) (iz ((p.2:Int)+1))).1
 .intro x o;have K:iH (λ_=>True) W (aW W ⟨g,bB rest*2+1,ai⟩ (iz ((p.2:Int)+1))):=λk y z _ u=>(cO W _ _ k (λe=>by
   grind)).trans u
  obtain o|o:=cU.1 o
  .exact⟨(h.here x (dh _ o)).1.keep K,(h.here x (dh _ o)).2⟩
  obtain rfl:=dL.1 o;exact⟨(h.here p bQ).1.keep K,s⟩
 intro i x j;by_cases q:i<bB rest
 .rw[df q] at j;exact h.deep i x cG
 rw[dr bO] at j;have:i-bB rest=0:=by
  have:=(bU.1 j).1;simp at this;omega
 rw[this] at j;simp at j;rw[<-j];have:=h.deep (bB rest) p bQ;grind
theorem Ph(n)(hn:1<=n)(Bf){t}{w0}(hb:bE w0 Bf 161 1 λ_=>ak (ah (az t.b t.o)))(ht:jS w0 t)(hN:bB (wk t 0)*16<=140737488355328):
  WN n prog KZ 335 234 #[pz Bf] encS (wk t 0) w0:=by
 intro l J W hW Z hY h0;have a1:=(hW.cell (p:=az Bf 0) hb.lt).trans (hb.cell (i:=0) bO);refine qw func234 rfl trivial ?_ rfl;simp only[ntmps234,fU,ed,dQ,Nat.reduceAdd,Nat.reduceSub,fP,fO,gr,fV,ff,eU]
 gi_wp2
 have D:=Z 0 W _ h0 (qy W (aq #[ak (ah (az t.b t.o)),iz 0] 335));have U:(hz W)<=(bC W (aq #[ak (ah (az t.b t.o)),iz 0] 335)).heap.size:=bQ
 have Y1:Wy (bC W (aq #[ak (ah (az t.b t.o)),iz 0] 335)) (hz W) t (.slice (ah (az (hz W) 0)) 1 1) [(t,0)]:=by
  refine⟨World.ownsRow_lit _ #[ak (ah (az t.b t.o)),iz 0] 1 (bT _) bS rfl,?_,?_⟩
  .intro x L;obtain rfl:=dL.1 L;refine⟨(ht.keep ?_).keep ((gG 0 W _).yq _),dt _⟩;exact λk c fz _ I=>(hW.block k (bY.1 I).1).trans I
  grind
 generalize bC W (aq #[ak (ah (az t.b t.o)),iz 0] 335)=w1 at D Y1 U⊢;refine wpIn_wide.2 ?_
 go_loopg[3] (bB (wk t 0)) λk v W'=>∃(ws:List (Lf×Nat))(i:Nat),Hid (i+k=bB (wk t 0)∧k=bB (rem ws.reverse)∧(wk t 0).drop i=rem ws.reverse)∧Wy W' (hz W) t v ws∧Hid (J i W')∧Hid (hz W<=hz W')
 case atStart=>exact⟨[(t,0)],0,⟨by omega,by simp[rem],by simp[rem]⟩,Y1,D,U⟩
 case round=>
  clear D Y1 U h0 a1;obtain⟨ws,i,I,Y,N,ad⟩:=hrel;obtain rfl|⟨rest,p,rfl⟩:=List.eq_nil_or_concat ws
  .obtain⟨va,vc,hv⟩:=gU Y.row;subst hv
   go_wp2
   go_end0
   obtain⟨e1,F,e3⟩:=I.out;have e4:i=bB (wk t 0):=by simp[rem] at F;omega
   exact⟨⟨_,rfl⟩,e4▸N.out⟩
  rw[List.concat_eq_append] at I Y;obtain⟨g,cap,hv,bc,b7,a2,c0,c1,Y2⟩:=Y.last;subst hv;have cb:bB rest<=8796093022208:=by
   have D:=Y.deep (bB rest) p bQ;omega
  have bo:(0:Int)<(bB rest:Int)+1:=bO
  go_wp2;go_quiet(fail);have Y3:Wy (bF wr nq) (hz W) t (aj (ah (az g 0)) (bB rest+1) cap) (rest++[p]):=by have:=Y.kr (C:=0) (W':=bF wr nq) ⟨bT _,λ_ _ h _=>h⟩;exact this
  have J3:Hid (J i (bF wr nq)):=Z i _ _ N.out (Ow.drewN wr nq);have ag:Hid (hz W<=(bF wr nq).heap.size):=ad;clear Y Y2 N ad c0 c1 a2;generalize bF wr nq=w3 at *;obtain⟨e1,F,e3⟩:=I.out;have hi:(wk t 0)[i]?=ah p:=by
   have D:(wk t 0)[i]?=((wk t 0).drop i)[0]?:=bQ
   rw[D,e3];simp only[rem,KI,yu,Xb,ff,List.singleton_append,gS];rw[wk];rfl
  obtain⟨fn,bj,assign,bb,hy,hR⟩:=hY i p w3 hi J3.out;unfold encS at hy;dsimp only[Exit.then];apply_assumption;refine(wpIn_wide (n:=n)).1 ?_;have bR:=(Y3.here p bQ).2
  gi_wp2
  refine hR.mono ?_;rintro e V ⟨rfl,M,P⟩;have u:=Y3.kr P;have al:Hid (hz W<=hz V):=bZ ag.out P.size;obtain⟨ka,kc,a5⟩:=vG (u.here p bQ).1;have KD:=gi (n:=n-1) |>.2 (AK V (u.here p bQ).1)
  rw[a5] at KD;clear hR hy Y3 J3 ag P;by_cases aa:p.2=p.1.ks.length
  .have dE:((p.2:Int)==(p.1.ks.length:Int))=aK:=bX
   have ap:(p.2:Int)=p.1.ks.length:=bO
   obtain⟨_,_,_,_,s⟩:=u.at;have o:Hid (rem (rest++[p]).reverse=p::rem rest.reverse):=by show rem _=_;simp only[rem,KI,yu,Xb,ff,List.singleton_append,gS];rw[sX (gW bO)];rfl
   clear aa
   gi_wp2_with(first|(refine⟨trivial,?_⟩;gi_at_call 156;refine KD.mono ?_;rintro e w5 ⟨rfl,rfl⟩))
   go_roundg (bB (rem rest.reverse))
   case measure=>rw[F,o.out];simp
   case rel=>
    refine⟨rest,i+1,⟨?_,rfl,?_⟩,s,M,al⟩
    .rw[o.out] at F;simp at F;omega
    rw[<-py,e3,o.out];rfl
  have dE:((p.2:Int)==(p.1.ks.length:Int))=aL:=bX
  have ap:¬(p.2:Int)=p.1.ks.length:=bO
  have E:p.2<p.1.ks.length:=bO
  obtain⟨G,⟨gc,y⟩,q0,q1,_⟩:=u.at;have b0:=QO y (bB rest*2+1);have cc:p.2<=8796093022208:=by have D:=u.deep (bB rest) p bQ;have h2:=Lj (t:=p.1) (d:=0) E (dt _);omega
  have s:=u.done E;have J5:=Z (i+1) _ _ M (Ow.setCell V G y (bB rest*2+1) (iz ((p.2:Int)+1)));obtain⟨He,z⟩:∃k,p.1.ks[p.2]?=ah k:=⟨_,bP E⟩
  obtain⟨kb,ko,kl,bi,a7,b8,a4,a6,ab⟩:=aba (u.here p bQ).1 z;have c3:=(u.here p bQ).1.cells.c3;rw[a7] at c3;have ca:¬p.1.b=g:=by obtain⟨c,fz,hc,_⟩:=(u.here p bQ).1.cells;rintro rfl;rw[y] at hc;simp at hc
  obtain⟨i0,a3,a8,a9,ba⟩:=eB Vh;have be:(p.2:Int)<kl:=bO
  have h6:(hz W)<=(aW V ⟨g,bB rest*2+1,ai⟩ (iz ((p.2:Int)+1))).heap.size:=by simp[aW];exact al.out
  have ac:=s.row;rw[cR,eD] at ac;have ao:=bL (b9 s J5);have an:(aW V ⟨g,bB rest*2+1,ai⟩ (iz ((p.2:Int)+1))).heap.size=hz V:=by simp[aW]
  have TW:=EI (aW V ⟨g,bB rest*2+1,ai⟩ (iz ((p.2:Int)+1))) (ak (ah ⟨kb,ko+p.2*4,ai⟩)) (iz 0) 335;rw[an] at TW;clear an;have b6:(bB rest+1+1)*16<=140737488355328:=by have D:=u.deep (bB rest) p bQ;have h2:=Lj (t:=p.1) (d:=0) E (dt _);omega
  clear u s J5 M hY
  gi_wp2_with(first|(refine⟨trivial,?_⟩;gi_at_call 156;refine KD.mono ?_;rintro e w5 ⟨rfl,rfl⟩)|(gi_at_builtin;refine dM ?_))
  delta aH;refine wpListIn_append_own _ rfl _ _ 336 rfl (hz W) 335 i0 _ 2 16 underlying336 a3 a8 a9 ba rfl bS _ _ _ rfl (ac.alloc _) (az _ 0) 1 1 [ak (ah ⟨kb,ko+p.2*4,ai⟩),iz 0] rfl rfl TW cM cJ bO (bZ h6 bQ) ?_;intro v' w7 A q _;replace q:bH _ w7 (ah g):=q;obtain⟨g7,X,rfl⟩:=ownsRow_succ A
  gi_wp2
  obtain⟨s,J5⟩:=ao.out;obtain⟨_,⟨a0,H⟩,_,_,_⟩:=Wy.at (rest:=rest) (p:=(p.1,p.2+1)) (by simpa using s);have S:Ow 335 (hz W) _ w7:=Ow.grownBy q (λr e=>by
   have:r=g:=by simpa using e.symm
   subst this;exact⟨G,a0,(0,0),(dB _ _ _ (bY.1 H).1).trans H⟩)
  have K7:iH (λ_=>True) _ w7:=((gG 0 _ _).yq λ_=>True).trans (λk c fz _ I=>S.same k _ I (cI ⟨rfl,by rintro⟨c',cd,bx,e,e'⟩;cases e;cases e'⟩));have o:rem (rest++[p]).reverse=p::rem (rest++[(p.1,p.2+1)]++[(He,0)]).reverse:=by simp only[rem,KI,yu,Xb,ff,gS,eU];rw[oz z];simp
  have Y7:Wy w7 (hz W) t (aj (ah (az g7 0)) (bB rest+1+1) X) (rest++[(p.1,p.2+1)]++[(He,0)]):=by
   refine⟨?_,?_,?_⟩
   .rw[cR,cR,eD,eD,vn (rest++[(p.1,p.2+1)]) [(He,0)]];have e:rO [(He,0)]=[ak (ah ⟨kb,ko+p.2*4,ai⟩),iz 0]:=by simp[rO,a4,a6]
    rw[e];exact A
   .intro x L;obtain L|L:=cU.1 L
    .exact⟨(s.here x L).1.keep K7,(s.here x L).2⟩
    obtain rfl:=dL.1 L;exact⟨jS.He (t:=p.1) ((s.here (p.1,p.2+1) bQ).1.keep K7) ab,dt _⟩
   intro j x T;by_cases hl:j<bB rest+1
   .rw[df (by simpa using hl)] at T;exact s.deep j x T
   rw[dr bX] at T;have:j-bB (rest++[(p.1,p.2+1)])=0:=by
    have:=(bU.1 T).1;simp at this⊢;omega
   rw[this] at T;simp at T;have D:=s.deep (bB rest) (p.1,p.2+1) bQ;have h2:=Ss z (dt p.2);simp at this;rw[<-T];simp at D⊢;omega
  go_roundg (bB (rem (rest++[(p.1,p.2+1)]++[(He,0)]).reverse))
  case measure=>rw[F,o];simp
  case rel=>
   refine⟨rest++[(p.1,p.2+1)]++[(He,0)],i+1,⟨?_,rfl,?_⟩,Y7,Z (i+1) _ _ (Z (i+1) _ _ J5 (qy _ _)) S,?_⟩
   .rw[o] at F;simp only[ed] at F;omega
   .rw[<-py,e3,o];rfl
   have:=S.size;have h8:(aW w5 ⟨g,bB rest*2+1,ai⟩ (iz ((p.2:Int)+1))).heap.size<=hz w7:=bZ bQ this;exact bZ h6 h8
attribute [local go_sem] ij
def kV(x:Lf×Nat):Option Lf:=if x.2=x.1.ks.length then ah x.1 else ai
def es(t:Lf):List Lf:=(wk t 0).filterMap kV
def VS(x:Lf):Array aA:=#[ak (ah ⟨x.b,x.o,ai⟩)]
def Ai(t:Lf)(i:Nat):Nat:=bB (((wk t 0).take i).filterMap kV)
theorem Ro(h:(wk t 0)[i]?=ah (x,d)):(d=bB x.ks->(es t)[Ai t i]?=ah x∧Ai t (i+1)=Ai t i+1)∧(d≠bB x.ks->Ai t (i+1)=Ai t i):=by
 have e:=(bU.1 h).1;have q:(wk t 0).take (i+1)=(wk t 0).take i++[(x,d)]:=by rw[dJ,h];rfl
 have j:wk t 0=(wk t 0).take i++(x,d)::(wk t 0).drop (i+1):=by have:=iT i (wk t 0);rw[dP e] at this;rw[(bU.1 h).2] at this;exact this.symm
 constructor
 .intro r;have o:kV (x,d)=ah x:=by simp[kV,r]
  refine⟨?_,?_⟩
  .unfold es Ai;rw[j,kG,kM o];have:(List.take i (List.take i (wk t 0)++(x,d)::List.drop (i+1) (wk t 0)))=(wk t 0).take i:=by rw[<-j]
   rw[this];simp
  unfold Ai;rw[q,kG,kM o];simp
 grind[Ai,kV]
theorem Wg(t):Ai t (bB (wk t 0))=bB (es t):=by simp[Ai,es]
theorem UZ(h:k∈t.ks):k∈t.kids:=by grind[Lf.ks]
theorem xt{W:ay}{t:Lf}(d:Nat)(o:jS W t)(q:d<=bB t.ks):∀y∈wk t d,jS W y.1∧y.2<=y.1.ks.length:=by
 intro y e;cases h:t.ks[d]? with
 |none=>grind[sX,List.mem_singleton]
 |some k=>
  have j:=(bU.1 h).1;rw[oz h] at e;obtain rfl|e:=fA.1 e
  .exact⟨o,q⟩
  obtain e|e:=cU.1 e
  .exact xt 0 (o.He (UZ (cH h))) (dt _) y e
  exact xt (d+1) o j y e
termination_by (SizeOf.sizeOf t,bB t.ks-d)
decreasing_by
 .exact Ld _ _ (Eu (cH h))
 omega
theorem Ow.fG(h:Ow 335 B W W'):fQ 0 W W':=λk c u _ q=>h.same k _ q (cI ⟨rfl,by rintro⟨s,r,o,e,j⟩;cases e;cases j⟩)
variable{f:Nat->aA}
theorem Ow.rowIs(h:Ow 335 B W W')(j:ty≠335)(u:bE W b ty n f):bE W' b ty n f:=by obtain⟨c,r,s⟩:=u;exact⟨c,h.same b _ r (cI ⟨rfl,by rintro⟨z,y,q,e,o⟩;cases e;exact j o⟩),s⟩
theorem Kr.rowIs(h:Kr KZ B W W')(q:KZ ty)(o:bE W b ty n f):bE W' b ty n f:=by obtain⟨c,e,j⟩:=o;exact⟨c,h.same b _ e (cI ⟨c,ty,(0,0),rfl,q⟩),j⟩
variable{R:Ending->ay->Prop}
def Ef{m l o:Nat}{P:Program}{f:FuncId}{j:Array aA}{assign e:Code}(h:RoundIn Fence.wide n P l f j assign e w R):RoundIn (Fence.wide.inRound o) m P l f j assign e w R:=
 ⟨trivial,λc cs _=>h.2 c cs (room_wide _)⟩
theorem vJ(w a):
  aB prog 155 #[.pointer a] w λe h=>e=aw (.func (.func 195) #[] #[pz w.heap.size])∧h=bC w (aq #[.pointer a] 161):=by
 go_enter func155,ntmps155
 go_wp2;go_ret;exact⟨rfl,rfl⟩
theorem CY(n)(hn:3<=n)(Bf){t}{Z}(T:bE Z Bf 161 1 λ_=>ak (ah (az t.b t.o)))(ht:jS Z t)(hN:bB (wk t 0)*16<=140737488355328):
  WN n prog KZ 335 195 #[pz Bf] VS (es t) Z:=by
 intro l J W S N hY h0;have G:1<=n:=bO
 have aa:Bf<W.heap.size:=cQ T.lt S.size;have ab:=(S.cell (p:=az Bf 0) T.lt).trans (T.cell (i:=0) bO);refine callsIn_of_wp_marks func195 rfl trivial ?_ rfl;simp only[ntmps195,fU,ed,dQ,Nat.reduceAdd,Nat.reduceSub,fP,fO,gr,fV,ff,eU]
 gi_wp2_with(first|(refine⟨trivial,?_⟩;gi_at_call 196;refine(gi.2 (Im _ _)).mono ?_;rintro e w5 ⟨rfl,rfl⟩)|(gi_at_call 196;refine(gi.2 (Im _ _)).mono ?_;rintro e w5 ⟨rfl,rfl⟩))
 have X:(bC (bC W (aq #[.func (.yield l) #[] #[]] 243)) (aq #[ak (ah (az t.b t.o))] 161)).heap.size=W.heap.size+2:=bQ
 have V:(bC W (aq #[.func (.yield l) #[] #[]] 243)).heap.size=W.heap.size+1:=bQ
 have one:∀(w:ay)(v:aA)(ty:aE),bE (bC w (aq #[v] ty)) w.heap.size ty 1 (λ_=>v):=λw v ty=>eO (ey w #[v] ty) (λj hj=>by grind)
 have y2:bE (bC (bC W (aq #[.func (.yield l) #[] #[]] 243)) (aq #[ak (ah (az t.b t.o))] 161)) W.heap.size 243 1 (λ_=>.func (.yield l) #[] #[]):=(one W _ _).of_block (dB _ _ _ bQ);have b2:bE (bC (bC W (aq #[.func (.yield l) #[] #[]] 243)) (aq #[ak (ah (az t.b t.o))] 161)) (W.heap.size+1) 161 1 (λ_=>ak (ah (az t.b t.o))):=V▸one _ (ak (ah (az t.b t.o))) 161;have r:jS (bC (bC W (aq #[.func (.yield l) #[] #[]] 243)) (aq #[ak (ah (az t.b t.o))] 161)) t:=(ht.keep λk c fz _ hk=>(S.block k (bY.1 hk).1).trans hk).keep (((gG 0 W _).trans (gG 0 _ _)).yq _);have J2:J 0 (bC (bC W (aq #[.func (.yield l) #[] #[]] 243)) (aq #[ak (ah (az t.b t.o))] 161)):=N 0 _ _ h0 ((qy W _).trans (qy _ _));generalize bC (bC W (aq #[.func (.yield l) #[] #[]] 243)) (aq #[ak (ah (az t.b t.o))] 161)=w2 at X y2 b2 r J2⊢;refine FD G (gf:=234) (lb:=#[ak (ah ⟨W.heap.size+1,0,ai⟩)]) rfl (enters_of func234 bV rfl) (Ph (n-1) bO (W.heap.size+1) b2 r hN) (cW _ _) (λ_=>rfl)
  (λi o=>J (Ai t i) o∧jS o t∧bE o W.heap.size 243 1 (λ_=>.func (.yield l) #[] #[])∧W.heap.size<=o.heap.size)
  ?hI ?h0 (λx=>{tmps:=#[.func (.yield l) #[] #[],pz Bf,pz W.heap.size,ak (ah (az x.1.b x.1.o)),iz x.2,ak (ah (az t.b t.o)),.func (.func 234) #[] #[ak (ah ⟨W.heap.size+1,0,ai⟩)],ak (ah (az x.1.b x.1.o)),iz x.2,aF,aF,aF,aF,aF,aF,aF,aF,aF,aF,aF],defers:=[]}) ?assign ?body ?done
 case hI=>rintro i A B ⟨s,u,y,C⟩ F;exact⟨N _ _ _ s (F.mono bO),u.keep (F.fG.yq _),F.rowIs bS y,bZ C F.size⟩
 case h0=>exact⟨J2,r,y2,by omega⟩
 case assign=>
  intro Y x o K E;unfold encS
  gi_wp2
  exact E
 case body=>
  rintro Y i ⟨x,d⟩ o hx ad ⟨s,u,y,C⟩;let⟨H,I⟩:=Ro hx;let⟨z,ag⟩:=xt 0 u (dt _) (x,d) (cH hx);let⟨ka,kc,U⟩:=vG z;have KD:CallsIn (Fence.wide.inRound Y) (n-1-1-1) prog 156 #[ak (ah (az x.b x.o))] o λe w'=>e=aw (aj ka (bB x.ks) kc)∧w'=o:=by have:=AK o z;rw[U] at this;exact CallsIn.inRound Y (gi.2 this)
  have cy:=y.cell (i:=0) bO;have ac:1<=n-1-1:=bO
  by_cases hd:d=bB x.ks
  .let⟨L,M⟩:=H hd;let⟨fn,tmps,assign,body,hy,hR⟩:=hY (Ai t i) x o L s;unfold VS at hy;have dE:((d:Int)==(bB x.ks:Int))=aK:=bX
   gi_wp2_with(first|(refine⟨trivial,?_⟩;gi_at_call 156;refine KD.mono ?_;rintro e w5 ⟨rfl,rfl⟩))
   refine(Ef hR).mono ?_;rintro e w6 ⟨rfl,P,q⟩
   gi_wp2
   exact⟨q.mono bO,M▸P,u.keep (q.fG.yq _),q.rowIs (cI (cI (cI (cB rfl)))) y,bZ C q.size⟩
  have dE:((d:Int)==(bB x.ks:Int))=aL:=bX
  gi_wp2_with(first|(refine⟨trivial,?_⟩;gi_at_call 156;refine KD.mono ?_;rintro e w5 ⟨rfl,rfl⟩))
  refine⟨λ_ h=>(by cases h),?_⟩
  gi_wp2
  exact⟨Kr.refl _ _ _,(I hd)▸s,u,y,C⟩
 case done=>
  rintro D W3 hD ⟨s,u,y,C⟩ E
  gi_wp2
  refine⟨by simp,.inl ⟨_,_,rfl,run_takeDeferred E,?_⟩⟩;exact⟨_,vX rfl _ _ _,⟨_,rfl⟩,Wg t▸N _ _ _ s (pS _ bO E rfl)⟩
section
variable {P:Program} {l n:Nat} {Q:Exit->Act->ay->Prop}
def J6{f:FuncId}(h:aB P f args w R):CallsIn (Fence.wide.inRound l) n P f args w R:=CallsIn.inRound l (gi.2 h)
theorem LP{row:String}{R:aA->ay->Prop}(h:Rows P row args w R):RowsIn (Fence.wide.inRound l) n P row args w R:=λc cs _=>by let⟨v,j,e,hs⟩:=h c cs;exact⟨v,j,e,stepsIn_wide.2 hs⟩
variable{a:Act}
theorem Lq{o:Oper}{next:Act->ay->Prop}:∀{r:Result Next},o.upon P a next Q r->o.uponIn (Fence.wide.inRound l) n P a next Q r
 | .ok (.value _) _,h=>h
 | .ok .skip _,h=>h
 | .ok (.defer _) _,h=>h
 | .ok (.enter _ _) _,h=>⟨λe=>by simp[Fence.wide] at e,J6 h⟩
 | .ok (.row _ _) _,h=>⟨λe=>by simp[Fence.wide] at e,LP h⟩
 | .ok (.round _ _ _ _ _) _,h=>False.elim h
 | .ok .recover _,h=>False.elim h
 | .ok (.spawn _) _,h=>False.elim h
 | .ok (.comm _ _ _) _,h=>False.elim h
 | .halt (.panic _) _,h=>h
 | .halt (.exit _) _,h=>False.elim h
 | .halt (.unsupported _) _,h=>False.elim h
 | .halt (.stuck _) _,h=>False.elim h
variable{ops:Array Oper}{K:Act->ay->Prop}
theorem Us(e:∀o∈ops,∀c,o.op≠.defer c)(r:¬LetsOut Q)(h:wpOp P ops Q i K a w):wpOpIn (Fence.wide.inRound l) n P ops Q i K a w:=by
 unfold wpOp at h;unfold wpOpIn;cases j:ops[i]? with
 |none=>rw[j] at h;exact h
 |some o=>
  rw[j] at h;simp only at h⊢;have s:o∈ops:=Array.mem_of_getElem? j;by_cases q:Region.wanted o (yielded ops a.tmps)=aK
  .rw[cY q] at h⊢;obtain h|h:=h
   .refine⟨λ_ _=>trivial,?_⟩;rw[show(Fence.wide.inRound l).round=ah l from rfl,ij l _ _ (e o s)];exact Lq h
   exact absurd h.2 r
  rw[cC q] at h⊢;exact⟨λ_ _=>trivial,h⟩
theorem EP{s:Region.Mode}{ops:Array Oper}(q:∀o∈ops,∀c,o.op≠.defer c)(r:¬LetsOut Q):∀(e:Nat)(j:Array Bool)(a:Act)(w:ay),wpAny P s ops Q e j a w->wpAnyIn (Fence.wide.inRound l) n P s ops Q e j a w
 |0,_,_,_,h=>h
 |e+1,_,_,_,h=>⟨h.1,λi y=>wpOpIn_mono (λa w u=>EP q r e _ a w u) (Us q r (h.2 i y))⟩
end
def Ol:Op->Bool
 | .defer _=>aK
 |_=>aL
variable{Q:Exit->Act->ay->Prop}{ops:Array Oper}{a:Act}
theorem kT{l r:Nat}(q:ops.any (λo=>Ol o.op)=aL)(j:¬LetsOut Q)(h:wpAny prog .any ops Q ops.size (Array.replicate ops.size aL) a w.drew):
  (Code.region r ops aK).wpIn (Fence.wide.inRound l) n prog Q a w:=
 wpIn_region_any bV (EP (λo s c e=>by grind[Ol,Array.any_eq_false,Array.getElem_of_mem]) j _ _ _ _ h)
theorem uV{X : Prop}(w)(h : Code.wp prog (Code.region 0 #[{ dst := ai, op := Op.call { callee := Callee.builtin Builtin.append, args := #[], argTypes := #[] }, type := 0, pos := "", after := #[], guard := ah (0, aK) }] aK) (λ_ _ _ => X) { tmps := #[], defers := [] } w): X := by let ⟨_,_,_,e,_⟩:=h (Frame.enter prog 0 #[] .normal) [] [];exact e
variable{K:Act->ay->Prop}
theorem pI{X:Prop}(e : ∀a w, wpAny prog .any #[{ dst := ai, op := Op.call { callee := Callee.builtin Builtin.append, args := #[], argTypes := #[] }, type := 0, pos := "", after := #[], guard := ah (0, aK) }] (λ_ _ _ => X) 0 (Array.setIfInBounds (Array.replicate 1 aL) 0 aK) a w → K a w)(h : X):
  if Region.wanted { dst := ai, op := Op.call { callee := Callee.builtin Builtin.append, args := #[], argTypes := #[] }, type := 0, pos := "", after := #[], guard := ah (0, aK) } (yielded #[{ dst := ai, op := Op.call { callee := Callee.builtin Builtin.append, args := #[], argTypes := #[] }, type := 0, pos := "", after := #[], guard := ah (0, aK) }] a.tmps) = aK then Oper.wp prog { dst := ai, op := Op.call { callee := Callee.builtin Builtin.append, args := #[], argTypes := #[] }, type := 0, pos := "", after := #[], guard := ah (0, aK) } a w K Q else K (a.put ai aF) w := by
 rw[cC (by simp[Region.wanted,yielded])];exact e _ _ ⟨by kernel_rfl,h⟩
attribute [local go_sem] ij
def lZ{α β:Type}(f:α->Option β)(L:List α)(i:Nat):Nat:=bB ((L.take i).filterMap f)
variable{α β:Type}
theorem Wd{f:α->Option β}{L:List α}{x:α}(h:L[i]?=ah x):(∀y,f x=ah y->(L.filterMap f)[lZ f L i]?=ah y∧lZ f L (i+1)=lZ f L i+1)∧(f x=ai->lZ f L (i+1)=lZ f L i):=by
 have e:=(bU.1 h).1;have o:L.take (i+1)=L.take i++[x]:=by rw[dJ,h];rfl
 have q:L=L.take i++x::L.drop (i+1):=by have:=iT i L;rw[dP e] at this;rw[(bU.1 h).2] at this;exact this.symm
 constructor
 .intro y j;refine⟨?_,?_⟩
  .have r:L.filterMap f=(L.take i).filterMap f++y::(L.drop (i+1)).filterMap f:=by
    conv=>lhs;rw[q]
    rw[kG,kM j]
   rw[r,lZ];simp
  unfold lZ;rw[o,kG,kM j];simp
 grind[lZ]
theorem Gw(f:α->Option β)(L:List α):lZ f L (bB L)=bB (L.filterMap f):=by simp[lZ]
def isEq(x:Lf):Option (Int×Int):=if x.op=0 then ah (x.x,x.y) else ai
def eqs(t:Lf):List (Int×Int):=(es t).filterMap isEq
def abt(p:Int×Int):Array aA:=#[.agg #[ae af p.1,ae af p.2]]
theorem OA(w a):
  aB prog 121 #[.pointer a] w λe h=>e=aw (.func (.func 159) #[] #[pz w.heap.size])∧h=bC w (aq #[.pointer a] 161):=by
 go_enter func121,ntmps121
 go_wp2;go_ret;exact⟨rfl,rfl⟩
theorem acH(o:jS W t)(h:x∈es t):jS W x:=by
 unfold es at h;let⟨⟨y,d⟩,j,e⟩:=nY.1 h;unfold kV at e
 split at e
 .cases e
  exact(xt 0 o (dt _) _ j).1
 cases e
theorem VO(n)(hn:5<=n)(Bf){t}{w0}(V:bE w0 Bf 161 1 λ_=>ak (ah (az t.b t.o)))(ht:jS w0 t)(hN:bB (wk t 0)*16<=140737488355328):
  WN n prog KZ 335 159 #[pz Bf] abt (eqs t) w0:=by
 intro l J W U C hY h0;have L:1<=n:=bO
 have aa:Bf<W.heap.size:=cQ V.lt U.size;have ab:=(U.cell (p:=az Bf 0) V.lt).trans (V.cell (i:=0) bO);refine callsIn_of_wp_marks func159 rfl trivial ?_ rfl;simp only[ntmps159,fU,ed,dQ,Nat.reduceAdd,Nat.reduceSub,fP,fO,gr,fV,ff,eU]
 gi_wp2_with(first|(refine⟨trivial,?_⟩;gi_at_call 155;refine(gi.2 (vJ _ _)).mono ?_;rintro e w5 ⟨rfl,rfl⟩)|(gi_at_call 155;refine(gi.2 (vJ _ _)).mono ?_;rintro e w5 ⟨rfl,rfl⟩))
 have Z:(bC (bC W (aq #[.func (.yield l) #[] #[]] 241)) (aq #[ak (ah (az t.b t.o))] 161)).heap.size=W.heap.size+2:=bQ
 have Y:(bC W (aq #[.func (.yield l) #[] #[]] 241)).heap.size=W.heap.size+1:=bQ
 have one:∀(w:ay)(v:aA)(ty:aE),bE (bC w (aq #[v] ty)) w.heap.size ty 1 (λ_=>v):=λw v ty=>eO (ey w #[v] ty) (λj hj=>by grind)
 have y2:bE (bC (bC W (aq #[.func (.yield l) #[] #[]] 241)) (aq #[ak (ah (az t.b t.o))] 161)) W.heap.size 241 1 (λ_=>.func (.yield l) #[] #[]):=(one W _ _).of_block (dB _ _ _ bQ);have b2:bE (bC (bC W (aq #[.func (.yield l) #[] #[]] 241)) (aq #[ak (ah (az t.b t.o))] 161)) (W.heap.size+1) 161 1 (λ_=>ak (ah (az t.b t.o))):=Y▸one _ (ak (ah (az t.b t.o))) 161;have r:jS (bC (bC W (aq #[.func (.yield l) #[] #[]] 241)) (aq #[ak (ah (az t.b t.o))] 161)) t:=(ht.keep λk c fz _ hk=>(U.block k (bY.1 hk).1).trans hk).keep (((gG 0 W _).trans (gG 0 _ _)).yq _);have J2:J 0 (bC (bC W (aq #[.func (.yield l) #[] #[]] 241)) (aq #[ak (ah (az t.b t.o))] 161)):=C 0 _ _ h0 ((qy W _).trans (qy _ _));generalize bC (bC W (aq #[.func (.yield l) #[] #[]] 241)) (aq #[ak (ah (az t.b t.o))] 161)=w2 at Z y2 b2 r J2⊢;refine FD L (gf:=195) (lb:=#[ak (ah ⟨W.heap.size+1,0,ai⟩)]) rfl (enters_of func195 bV rfl) (CY (n-1) bO (W.heap.size+1) b2 r hN) (cW _ _) (λ_=>rfl)
  (λi o=>J (lZ isEq (es t) i) o∧jS o t∧bE o W.heap.size 241 1 (λ_=>.func (.yield l) #[] #[])∧W.heap.size<=o.heap.size)
  ?hI ?h0 (λx=>{tmps:=#[.func (.yield l) #[] #[],pz Bf,pz W.heap.size,ak (ah (az x.b x.o)),ak (ah (az t.b t.o)),.func (.func 195) #[] #[ak (ah ⟨W.heap.size+1,0,ai⟩)],ak (ah (az x.b x.o)),aF,aF,aF,aF,aF,aF,aF,aF,aF,aF,aF,aF,aF,aF],defers:=[]}) ?assign ?body ?done
 case hI=>rintro i A B ⟨u,y,z,F⟩ I;exact⟨C _ _ _ u (I.mono bO),y.keep (I.fG.yq _),I.rowIs bS z,bZ F I.size⟩
 case h0=>exact⟨J2,r,y2,by omega⟩
 case assign=>
  intro l2 x o K H;unfold VS
  gi_wp2
  exact H
 case body=>
  rintro l2 i x o hx ad ⟨u,y,z,F⟩;let⟨M,N⟩:=Wd (f:=isEq) hx;have s:=acH y (cH hx);have c0:=s.cells.c0;have c1:=s.cells.c1;have c2:=s.cells.c2;have cy:=z.cell (i:=0) bO;have ac:1<=n-1-1:=bO
  have X:Kr KZ w2.heap.size o o.drew:=⟨bT _,λ_ _ hh _=>hh⟩
  have G:Ow 335 W.heap.size o o.drew:=Se o 1;by_cases h0:x.op=0
  .let⟨P,S⟩:=M (x.x,x.y) (by simp[isEq,h0]);let⟨fn,tmps,assign,body,hy,hR⟩:=hY (lZ isEq (es t) i) (x.x,x.y) o.drew P (C _ _ _ u G);unfold abt at hy;rw[h0] at c0
   gi_wp2
   gi_region_with (refine(Ef hR).mono ?_;rintro e w6 ⟨rfl,T,E⟩)
   all_goals
    gi_wp2
    have q:Kr KZ W.heap.size o w6:=⟨E.size,E.same⟩
    exact⟨q.mono bO,S▸T,y.keep (q.fG.yq _),q.rowIs (cI (cI (cI (cI rfl)))) z,bZ F q.size⟩
  have dE:(x.op==0)=aL:=by simpa using h0
  gi_wp2
  gi_region_with (refine⟨λ_ h=>(by cases h),?_⟩)
  all_goals
   gi_wp2
   exact⟨X,(N (by simp[isEq,h0]))▸C _ _ _ u G,y.keep (G.fG.yq _),G.rowIs bS z,F⟩
 case done=>
  rintro D W3 hD ⟨u,y,z,F⟩ H
  gi_wp2
  refine⟨by simp,.inl ⟨_,_,rfl,run_takeDeferred H,?_⟩⟩;exact⟨_,vX rfl _ _ _,⟨_,rfl⟩,Gw isEq (es t)▸C _ _ _ u (pS _ bO H rfl)⟩
inductive Aj:Fo->Prop where
 |eq (x y:Int):Aj (.mk 0 x y [])
 |neg (f:Fo):Aj f->Aj (.mk 1 0 0 [f])
 |two (o:Int) (f g:Fo):(o=2∨o=3∨o=4)->Aj f->Aj g->Aj (.mk o 0 0 [f,g])
def Fo.op:Fo->Int| .mk op _ _ _=>op
def xj:Fo->Nat
 | .mk op _ _ kids=>if op=0 then 1 else 1+bB kids+(kids.map xj).sum
def oU:Fo->List (Int×Int)
 | .mk op x y kids=>if op=0 then[(x,y)] else(kids.map oU).flatten
theorem Lf.acI(t:Lf):t.er.op=t.op:=by cases t;simp[Lf.er,Fo.op,Lf.op]
theorem Lf.vI{op x y:Int}{ks:List Fo}(h:t.er=.mk op x y ks):t.op=op∧t.x=x∧t.y=y∧t.kids.map Lf.er=ks:=by
 cases t
 simp[Lf.er] at h;exact h
def xh:=@Lf.vI
theorem aaF(t n):∀d,n=bB t.ks-d->d<=bB t.ks->bB (wk t d)=1+(bB t.ks-d)+((t.ks.drop d).map λk=>bB (wk k 0)).sum:=by
 induction n with
 |zero=>grind[List.getElem?_eq_none,sX,List.drop_eq_nil_of_le]
 |succ n e=>grind[oz,List.getElem?_eq_getElem,List.length_cons,List.length_append,List.drop_eq_getElem_cons]
theorem Cr(t):bB (wk t 0)=xj t.er:=by
 have j:=aaF t (bB t.ks) 0 bO bO;rw[j];obtain⟨b,o,op,x,y,kv,kids⟩:=t;rw[Lf.er,xj];by_cases h:op=0
 .grind[Lf.ks,Lf.op]
 have e:(Lf.mk b o op x y kv kids).ks=kids:=by simp[Lf.ks,Lf.op,Lf.kids,h]
 rw[e,cC h,lT,kL,eG];have:(kids.map λk=>bB (wk k 0))=kids.map (xj ∘ Lf.er):=lh λk q=>Cr k;rw[this];omega
termination_by t
decreasing_by
 have:=DS q;simp;omega
theorem abp(t n):∀d,n=bB t.ks-d->d<=bB t.ks->((wk t d).filterMap kV).filterMap isEq=((t.ks.drop d).map λk=>((wk k 0).filterMap kV).filterMap isEq).flatten++(isEq t).toList:=by
 induction n with
 |zero=>grind[kV,isEq,List.getElem?_eq_none,sX,List.drop_eq_nil_of_le,List.filterMap_cons_some]
 |succ n q=>
  intro d o h;have e:d<bB t.ks:=bO
  have j:kV (t,d)=ai:=by simp[kV];omega
  grind[oz,List.getElem?_eq_getElem,List.filterMap_cons_none,List.drop_eq_getElem_cons,List.flatten_cons,List.append_assoc]
theorem Gn(t):eqs t=oU t.er:=by
 have j:=abp t (bB t.ks) 0 bO bO;unfold eqs es;rw[j];obtain⟨b,o,op,x,y,kv,kids⟩:=t;rw[Lf.er,oU];by_cases h:op=0
 .grind[Lf.ks,Lf.op,isEq,Lf.x,Lf.y]
 have e:(Lf.mk b o op x y kv kids).ks=kids:=by simp[Lf.ks,Lf.op,Lf.kids,h]
 have r:isEq (Lf.mk b o op x y kv kids)=ai:=by simp[isEq,Lf.op,h]
 rw[e,cC h,lT,kL,r];have:(kids.map λk=>((wk k 0).filterMap kV).filterMap isEq)=kids.map (oU ∘ Lf.er):=lh λk q=>Gn k;rw[this];simp
termination_by t
decreasing_by
 have:=DS q;simp;omega
theorem Oc{f:α->β}{xs:List α}{b:β}(h:xs.map f=[b]):∃a,xs=[a]∧f a=b:=aeA
theorem Ob{f:α->β}{xs:List α}{b c:β}(h:xs.map f=[b,c]):∃a e,xs=[a,e]∧f a=b∧f e=c:=by
 match xs,h with
 | [a,e],h=>grind
theorem aar(e:¬t.op=0)(h:t.kids=[k]):wk t 0=(t,0)::(wk k 0++[(t,1)]):=by grind[Lf.ks,oz,sX]
theorem aaq{a b:Lf}(e:¬t.op=0)(h:t.kids=[a,b]):wk t 0=(t,0)::(wk a 0++((t,1)::(wk b 0++[(t,2)]))):=by grind[Lf.ks,oz,sX]
attribute [local go_sem] ij
def lC(l:List (Int×Int)):List (Int×Int):=l.foldl (λacc p=>if p∈acc then acc else acc++[p]) []
theorem Kc(l:List (Int×Int))(p:Int×Int):lC (l++[p])=if p∈lC l then lC l else lC l++[p]:=by grind[lC]
theorem Ax{P:List α->Prop}(e:P [])(hs:∀l a,P l->P (l++[a]))(l:List α):P l:=by
 rw[<-List.reverse_reverse l]
 induction l.reverse with
 |nil=>exact e
 |cons a r h=>grind
variable{m l:List (Int×Int)}
theorem AJ:∀{p:Int×Int},p∈lC l↔p∈l:=by
 refine Ax (P:=λl=>∀{p:Int×Int},p∈lC l↔p∈l) ?_ ?_ l
 .simp[lC]
 grind[Kc]
theorem OL(l:List (Int×Int)):bB (lC l)<=bB l:=by
 refine Ax (P:=λl=>bB (lC l)<=bB l) ?_ ?_ l
 .simp[lC]
 grind[lC]
def oV(l:List (Int×Int)):List aA:=l.flatMap λp=>[ae af p.1,ae af p.2]
structure xd(w W:ay)(t:Lf)(v:aA)(l m:List (Int×Int)):Prop where
 below:aC w.heap.size w W
 here:jS W t
 box:bE W (w.heap.size+1) 109 1 (λ_=>v)
 Qd:bE W (w.heap.size+3) 113 1 (λ_=>.map (ah (w.heap.size+2)))
 lZ:oO W (w.heap.size+2) l
 row:bD W w.heap.size 34 2 v (bB m) (oV m)
theorem Ow.IJ(h:Ow 335 B W W'){k:Nat}(y:ty≠335)(o:bD W base ty size v k xs):bD W' base ty size v k xs:=by
 refine⟨o.1,?_⟩;obtain e|⟨g,cap,j,e,q,r,s⟩:=o.2
 .exact cB e
 exact cI ⟨g,cap,j,e,q,h.same g _ r (cI ⟨rfl,by rintro⟨A,z,u,e,C⟩;grind⟩),s⟩
theorem xd.ow(h:xd w W t v l m)(j:Ow 335 B W W')(y:w.heap.size+4<=B):xd w W' t v l m:=by
 refine⟨h.below.trans ⟨j.os,j.tape,j.output,j.size,λk z=>?_⟩,h.here.keep (j.fG.yq _),j.rowIs bS h.box,j.rowIs bS h.Qd,h.lZ.keep ?_,j.IJ bS h.row⟩
 .cases q:W.heap[k]? with
  |none=>have s:=abW.1 q;have u:=h.below.size;omega
  |some o=>exact j.same k o q (cB bO)
 let⟨es,r,e⟩:=h.lZ.lt;rw[e];exact j.same _ _ e (cB bO)
theorem xd.inc{u:List (Int×Int)}(h:xd w W t v l m)(j:dV (w.heap.size+2) W W')(C:oO W' (w.heap.size+2) u):xd w W' t v u m:=by
 let⟨es,D,e⟩:=h.lZ.lt;have nm:∀k,k<W.heap.size->k≠w.heap.size+2->W'.heap[k]?=W.heap[k]?:=λk q r=>j.block k q r;refine⟨h.below.trans ⟨j.os,j.tape,j.output,j.size,λk q=>nm k cG bO⟩,h.here.keep ?_,h.box.of_block (nm _ h.box.lt bO),h.Qd.of_block (nm _ h.Qd.lt bO),C,?_⟩
 .intro k c F _ q;grind
 refine⟨h.row.1,?_⟩;obtain E|⟨g,cap,o,y,z,s,A⟩:=h.row.2
 .grind
 refine cI ⟨g,cap,o,y,z,(nm g (bY.1 s).1 ?_).trans s,A⟩;grind
def QD:(prog.info? 34).map (λi=>(i.zero,i.size,i.bytes))=ah (ah (.agg #[iz 0,iz 0]),2,16):=bV
variable{O:Obj}
theorem xd.adO(h:xd w W t v l m)(j:bH (bC W O) w8 (aP v)):aU w8 ⟨w.heap.size+1,0,ai⟩=ah v∧bG w8 ⟨w.heap.size+1,0,ai⟩=aL:=by have q:aP v≠ah (w.heap.size+1):=dY h.box bS h.row;have o:bE w8 (w.heap.size+1) 109 1 (λ_=>v):=h.box.of_block ((j.block _ (by simp;have:=h.box.lt;omega) λe=>q e.symm).trans (dB W O _ h.box.lt));exact⟨o.cell (i:=0) bO,o.frozen 0⟩
theorem xd.push{J:ay}{v8:aA}{p:Int×Int}(h:xd w W t v l m)(G:J=bC W O)(I:bD w8 w.heap.size 34 2 v8 (bB m+1) (oV m++[iz p.1,iz p.2]))(q:bH J w8 (aP v)):
  xd w (aW w8 ⟨w.heap.size+1,0,ai⟩ v8) t v8 l (m++[p])∧(∀(k:Nat)(o:Obj),W.heap[k]?=ah o->(o.isCells=aL∨GQ (λt=>t≠34∧t≠109) o)->(aW w8 ⟨w.heap.size+1,0,ai⟩ v8).heap[k]?=ah o)∧W.heap.size<=(aW w8 ⟨w.heap.size+1,0,ai⟩ v8).heap.size:=by
 subst G;have F:aP v≠ah (w.heap.size+1):=dY h.box bS h.row;have L:bI (λk=>aP v=ah k∨k=w.heap.size+1) W w8:=gA ((bW _ W).alloc O) q λk e=>cB e;have D:bE w8 (w.heap.size+1) 109 1 (λ_=>v):=h.box.of_block ((q.block _ (by simp;have:=h.box.lt;omega) λe=>F e.symm).trans (dB W O _ h.box.lt));have H:aP v8≠ah (w.heap.size+1):=by grind[dY]
 have s:=L.setCell (p:=⟨w.heap.size+1,0,ai⟩) (cI rfl) v8;have E:∀k,aP v=ah k->w.heap.size<=k∧∃c,W.heap[k]?=ah (aR c 34 (0,0)):=λk r=>by
  obtain⟨e,_⟩|⟨g,cap,N,e,z,A,_⟩:=h.row.2
  .rw[e] at r;simp[aP] at r
  grind[aP]
 have nm:∀(k:Nat)(o:Obj),W.heap[k]?=ah o->(o.isCells=aL∨GQ (λt=>t≠34∧t≠109) o)->(aW w8 ⟨w.heap.size+1,0,ai⟩ v8).heap[k]?=ah o:=λk o r u=>by
  refine(s.block k (bY.1 r).1 ?_).trans r;rintro(e|e)
  .let⟨_,c,y⟩:=E k e;rw[r] at y;cases y
   obtain u|⟨M,ty,C,e,z,A⟩:=u
   .cases u
   grind
  let⟨c,y,_⟩:=h.box;rw[<-e,r] at y;cases y
  obtain u|⟨M,ty,C,e,z,A⟩:=u
  .cases u
  grind
 have z:oV (m++[p])=oV m++[iz p.1,iz p.2]:=by simp[oV]
 have A:bB (m++[p])=bB m+1:=bQ
 refine⟨⟨h.below.trans ⟨s.os,s.tape,s.output,s.size,λk r=>s.block k (by have:=h.below.size;omega) ?_⟩,h.here.keep (λk c C _ r=>nm k _ r (cI ⟨c,_,C,rfl,by decide,by decide⟩)),?_,?_,h.lZ.keep ?_,?_⟩,nm,s.size⟩
 .grind
 .exact eO (D.set 0 v8) (λj U=>by grind)
 .let⟨c,P,S⟩:=h.Qd;exact⟨c,nm _ _ P (cI ⟨c,_,_,rfl,by decide,by decide⟩),S⟩
 .let⟨es,T,e⟩:=h.lZ.lt;rw[e];exact nm _ _ e (cB rfl)
 grind[ownsRow_setCell_other]
attribute [local go_sem] ij
theorem Eb(P:Program)(W a)(m:Mode)(b):(store a (.map (ah b)) m).run P W=stored P W a (.map (ah b)) m:=run_store P W a _ m rfl
attribute [local go_sem] Eb
def Xl(w:ay)(op x y:Int)(kv:aA):ay:=
 bC (bC (bC (bC (bC w (aq #[ae af op,ae af x,ae af y,kv] 36)) (aq #[aj ai 0 0] 109)) (.map #[] 0)) (aq #[.map (ah (w.heap.size+1+1))] 113)) (aq #[ak (ah ⟨w.heap.size,0,ai⟩)] 161)
theorem BZ(w:ay)(v:aA)(ty:aE):bE (bC w (aq #[v] ty)) w.heap.size ty 1 (λ_=>v):=eO (ey w #[v] ty) λj e=>by grind
def tf(o)(h:bE w b ty n f):bE (bC w o) b ty n f:=h.of_block (dB w o b (dO h))
theorem abB(w op x y){kv}{kids}(e:nk kv kids)(o:∀k∈kids,jS w k):
  xd w (Xl w op x y kv) (.mk w.heap.size 0 op x y kv kids) (aj ai 0 0) [] []∧(Xl w op x y kv).rowIs (w.heap.size+4) 161 1 (λ_=>pz w.heap.size)∧(Xl w op x y kv).heap.size=w.heap.size+5:=by
 have r:(bC w (aq #[iz op,iz x,iz y,kv] 36)).heap.size=hz w+1:=bQ
 have s:(bC (bC w (aq #[iz op,iz x,iz y,kv] 36)) (aq #[aj ai 0 0] 109)).heap.size=hz w+2:=bQ
 have u:(bC (bC (bC w (aq #[iz op,iz x,iz y,kv] 36)) (aq #[aj ai 0 0] 109)) (.map #[] 0)).heap.size=hz w+3:=bQ
 have z:(bC (bC (bC (bC w (aq #[iz op,iz x,iz y,kv] 36)) (aq #[aj ai 0 0] 109)) (.map #[] 0)) (aq #[.map (ah (hz w+1+1))] 113)).heap.size=hz w+4:=bQ
 have A:bz w (Xl w op x y kv):=(((((cW _ w).alloc (bT _) _).alloc bQ _).alloc bX _).alloc bX _).alloc bX _;have K:iH (λk=>k<hz w) w (Xl w op x y kv):=λk _ _ q e=>(A.block k q).trans e;refine⟨⟨A,vW.mk trivial ?_ e λk j=>?_,?_,?_,?_,eR _ _ _ _⟩,?_,by simp[Xl]⟩
 .refine⟨#[iz op,iz x,iz y,kv],(0,0),?_,rfl,rfl,rfl,rfl,rfl⟩;grind[Xl,Below.heap_alloc,World.alloc_heap_new]
 .exact((o k j).lt.mono λ_ h=>h.2).keep K |>.mono λ_ _=>trivial
 .exact tf _ (tf _ (tf _ (r▸BZ _ (aj ai 0 0) 109)))
 .exact tf _ (u▸BZ _ (.map (ah (hz w+1+1))) 113)
 .have:=oO.new (bC (bC w (aq #[iz op,iz x,iz y,kv] 36)) (aq #[aj ai 0 0] 109));rw[s] at this;refine this.keep ?_;grind[Xl,Below.heap_alloc]
 exact z▸BZ _ (pz (hz w)) 161
theorem Wx(w op x y kv kids)(z:nk kv kids)(Y:∀k∈kids,jS w k)(hN:bB (wk (.mk w.heap.size 0 op x y kv kids) 0)*16<=140737488355328)(hR:∀p∈eqs (.mk w.heap.size 0 op x y kv kids),Hi p):
  aB prog 78 #[.agg #[iz op,iz x,iz y,kv]] w λe w'=>∃v,e=aw v∧bD w' w.heap.size 34 2 v (bB (lC (eqs (.mk w.heap.size 0 op x y kv kids)))) (oV (lC (eqs (.mk w.heap.size 0 op x y kv kids))))∧aC w.heap.size w w':=by
 let⟨S,b3,ad⟩:=abB w op x y z Y;obtain⟨t,ht⟩:=bK (Lf.mk w.heap.size 0 op x y kv kids);rw[<-ht] at S hN hR⊢;have L:(Xl w op x y kv).rowIs (w.heap.size+4) 161 1 (λ_=>ak (ah (az t.b t.o))):=by rw[ht];exact b3
 clear ht b3;obtain⟨ka,kc,rfl,ao⟩:=z;have a0:=@rA prog;refine(gi (n:=9)).1 ?_;refine callsIn_of_wp_marks func78 rfl trivial ?_ rfl;simp only[ntmps78,fU,ed,dQ,Nat.reduceAdd,Nat.reduceSub,fP,fO,gr,fV,ff,eU]
 gi_wp2_with(first|(refine⟨trivial,?_⟩;gi_at_call 121;refine(gi.2 (OA _ _)).mono ?_;rintro e w5 ⟨rfl,rfl⟩)|(gi_at_call 121;refine(gi.2 (OA _ _)).mono ?_;rintro e w5 ⟨rfl,rfl⟩))
 unfold Xl at S L ad;generalize(bC (bC (bC (bC (bC w (aR #[iz op,iz x,iz y,aj ka (bB kids) kc] 36)) (aR #[aj ai 0 0] 109)) (Obj.map #[] 0)) (aR #[.map (ah (w.heap.size+1+1))] 113)) (aR #[pz w.heap.size] 161))=w3 at S L ad⊢;rw[show w.heap.size+1+1+1+1=w.heap.size+4 from rfl,show w.heap.size+1+1+1=w.heap.size+3 from rfl,show w.heap.size+1+1=w.heap.size+2 from rfl];clear Y ao a0;refine Ye (by decide:1<=9) (gf:=159) (lb:=#[ak (ah ⟨w.heap.size+4,0,ai⟩)]) rfl (enters_of func159 bV rfl) (VO 8 bS (w.heap.size+4) L S.here hN) (cW _ _) (λ_=>rfl)
  (λi W=>∃v,xd w W t v ((eqs t).take i) (lC ((eqs t).take i)))
  ?hI ?h0 (λp s=>{tmps:=#[.agg #[iz op,iz x,iz y,aj ka (bB kids) kc],pz w.heap.size,aj ai 0 0,ak (ah ⟨w.heap.size+1,0,ai⟩),ak (ah ⟨w.heap.size+3,0,ai⟩),pz s,.map (ah (w.heap.size+2)),.func (.func 159) #[] #[ak (ah ⟨w.heap.size+4,0,ai⟩)],.agg #[iz p.1,iz p.2],aF,aF,aF,aF,aF,aF,aF,aF,aF,aF,aF,aF,aF,aF,aF],defers:=[]})
  (λp=>aq #[iz p.1,iz p.2] 34) (λp=>⟨rfl,by rintro⟨c,ty,fz,e,e'⟩;cases e;cases e'⟩) ?assign ?body ?done
 case hI=>rintro i A B ⟨v,h⟩ hO;exact⟨v,h.ow hO bO⟩
 case h0=>exact⟨_,S⟩
 case assign=>
  intro l2 p r K bo U;unfold abt
  gi_wp2
  exact U _ (qy _ _) (Kr.alloc _ _) (World.alloc_heap_new _ _)
 case body=>
  rintro l2 i s p r hx hs hc ⟨v,h⟩;have hp:Hi p:=hR p (cH hx);have ap:=(bU.1 hx).1;have bj:bB (eqs t)<=8796093022208:=by grind[eqs,es,wk,kV]
  have ac:(eqs t).take (i+1)=(eqs t).take i++[p]:=by rw[dJ,hx];rfl
  have a4:bB ((eqs t).take i)<8796093022208:=cG
  rw[ac];clear ac ap;generalize(eqs t).take i=l at h a4⊢;let⟨v0,st,Wa,G,X,J,hC,F,H⟩:=(oO.keep h.lZ rfl:oO r.drew (w.heap.size+2) l).inc hp bO;have V:=(oO.keep h.lZ rfl:oO r.drew (w.heap.size+2) l).look hp;have u:=hC.look hp;have bi:l.count p<=bB l:=List.count_le_length;have C:l.count p=0↔p∉lC l:=by rw[AJ,List.count_eq_zero]
  have I:(l++[p]).count p=l.count p+1:=cG
  rw[I] at u;simp only[nG,goInt] at X J V u H;have a7:IntKind.i64.wrap ((l.count p:Int)+1)=((l.count p+1:Nat):Int):=by grind[wrap_small]
  have c0:aU r (az s 0)=ah (iz p.1):=by simp[aU,hc]
  have c1:aU r (az s 1)=ah (iz p.2):=by simp[aU,hc]
  have c4:=h.Qd.cell (i:=0) bO;rw[show((l.count p+1:Nat):Int)=(l.count p:Int)+1 by omega] at J u a7;let⟨va,vc,hv⟩:=gU h.row;subst hv;have a3:=h.box.lt;have ab:s<r.heap.size:=(bY.1 hc).1;have nm:∀k,k<r.heap.size->k≠w.heap.size+2->G.heap[k]?=r.heap[k]?:=λk z a1=>F.block k z a1;have d0:aU G (az s 0)=ah (iz p.1):=(cL (nm s ab bO)).trans c0;have d1:aU G (az s 1)=ah (iz p.2):=(cL (nm s ab bO)).trans c1;have d4:aU G ⟨w.heap.size+3,0,ai⟩=ah (.map (ah (w.heap.size+2))):=(cL (nm (w.heap.size+3) h.Qd.lt bO)).trans c4;have d3:aU G ⟨w.heap.size+1,0,ai⟩=ah (.slice va (bB (lC l)) vc):=(cL (nm (w.heap.size+1) a3 bO)).trans (h.box.cell (i:=0) bO);have A0:xd w r.drew t (.slice va (bB (lC l)) vc) l (lC l):=h.ow (Se (B:=w.heap.size+4) r 1) bO;have E:xd w G t (.slice va (bB (lC l)) vc) (l++[p]) (lC l):=A0.inc F hC;have T:Kr KZ w3.heap.size r G:=⟨F.size,λk o z P=>(nm k (bY.1 z).1 (by
   rintro rfl;let⟨es,ck,e⟩:=h.lZ.lt;rw[e] at z;cases z
   obtain P|P:=P
   .omega
   have:=P.isCells;cases this)).trans z⟩
  have N:=bL (b9 E T);have bc:=OL l;have M:=Kc l p;have Z:=E.row;have be:=E.box.lt;generalize l.count p=c at *;clear I h F hC A0 E T hc nm hR hN;by_cases h0:c=0
  .have al:((c:Int)+1==1)=aK:=by simp[h0]
   rw[cC (C.1 h0)] at M;rw[M];let⟨i0,an,a8,a9,ba⟩:=eB QD;clear h0 M C
   gi_wp2
   refine kT bV (by rintro⟨_,_,N⟩;exact N) ?_;refine uV r ?_;go_region_law(first|(refine pI jY ?_));all_goals
    try simp only[aQ,cD,cw,ct,cf,cN,cK]
    clear X J H V
    gi_wp2_with(first|(gi_at_builtin;refine dM ?_))
    delta aH;refine wpListIn_append_own _ rfl _ _ 109 rfl w.heap.size 34 i0 _ 2 16 underlying109 an a8 a9 ba rfl bS _ _ _ rfl (Z.alloc _) (az _ 0) 1 1 [iz p.1,iz p.2] rfl rfl (EI G _ _ _) cM cJ bO bX ?_;intro v8 w8 q j _;let⟨E,K1⟩:=N.out;let⟨b8,f8⟩:=E.adO j;let⟨g8,bb,a6⟩:=ownsRow_succ q;let⟨P1,P2,P3⟩:=E.push rfl q j;subst a6;have hP:=bL (b9 P1 (b9 P2 P3));clear P1 P2 P3 E q j
    gi_wp2
    let⟨P1,P2,P3⟩:=hP.out;refine⟨K1.trans ⟨P3,λk o z P=>P2 k o z (P.imp (λx=>x.2) ?_)⟩,_,P1⟩;rintro⟨c,ty,fz,e,a5⟩;refine⟨c,ty,fz,e,?_⟩;obtain rfl|rfl|rfl|rfl|rfl:=a5<;>exact⟨by decide,by decide⟩
  have al:((c:Int)+1==1)=aL:=bX
  rw[cY cG] at M;rw[M];clear M C
  gi_wp2
  refine kT bV (by rintro⟨_,_,N⟩;exact N) ?_;refine uV r ?_;go_region_law(first|(refine pI jY ?_));all_goals
   try simp only[aQ,cD,cw,ct,cf,cN,cK]
   gi_wp2
   let⟨E,K1⟩:=N.out;exact⟨K1,_,E⟩
 case done=>
  rintro D W3 hD ⟨v,h⟩ U;rw[fI] at h;have c5:=h.box.cell (i:=0) bO;let⟨va,vc,hv⟩:=gU h.row;subst hv;have ag:=h.below;have a2:=h.row;clear h
  gi_wp2
  refine⟨by simp,.inl ⟨_,_,rfl,run_takeDeferred U,?_⟩⟩;have aa:=(pS (ty:=335) (B:=w.heap.size) (.deferred ai) bO U rfl).IJ bS a2;refine⟨_,GX rfl _ _ _,?_⟩;exact⟨_,rfl,aa,ag.trans (belowK_b (w:=w) (bT _) W3 D _ _ bO U rfl rfl)⟩
end
section
section
variable {β:Type}
def fo(g:Lf->List β->β)(t:Lf):β:=g t (t.ks.attach.map λk=>fo g k.1)
termination_by SizeOf.sizeOf t
decreasing_by exact Eu k.2
theorem aab(g:Lf->List β->β)(t:Lf):fo g t=g t (t.ks.map (fo g)):=by grind[fo,List.attach_map_val]
def VE(g:Lf->List β->β)(vs:List β)(x:Lf):List β:=vs.take (bB vs-bB x.ks)++[g x (vs.drop (bB vs-bB x.ks))]
def Ak(g:Lf->List β->β):List β->List Lf->Prop
 |_,[]=>True
 |vs,x::l=>bB x.ks<=bB vs∧Ak g (VE g vs x) l
theorem Ak.app{g:Lf->List β->β}:∀{vs:List β}{a e:List Lf},Ak g vs a->Ak g (a.foldl (VE g) vs) e->Ak g vs (a++e)
 |_,[],_,_,h=>h
 |_,_::_,_,d,i=>⟨d.1,Ak.app d.2 i⟩
theorem Ak.at{g:Lf->List β->β}:∀{vs:List β}{l:List Lf}{i:Nat}{x:Lf},Ak g vs l->l[i]?=ah x->bB x.ks<=bB ((l.take i).foldl (VE g) vs)
 |_,y::l,0,x,h,a=>by simp at a;subst a;exact h.1
 |vs,y::l,i+1,x,h,a=>by simp at a;simpa using Ak.at h.2 a
theorem Au(g:Lf->List β->β)(t:Lf)(d:Nat)(j:d<=bB t.ks)(vs:List β):
  ((wk t d).filterMap kV).foldl (VE g) (vs++(t.ks.take d).map (fo g))=vs++[fo g t]∧Ak g (vs++(t.ks.take d).map (fo g)) ((wk t d).filterMap kV):=by
 cases h:t.ks[d]? with
 |none=>
  have hl:d=bB t.ks:=cG
  have e:kV (t,d)=ah t:=by simp[kV,hl]
  have hz:bB (vs++(t.ks.take d).map (fo g))-bB t.ks=bB vs:=bX
  rw[sX h,kM e,List.filterMap_nil];refine⟨?_,?_,trivial⟩
  .grind[VE,List.take_left',List.drop_left',aab,List.take_length]
  .simp;omega
 |some k=>
  have a:=(bU.1 h).1;have e:kV (t,d)=ai:=by simp[kV];omega
  have l:=Au g k 0 (dt _) (vs++(t.ks.take d).map (fo g));have o:=Au g t (d+1) a vs;have i:vs++(t.ks.take d).map (fo g)++[fo g k]=vs++(t.ks.take (d+1)).map (fo g):=by rw[dJ,h];simp
  grind[oz,List.filterMap_cons_none,Ak.app]
termination_by (SizeOf.sizeOf t,bB t.ks-d)
decreasing_by
 .exact Ld _ _ (Eu (cH h))
 omega
def vq(g:Lf->List β->β)(t:Lf)(i:Nat):List β:=((es t).take i).foldl (VE g) []
variable{t x:Lf}
theorem xy{g:Lf->List β->β}{i:Nat}(h:(es t)[i]?=ah x):vq g t (i+1)=VE g (vq g t i) x∧bB x.ks<=bB (vq g t i):=by have F:=(Au g t 0 (dt _) []).2;refine⟨?_,Ak.at F h⟩;unfold vq;rw[dJ,h];simp
theorem XK(g:Lf->List β->β)(t:Lf):vq g t (bB (es t))=[fo g t]:=by have:=(Au g t 0 (dt _) []).1;grind[vq,es]
theorem Ze(g:Lf->List β->β)(vs:List β)(x:Lf):bB (VE g vs x)<=bB vs+1:=by simp[VE]
theorem Aw(g:Lf->List β->β)(t:Lf):∀i:Nat,bB (vq g t i)<=i
 |0=>by simp[vq]
 |i+1=>by
  cases h:(es t)[i]? with
  |none=>
   have:vq g t (i+1)=vq g t i:=by unfold vq;rw[dJ,h];simp
   rw[this];have:=Aw g t i;omega
  |some x=>rw[(xy h).1];have a:=Ze g (vq g t i) x;have d:=Aw g t i;omega
end
def Hd(t:Lf):Bool:=if t.op=0 then bB t.kids==0 else if t.op=1 then bB t.kids==1 else if t.op=2∨t.op=3∨t.op=4 then bB t.kids==2 else aL
theorem Cu{w}{t}(h:jS w t):
  aB prog 137 #[ak (ah (az t.b t.o))] w λe C=>e=aw (.bool (Hd t))∧C=w:=by
 have c0:=h.cells.c0;have c3:=h.cells.c3;let⟨a,A,s,_⟩:=h.tw;rw[s] at c3;generalize z:bB t.kids=n at *;have y:Hd t=(if t.op=0 then n==0 else if t.op=1 then n==1 else if t.op=2∨t.op=3∨t.op=4 then n==2 else aL):=by simp[Hd,z]
 generalize u:t.op=op at *;have d:Hid (Hd t=_):=y;have i:((n:Int)==0)=(n==0):=cG
 have j:((n:Int)==1)=(n==1):=cG
 have k:((n:Int)==2)=(n==2):=cG
 have g:Hid (_∧_∧_):=⟨i,j,k⟩
 clear i j k;clear y u z;go_enter func137,ntmps137;by_cases l:op=0
 .subst l
  go_wp2;go_ret;refine⟨fr ?_,rfl⟩;rw[d.out,g.out.1];simp
 have D:(op==0)=aL:=by simpa using l
 by_cases o:op=1
 .subst o
  go_wp2;go_ret;refine⟨fr ?_,rfl⟩;rw[d.out,g.out.2.1];simp
 have E:(op==1)=aL:=by simpa using o
 by_cases p:op=2
 .subst p
  go_wp2;go_ret;refine⟨fr ?_,rfl⟩;rw[d.out,g.out.2.2];simp
 have F:(op==2)=aL:=by simpa using p
 by_cases q:op=3
 .subst q
  go_wp2;go_ret;refine⟨fr ?_,rfl⟩;rw[d.out,g.out.2.2];simp
 have G:(op==3)=aL:=by simpa using q
 by_cases r:op=4
 .subst r
  go_wp2;go_ret;refine⟨fr ?_,rfl⟩;rw[d.out,g.out.2.2];simp
 have H:(op==4)=aL:=by simpa using r
 go_wp2;go_ret;refine⟨?_,rfl⟩;rw[d.out];simp[l,o,p,q,r]
structure Cls(W:ay)(bb cb:Nat)(ca:Option aD)(cn cc:Nat)(cls:List Int):Prop where
 bnd:bE W bb 105 1 (λ_=>.int .u64 cn)
 cbx:bE W cb 39 1 (λ_=>aj ca cn cc)
 len:bB cls=cn
 cells:cls=[]∨∃g off,ca=ah ⟨g,off,ai⟩∧∀(j:Nat)(c:Int),cls[j]?=ah c->aU W ⟨g,off+j,ai⟩=ah (ae af c)
 small:cn<=9223372036854775807
variable{n B base c m b:Nat}
theorem ab8{a:Int}(h:n<=9223372036854775807)(d:La a):decide (IntKind.u64.wrap a<(n:Int))=My n a:=by unfold My;obtain⟨e,g⟩:=d;rw[pX,decide_eq_decide];omega
theorem XX(w u y A d C cls)(h:Cls w u y A d C cls){a b}(E:La a)(F:La b):
  aB prog 134 #[.agg #[iz a,iz b],pz u,pz y] w λe N=>e=aw (.bool (zD cls a b))∧dG w N:=by
 have c0:=h.bnd.cell (i:=0) bO;have c1:=h.cbx.cell (i:=0) bO;have z0:=h.bnd.lt;have S:=h.cbx.lt;have z:=ab8 h.small E;have ub:=ab8 h.small F;have hl:=h.len;have r:∀m,dG w (bF (bC w (aq #[iz a,iz b] 34)) m):=λm=>((bW _ w).alloc _).drewN m;have o:Hid (zD cls a b=(My d a&&My d b&&(cls[a.toNat]?.getD 0==cls[b.toNat]?.getD 0))):=by show _=_;rw[<-hl];rfl
 go_enter func134,ntmps134;cases k:My d a with
 |false=>
  rw[k] at z o
  go_wp2;go_quiet(fail)
  go_wp2;go_ret;exact⟨fr (by rw[o.out];rfl),r _⟩
 |true=>
  rw[k] at z o;cases l:My d b with
  |false=>
   rw[l] at ub o
   go_wp2;go_quiet(fail)
   go_wp2;go_ret;exact⟨fr (by rw[o.out];rfl),r _⟩
  |true=>
   rw[l] at ub o;have J:=ft k;have L:=ft l;obtain⟨i,rfl⟩:∃i:Nat,a=(i:Int):=⟨a.toNat,by omega⟩
   obtain⟨j,rfl⟩:∃j:Nat,b=(j:Int):=⟨b.toNat,by omega⟩
   have s:i<bB cls:=bO
   have H:j<bB cls:=bO
   obtain p|⟨g,M,rfl,p⟩:=h.cells
   .rw[p] at s;simp at s
   have D:=p i _ (bP s);have R:=p j _ (bP H);have T:g<hz w:=cV w _ D;have G:(i:Int)<d:=J.2;have I:(j:Int)<d:=L.2;have q:Hid (zD cls i j=(cls[i]==cls[j])):=cG
   generalize cls[i]=P at *;generalize cls[j]=Q at *
   go_wp2;go_quiet(fail)
   go_wp2;go_ret;exact⟨fr (by rw[q.out]),r _⟩
attribute [local go_sem] ij
def A5(W:ay)(sv:aA)(args:List Bool):Prop:=
 ∃a cap,sv=aj a (bB args) cap∧(args=[]∨∃g off,a=ah ⟨g,off,ai⟩∧∀(j:Nat)(b:Bool),args[j]?=ah b->aU W ⟨g,off+j,ai⟩=ah (.bool b))
def rX(l:List Bool):List aA:=l.map λb=>Value.bool b
def Vn:(prog.info? 4).map (λi=>(i.zero,i.size,i.bytes))=ah (ah (.bool aL),1,1):=bV
variable{W W' w w7 w8:ay}{t x:Lf}
theorem AU(g:jS W t)(h:x∈es t):jS W x:=by
 unfold es at h;let⟨⟨y,d⟩,e,a⟩:=nY.1 h;unfold kV at a
 split at a
 .cases a
  exact(xt 0 g (dt _) _ e).1
 cases a
structure yl(w W:ay)(t:Lf)(fv v:aA)(vs:List Bool):Prop where
 below:aC w.heap.size w W
 here:jS W t
 fn:bE W w.heap.size 244 1 (λ_=>fv)
 box:bE W (w.heap.size+1) 120 1 (λ_=>v)
 row:bD W w.heap.size 4 1 v (bB vs) (rX vs)
variable{ty:aE}{v fv:aA}{xs:List aA}
theorem Ow.ownsRow(h:Ow 335 B W W'){size k:Nat}(i:ty≠335)(j:bD W base ty size v k xs):bD W' base ty size v k xs:=by
 refine⟨j.1,?_⟩;obtain e|⟨g,a,d,e,o,p,q⟩:=j.2
 .exact cB e
 exact cI ⟨g,a,d,e,o,h.same g _ p (cI ⟨rfl,by rintro⟨u,s,r,e,l⟩;cases e;exact i l⟩),q⟩
variable{vs:List Bool}
theorem yl.ow(h:yl w W t fv v vs)(a:Ow 335 B W W')(i:w.heap.size<=B):yl w W' t fv v vs:=
 ⟨h.below.trans ⟨a.os,a.tape,a.output,a.size,λk j=>by
   cases d:W.heap[k]? with
   |none=>have e:=abW.1 d;have g:=h.below.size;omega
   |some o=>exact a.same k o d (cB bO)⟩,h.here.keep (a.fG.yq _),a.rowIs bS h.fn,a.rowIs bS h.box,a.ownsRow bS h.row⟩
theorem tj{e:aE}{a:Option aD}(h:bD W base e 1 (aj a n c) n xs)(s:m<=n):bD W base e 1 (aj a m c) m (xs.take m):=by
 refine⟨by rw[fB,h.1];omega,?_⟩;obtain⟨i,j⟩|⟨g,k,d,i,j,l,q,o,p,r⟩:=h.2
 .grind
 simp only[fL,mC] at i;obtain⟨rfl,rfl⟩:=i;refine cI ⟨g,c,d,rfl,j,l,by omega,o,p,?_⟩;grind
theorem GK{g:Nat}(h:bD W base 4 1 (aj (ah (az g 0)) n c) n (rX vs))(i:n=bB vs)(d):A5 W (aj (ah (az g m)) (n-m) d) (vs.drop m):=by refine⟨_,d,by rw[tH,i],cI ⟨g,m,rfl,λj b a=>?_⟩⟩;rw[lS] at a;have e:=(bU.1 a).1;have:=h.cellAt (m+j) bO;rw[this];simp[rX,a]
theorem wrapped(h:m<=8796093022208):IntKind.i64.wrap (m:Int)=m:=by exact wrap_small _ bO bO
variable{O:Obj}
theorem J9{d:Nat}(j:cz w7 b 0 v)(k:bG w7 (az b 0)=aL)(g:b<w7.heap.size)(a:d≠b)(h:bH (bC w7 O) w8 (ah d)):cz w8 b 0 v∧bG w8 (az b 0)=aL:=by have i:w8.heap[b]?=w7.heap[b]?:=(h.block b bX (by simpa using λe=>a e.symm)).trans (dB w7 O b g);grind[World.cell?_of_block,World.frozen?_of_block]
theorem yl.put{u:aA}{i:List Bool}(h:yl w W t fv v vs)(K:bI (λk=>aP v=ah k∨k=w.heap.size+1) W W')(E:bE W' (w.heap.size+1) 120 1 λ_=>u)(F:bD W' w.heap.size 4 1 u (bB i) (rX i))(B):
  yl w W' t fv u i∧Kr KZ B W W':=by
 have r:∀k,aP v=ah k->hz w<=k∧∃c,W.heap[k]?=ah (aR c 4 (0,0)):=λk a=>by
  obtain⟨e,_⟩|⟨g,z,A,e,p,q,_⟩:=h.row.2
  .rw[e] at a;simp[aP] at a
  grind[aP]
 have nm:∀(k:Nat)(o:Obj),W.heap[k]?=ah o->(o.isCells=aL∨GQ (λt=>t≠4∧t≠120) o)->W'.heap[k]?=ah o:=λk o a d=>by
  refine(K.block k (bY.1 a).1 ?_).trans a;rintro(e|e)
  .let⟨_,c,l⟩:=r k e;rw[a] at l;cases l
   obtain d|⟨y,ty,j,e,p,q⟩:=d
   .cases d
   cases e;exact p rfl
  let⟨c,l,_⟩:=h.box;rw[<-e,a] at l;cases l
  obtain d|⟨y,ty,j,e,p,q⟩:=d
  .cases d
  cases e;exact q rfl
 refine⟨⟨?_,?_,?_,E,F⟩,⟨K.size,λk o a d=>nm k o a (d.imp (λx=>x.2) ?_)⟩⟩
 .refine h.below.trans ⟨K.os,K.tape,K.output,K.size,λk a=>K.block k (by have:=h.below.size;omega) ?_⟩;grind
 .exact h.here.keep (λk c j _ a=>nm k _ a (cI ⟨c,_,j,rfl,by decide,by decide⟩))
 .let⟨c,C,D⟩:=h.fn;exact⟨c,nm _ _ C (cI ⟨c,_,_,rfl,by decide,by decide⟩),D⟩
 rintro⟨c,ty,j,e,s⟩;refine⟨c,ty,j,e,?_⟩;obtain rfl|rfl|rfl|rfl|rfl:=s<;>exact⟨by decide,by decide⟩
theorem EJ(g:cz w7 b 0 v)(h:bG w7 (az b 0)=aL)(a:b<w7.heap.size)(d:bH (bC w7 O) w8 ai):cz w8 b 0 v∧bG w8 (az b 0)=aL:=by have e:w8.heap[b]?=w7.heap[b]?:=(d.block b bX bQ).trans (dB w7 O b a);grind[World.cell?_of_block,World.frozen?_of_block]
theorem yl.push{v8:aA}{g:Bool}(h:yl w W t fv v vs)(q:dG W w7)(A:m<=bB vs)(l:bD w8 w.heap.size 4 1 v8 (m+1) ((rX vs).take m++[.bool g]))(a:bH (bC w7 O) w8 (aP v))(B):
  yl w (aW w8 ⟨w.heap.size+1,0,ai⟩ v8) t fv v8 (vs.take m++[g])∧Kr KZ B W (aW w8 ⟨w.heap.size+1,0,ai⟩ v8):=by
 have o:aP v≠ah (w.heap.size+1):=dY h.box bS h.row;have s:bI (λk=>aP v=ah k∨k=w.heap.size+1) W w8:=gA ((dW q λ_ _ e=>e.elim).alloc O) a λk e=>cB e;have i:bE w8 (w.heap.size+1) 120 1 (λ_=>v):=by have d:=h.box.of_block (q.block _ h.box.lt λe=>e);exact d.of_block ((a.block _ (by simp;have:=d.lt;omega) λe=>o e.symm).trans (dB w7 O _ d.lt))
 have r:aP v8≠ah (w.heap.size+1):=dY i bS l;have u:rX (vs.take m++[g])=(rX vs).take m++[.bool g]:=by simp[rX,zn]
 have y:bB (vs.take m++[g])=m+1:=bX
 refine h.put (s.setCell (p:=⟨w.heap.size+1,0,ai⟩) (cI rfl) v8) ?_ ?_ B
 .exact eO (i.set 0 v8) (λj z=>by
   have:j=0:=bO
   subst this;simp)
 grind[ownsRow_setCell_other]
theorem Zd(w t z)(g:Lf->List Bool->Bool)(ht:jS w t)(hN:bB (wk t 0)*16<=140737488355328)(hV:∀W x args sv,x∈es t->aC w.heap.size w W->jS W x->A5 W sv args->bB args=bB x.ks->aB prog 136 #[ak (ah (az x.b x.o)),sv,pz z] W λe I=>e=aw (.bool (g x args))∧dG W I):
  aB prog 135 #[ak (ah (az t.b t.o)),.func (.func 136) #[] #[pz z]] w λe I=>e=aw (.bool (fo g t))∧aC w.heap.size w I:=by
 refine(gi (n:=9)).1 ?_;refine callsIn_of_wp_marks func135 rfl trivial ?_ rfl;simp only[ntmps135,fU,ed,dQ,Nat.reduceAdd,Nat.reduceSub,fP,fO,gr,fV,ff,eU]
 gi_wp2_with(first|(refine⟨trivial,?_⟩;gi_at_call 155;refine(gi.2 (vJ _ _)).mono ?_;rintro e w5 ⟨rfl,rfl⟩)|(gi_at_call 155;refine(gi.2 (vJ _ _)).mono ?_;rintro e w5 ⟨rfl,rfl⟩))
 have one:∀(w:ay)(v:aA)(ty:aE),bE (bC w (aq #[v] ty)) w.heap.size ty 1 (λ_=>v):=λw v ty=>eO (ey w #[v] ty) (λj hj=>by grind)
 have keep:∀{w:ay}{b n:Nat}{f:Nat->aA}{ty:aE}(o:Obj),bE w b ty n f->bE (bC w o) b ty n f:=λ{w b n f ty} o h=>h.of_block ((dD (bW (λ_=>False) w) o).block b (dO h) λe=>e);have F:(bC w (aq #[.func (.func 136) #[] #[pz z]] 244)).heap.size=w.heap.size+1:=bQ
 have G:(bC (bC w (aq #[.func (.func 136) #[] #[pz z]] 244)) (aq #[aj ai 0 0] 120)).heap.size=w.heap.size+2:=bQ
 have F3:yl w (bC (bC (bC w (aq #[.func (.func 136) #[] #[pz z]] 244)) (aq #[aj ai 0 0] 120)) (aq #[ak (ah (az t.b t.o))] 161)) t (.func (.func 136) #[] #[pz z]) (aj ai 0 0) []:=
  ⟨(((cW _ w).alloc (bT _) _).alloc bQ _).alloc bX _,ht.keep ((((gG 0 w _).trans (gG 0 _ _)).trans (gG 0 _ _)).yq _),keep _ (keep _ (one w _ _)),keep _ (F▸one _ (aj ai 0 0) 120),eR _ _ _ _⟩
 have b3:bE (bC (bC (bC w (aq #[.func (.func 136) #[] #[pz z]] 244)) (aq #[aj ai 0 0] 120)) (aq #[ak (ah (az t.b t.o))] 161)) (w.heap.size+2) 161 1 (λ_=>ak (ah (az t.b t.o))):=G▸one _ (ak (ah (az t.b t.o))) 161;have a4:(bC (bC (bC w (aq #[.func (.func 136) #[] #[pz z]] 244)) (aq #[aj ai 0 0] 120)) (aq #[ak (ah (az t.b t.o))] 161)).heap.size=w.heap.size+3:=bQ
 rw[show w.heap.size+1+1=w.heap.size+2 from rfl];generalize(bC (bC (bC w (aq #[.func (.func 136) #[] #[pz z]] 244)) (aq #[aj ai 0 0] 120)) (aq #[ak (ah (az t.b t.o))] 161))=w3 at F3 b3 a4⊢;clear one keep F G;refine FD (by decide:1<=9) (gf:=195) (lb:=#[ak (ah ⟨w.heap.size+2,0,ai⟩)]) rfl (enters_of func195 bV rfl) (CY 8 bS (w.heap.size+2) b3 F3.here hN) (cW _ _) (λ_=>rfl)
  (λi W=>∃v,yl w W t (.func (.func 136) #[] #[pz z]) v (vq g t i))
  ?hI ?h0 (λx=>{tmps:=#[ak (ah (az t.b t.o)),.func (.func 136) #[] #[pz z],aF,pz w.heap.size,.bool aL,ak (ah ⟨w.heap.size+1,0,ai⟩),ak (ah (az x.b x.o)),aF,ak (ah (az t.b t.o)),.func (.func 195) #[] #[ak (ah ⟨w.heap.size+2,0,ai⟩)],ak (ah (az x.b x.o)),aF,aF,aF,aF,aF,aF,aF,aF,aF,aF,aF,aF,aF,aF,aF,aF,aF,aF,aF,aF],defers:=[]}) ?assign ?body ?done
 case hI=>rintro i A B ⟨v,h⟩ hO;exact⟨v,h.ow hO bO⟩
 case h0=>exact⟨_,F3⟩
 case assign=>
  intro l2 x C K hK;unfold VS
  gi_wp2
  exact hK
 case body=>
  rintro l2 i x C hx be ⟨v,h⟩;let⟨an,ao⟩:=xy (g:=g) hx;have a5:=Aw g t i;have X:=cH hx;have V:=AU h.here X;let⟨ka,kc,a1⟩:=vG V;have KD:∀m,aB prog 156 #[ak (ah (az x.b x.o))] (bF C m) λe I=>e=aw (aj ka (bB x.ks) kc)∧I=bF C m:=λm=>by have:=AK (bF C m) (V.keep (show iH _ C (bF C m) from λk c fz _ hk=>hk));grind
  let⟨va,L,N⟩:=gU h.row;subst N;have c5:=h.box.cell (i:=0) bO;have a7:i<=8796093022208:=by grind[kV,wk,es]
  gi_wp2
  refine kT bV (by rintro⟨_,_,R⟩;exact R) ?_;refine uV C ?_;go_region_law(first|(refine pI jY ?_)|(go_simp;go_at_call 156;refine(KD 1).mono ?_;rintro e w5 ⟨rfl,rfl⟩));all_goals
   simp only[aQ,cD,cw,ct,cf,cN,cK]
   gi_wp2
   have l:yl w (bF C 1) t _ _ _:=h.ow (Se C 1) (bT _);have s:Kr KZ w3.heap.size C (bF C 1):=⟨bT _,λ_ _ R _=>R⟩
   clear c5 KD;generalize bF C 1=r at l s⊢;obtain⟨m,hm⟩:∃m,bB (vq g t i)=m+bB x.ks:=⟨bB (vq g t i)-bB x.ks,by omega⟩
   have ad:IntKind.i64.wrap ((bB (vq g t i):Int)-(bB x.ks:Int))=(m:Int):=by grind[wrapped]
   simp only[ad];clear ad;have p:bB ((vq g t i).drop m)=bB x.ks:=cG
   have q:Hid (vq g t (i+1)=(vq g t i).take m++[g x ((vq g t i).drop m)]):=by show _=_;grind[VE]
   have y:jS r x:=AU l.here (cH hx);have c5:=l.box.cell (i:=0) bO;have c3:=l.fn.cell (i:=0) bO;let⟨i0,ab,ag,F,G⟩:=eB Vn;obtain⟨N,bc⟩|⟨M,Z,a6,N,_⟩:=l.row.2
   .have T:va=ai∧bB (vq g t i)=0∧L=0:=by simpa using N
    obtain⟨rfl,ac,rfl⟩:=T;obtain rfl:m=0:=bO
    have a0:bB x.ks=0:=bO
    have Q:(vq g t i).drop 0=[]:=cG
    have Y:∀H,aB prog 136 #[ak (ah (az x.b x.o)),aj ai 0 0,pz z] (bF r H) λe I=>e=aw (.bool (g x ((vq g t i).drop 0)))∧dG r I:=λH=>(hV (bF r H) x _ _ X (l.below.trans ⟨rfl,rfl,rfl,bT _,λ_ _=>rfl⟩) (y.keep (show iH _ r (bF r H) from λ_ _ _ _ hk=>hk)) ⟨ai,0,by rw[Q];rfl,cB Q⟩ p).mono (by rintro e I ⟨h3,h4⟩;exact⟨h3,((bW _ r).drewN H).trans h4⟩)
    have E:∀w7,dG r w7->bD w7 w.heap.size 4 1 (aj ai 0 0) 0 ((rX (vq g t i)).take 0)∧aU w7 ⟨w.heap.size+1,0,ai⟩=ah (aj ai 0 0)∧bG w7 ⟨w.heap.size+1,0,ai⟩=aL∧w.heap.size+1<w7.heap.size:=λw7 J=>by have u:=l.box.of_block (J.block _ l.box.lt λe=>e);refine⟨by rw[sr];exact eR _ _ _ _,?_,u.frozen 0,u.lt⟩;have:=u.cell (i:=0) bO;grind
    rw[ac] at c5;have HH:Hid (_∧_):=⟨l,s⟩
    clear h l y hV F3 b3 N a1 V an ao s Q p;simp only[ac,a0];refine kT bV (by rintro⟨_,_,R⟩;exact R) ?_;refine uV r ?_;generalize hG:g x ((vq g t i).drop 0)=gv at Y q;go_region_law(first|(refine pI jY ?_)|(refine fe rfl (.tmp 19) (.tmp 26) 120 rfl w.heap.size 4 i0 _ 1 1 underlying120 ab ag F G rfl bS (aj ai 0 0) 0 ((rX (vq g t i)).take 0) iC (by exact P.alloc _) (az w7.heap.size 0) 1 1 [.bool gv] iC rfl (cell_one_new _ _ _) cM cJ bO bX ?_;intro v8 w8 d a S;let⟨g8,aa,U⟩:=ownsRow_succ d;subst U;let⟨b8,f8⟩:=EJ b7 f7 z7 a)|(go_simp;go_at_call 136;refine(Y 1).mono ?_;rintro e w7 ⟨rfl,J⟩;let⟨P,b7,f7,z7⟩:=E w7 J));all_goals
     try simp only[aQ,cD,cw,ct,cf,cN,cK]
     gi_wp2
     let⟨l,s⟩:=HH.out;let⟨F',K'⟩:=yl.push l J bO d a w3.heap.size;exact⟨s.trans K',_,q.out▸F'⟩
   have T:va=ah (az M 0)∧L=Z:=by simpa using N
   obtain⟨rfl,rfl⟩:=T;obtain⟨so,a2⟩:∃so:Option aD,(if L=m then ah (az M 0) else ah (az M m))=so:=⟨_,rfl⟩
   have BA:∀cc,A5 r (aj so (bB x.ks) cc) ((vq g t i).drop m):=λcc=>by
    by_cases a3:L=m
    .have h0:bB x.ks=0:=bO
     have h1:(vq g t i).drop m=[]:=eE (by rw[p,h0]);exact⟨so,cc,by rw[h1,h0];rfl,cB h1⟩
    rw[cC a3] at a2;have:=GK (m:=m) l.row rfl cc;grind
   have Y:∀H,aB prog 136 #[ak (ah (az x.b x.o)),aj so (bB x.ks) (L-m),pz z] (bF r H) λe I=>e=aw (.bool (g x ((vq g t i).drop m)))∧dG r I:=λH=>(hV (bF r H) x _ _ X (l.below.trans ⟨rfl,rfl,rfl,bT _,λ_ _=>rfl⟩) (y.keep (show iH _ r (bF r H) from λ_ _ _ _ hk=>hk)) (BA (L-m)) p).mono (by rintro e I ⟨h3,h4⟩;exact⟨h3,((bW _ r).drewN H).trans h4⟩)
   have E:∀w7,dG r w7->bD w7 w.heap.size 4 1 (aj (ah (az M 0)) m L) m ((rX (vq g t i)).take m)∧aU w7 ⟨w.heap.size+1,0,ai⟩=ah (aj (ah (az M 0)) (m+bB x.ks) L)∧bG w7 ⟨w.heap.size+1,0,ai⟩=aL∧w.heap.size+1<w7.heap.size:=λw7 J=>by have u:=l.box.of_block (J.block _ l.box.lt λe=>e);refine⟨tj (l.row.kept J.grownBy (j8 _)) bO,?_,u.frozen 0,u.lt⟩;have:=u.cell (i:=0) bO;grind
   rw[hm] at c5;have HH:Hid (_∧_∧_∧_):=⟨l,s,y,BA⟩
   have ap:M≠w.heap.size+1:=λe=>dY l.box bS l.row (by simp[aP,e]);have ba:m<=8796093022208:=bO
   have bb:m<=L:=bO
   have a9:m+bB x.ks-m=bB x.ks:=bO
   have a8:(m:Int)<=m+(bB x.ks:Int):=bO
   refine kT bV (by rintro⟨_,_,R⟩;exact R) ?_;refine uV r ?_;generalize hG:g x ((vq g t i).drop m)=gv at Y q;go_region_law(first|(refine pI jY ?_)|(refine fe rfl (.tmp 19) (.tmp 26) 120 rfl w.heap.size 4 i0 _ 1 1 underlying120 ab ag F G rfl bS (aj (ah (az M 0)) m L) m ((rX (vq g t i)).take m) iC (by exact P.alloc _) (az w7.heap.size 0) 1 1 [.bool gv] iC rfl (cell_one_new _ _ _) cM cJ bO bX ?_;intro v8 w8 d a S;let⟨g8,aa,U⟩:=ownsRow_succ d;subst U;let⟨b8,f8⟩:=J9 b7 f7 z7 ap a)|(go_simp;go_at_call 136;refine(Y 1).mono ?_;rintro e w7 ⟨rfl,J⟩;let⟨P,b7,f7,z7⟩:=E w7 J));all_goals
    try simp only[aQ,cD,cw,ct,cf,cN,cK]
    gi_wp2
    let⟨l,s,_,_⟩:=HH.out;let⟨F',K'⟩:=yl.push l J bO d a w3.heap.size;exact⟨s.trans K',_,q.out▸F'⟩
 case done=>
  rintro D W3 hD ⟨v,h⟩ hK;rw[XK] at h;let⟨M,Z,N⟩:=ownsRow_succ (xs:=rX [fo g t]) h.row;subst N;have c5:=h.box.cell (i:=0) bO;have c6:cz W3 M 0 (.bool (fo g t)):=by have:=h.row.cellAt 0 bQ;simpa[rX] using this
  have al:=h.below
  gi_wp2
  refine⟨by simp,.inl ⟨_,_,rfl,run_takeDeferred hK,?_⟩⟩;exact⟨_,GX rfl _ _ _,rfl,al.trans (belowK_b (w:=w) (bT _) W3 D _ _ bO hK rfl rfl)⟩
theorem Lu{l:List Bool}(h:bB l=2):∃p q,l=[p,q]:=by
 match l,h with
 | [p,q],_=>exact⟨p,q,rfl⟩
def Zg(cls:List Int)(t:Lf)(args:List Bool):Bool:=
 if Hd t=aL then aL
 else if t.op=1 then !(args[0]?.getD aL)
 else if t.op=2 then args[0]?.getD aL&&args[1]?.getD aL
 else if t.op=3 then args[0]?.getD aL||args[1]?.getD aL
 else if t.op=4 then !(args[0]?.getD aL)||args[1]?.getD aL
 else zD cls t.x t.y
theorem VK{w}(Z F G){S}{U T}{cls}(hs:bE w Z 241 1 λ_=>.func (.func 134) #[] #[pz F,pz G])(h:Cls w F G S U T cls){t}(M:jS w t)(hx:La t.x)(hy:La t.y){sv}{args}(hA:A5 w sv args)(hl:bB args=bB t.ks):
  aB prog 136 #[ak (ah (az t.b t.o)),sv,pz Z] w λe R=>e=aw (.bool (Zg cls t args))∧dG w R:=by
 have l:=Cu M;have c0:=M.cells.c0;have cx:=M.cells.c1;have cy:=M.cells.c2;have cs:=hs.cell (i:=0) bO;have SM:∀m,aB prog 134 #[.agg #[iz t.x,iz t.y],pz F,pz G] (bF w m) λe R=>e=aw (.bool (zD cls t.x t.y))∧dG w R:=λm=>(XX (bF w m) F G S U T cls ⟨h.bnd,h.cbx,h.len,h.cells,h.small⟩ hx hy).mono λ_ _ Y=>⟨Y.1,((bW _ w).drewN m).trans Y.2⟩;obtain⟨sa,aa,rfl,Q⟩:=hA;have z:dG w w:=bW _ w;have KN:∀m,dG w (bF w m):=λm=>(bW _ w).drewN m;have o:Hid (Zg cls t args=_):=Zg.eq_1 cls t args;go_enter func136,ntmps136;cases y:Hd t with
 |false=>
  rw[y] at l o
  go_wp2_with(go_at_call 137;refine l.mono ?_;rintro e E ⟨rfl,rfl⟩);go_ret;exact⟨fr (by rw[o.out];simp),z⟩
 |true=>
  rw[y] at l o;have fS:∀(j:Nat)(b:Bool),args[j]?=ah b->∃g a,sa=ah (az g a)∧aU w ⟨g,a+j,ai⟩=ah (.bool b):=λj b hj=>by grind
  have k:t.op≠0->bB args=bB t.kids:=λh0=>by rw[hl];simp[Lf.ks,h0]
  by_cases H:t.op=1
  .have ab:bB t.kids=1:=by simpa[Hd,H] using y
   have r:=k bO;obtain⟨p,rfl⟩:∃p,args=[p]:=List.length_eq_one_iff.1 bO;obtain⟨g,a,rfl,s⟩:=fS 0 p rfl;rw[H] at c0;have u:cz w g a (.bool p):=s
   go_wp2_with(go_at_call 137;refine l.mono ?_;rintro e E ⟨rfl,rfl⟩);go_ret;exact⟨fr (by rw[o.out];simp[H]),z⟩
  have P:(t.op==1)=aL:=by simpa using H
  by_cases I:t.op=2
  .clear P;have D:bB t.kids=2:=by simpa[Hd,I] using y
   have r:=k bO;obtain⟨p,q,rfl⟩:∃p q,args=[p,q]:=Lu bO;obtain⟨g,a,rfl,s⟩:=fS 0 p rfl;let⟨C,d,A,X⟩:=fS 1 q rfl;obtain⟨rfl,rfl⟩:g=C∧a=d:=by simpa using A
   rw[I] at c0;have u:cz w g a (.bool p):=s;cases p<;>
    (go_wp2_with(go_at_call 137;refine l.mono ?_;rintro e E ⟨rfl,rfl⟩);go_ret;exact⟨fr (by rw[o.out];simp[I]),z⟩)
  have V:(t.op==2)=aL:=by simpa using I
  by_cases J:t.op=3
  .clear P V;have D:bB t.kids=2:=by simpa[Hd,J] using y
   have r:=k bO;obtain⟨p,q,rfl⟩:∃p q,args=[p,q]:=Lu bO;obtain⟨g,a,rfl,s⟩:=fS 0 p rfl;let⟨C,d,A,X⟩:=fS 1 q rfl;obtain⟨rfl,rfl⟩:g=C∧a=d:=by simpa using A
   rw[J] at c0;have u:cz w g a (.bool p):=s;cases p<;>
    (go_wp2_with(go_at_call 137;refine l.mono ?_;rintro e E ⟨rfl,rfl⟩);go_ret;exact⟨fr (by rw[o.out];simp[J]),z⟩)
  have d3:(t.op==3)=aL:=by simpa using J
  by_cases L:t.op=4
  .clear P V d3;have D:bB t.kids=2:=by simpa[Hd,L] using y
   have r:=k bO;obtain⟨p,q,rfl⟩:∃p q,args=[p,q]:=Lu bO;obtain⟨g,a,rfl,s⟩:=fS 0 p rfl;let⟨C,d,A,X⟩:=fS 1 q rfl;obtain⟨rfl,rfl⟩:g=C∧a=d:=by simpa using A
   rw[L] at c0;have u:cz w g a (.bool p):=s;cases p<;>
    (go_wp2_with(go_at_call 137;refine l.mono ?_;rintro e E ⟨rfl,rfl⟩);go_ret;exact⟨fr (by rw[o.out];simp[L]),z⟩)
  have d4:(t.op==4)=aL:=by simpa using L
  have N:Hid (Zg cls t args=zD cls t.x t.y):=cG
  go_wp2_with(go_at_call 137;refine l.mono ?_;rintro e E ⟨rfl,rfl⟩)
  go_region_with(go_at_call 134;refine(SM 1).mono ?_;rintro e w3 ⟨rfl,K3⟩)
  all_goals
   try simp[aQ,cD,cw,ct,cf,cN,cK]
   go_wp2;go_ret;exact⟨fr (by rw[N.out]),K3⟩
theorem Br(P:Program)(W a)(m:Mode)(fn first d):(store a (.func fn first d) m).run P W=stored P W a (.func fn first d) m:=run_store P W a _ m rfl
attribute [local go_sem] Br
def Sm(w:ay)(op x y:Int)(kv:aA)(ca:Option aD)(cn cc:Nat):ay:=
 bC (bC (bC (bC w (aq #[ae af op,ae af x,ae af y,kv] 36)) (aq #[aj ca cn cc] 39)) (aq #[.int .u64 cn] 105)) (aq #[.func (.func 134) #[] #[ak (ah ⟨w.heap.size+2,0,ai⟩),ak (ah ⟨w.heap.size+1,0,ai⟩)]] 241)
theorem abl(w op x y a n d j g k)(o:g<=9223372036854775807)(b B)(i:aB prog 135 #[pz w.heap.size,.func (.func 136) #[] #[ak (ah ⟨w.heap.size+3,0,ai⟩)]] (Sm w op x y (aj a n d) j g k) λe h=>e=aw (.bool b)∧aC B w h):
  aB prog 91 #[.agg #[iz op,iz x,iz y,aj a n d],aj j g k] w λe h=>e=aw (.bool b)∧aC B w h:=by
 have p:IntKind.u64.wrap (g:Int)=g:=aeD
 unfold Sm at i;go_enter func91,ntmps91
 go_wp2_with(go_at_call 135;refine i.mono ?_;rintro e q ⟨rfl,l⟩);go_ret;exact⟨rfl,l⟩
theorem FP(w:ay)(v:aA)(ty:aE):bE (bC w (aq #[v] ty)) w.heap.size ty 1 (λ_=>v):=eO (ey w #[v] ty) λj a=>by grind
def yJ{f:Nat->aA}(o)(h:bE w b ty n f):bE (bC w o) b ty n f:=h.of_block (dB w o b (dO h))
theorem abm(w op x y){kv}{kids}(o:nk kv kids)(q:∀k∈kids,jS w k)(d a e cls)(hl:bB cls=a)(D:cls=[]∨∃g i,d=ah (az g i)∧∀(j:Nat)(c:Int),cls[j]?=ah c->aU w ⟨g,i+j,ai⟩=ah (iz c))(hs:a<=9223372036854775807):
  jS (Sm w op x y kv d a e) (.mk w.heap.size 0 op x y kv kids)∧Cls (Sm w op x y kv d a e) (w.heap.size+2) (w.heap.size+1) d a e cls∧
  (Sm w op x y kv d a e).rowIs (w.heap.size+3) 241 1 (λ_=>.func (.func 134) #[] #[ak (ah ⟨w.heap.size+2,0,ai⟩),ak (ah ⟨w.heap.size+1,0,ai⟩)])∧
  aC w.heap.size w (Sm w op x y kv d a e)∧(Sm w op x y kv d a e).heap.size=w.heap.size+4:=by
 have s:(bC w (aq #[iz op,iz x,iz y,kv] 36)).heap.size=hz w+1:=bQ
 have u:(bC (bC w (aq #[iz op,iz x,iz y,kv] 36)) (aq #[aj d a e] 39)).heap.size=hz w+2:=bQ
 have z:(bC (bC (bC w (aq #[iz op,iz x,iz y,kv] 36)) (aq #[aj d a e] 39)) (aq #[.int .u64 a] 105)).heap.size=hz w+3:=bQ
 have l:bz w (Sm w op x y kv d a e):=((((cW _ w).alloc (bT _) _).alloc bQ _).alloc bX _).alloc bX _;have K:iH (λk=>k<hz w) w (Sm w op x y kv d a e):=λk _ _ r o=>(l.block k r).trans o;refine⟨vW.mk trivial ?_ o λk p=>?_,⟨?_,?_,hl,?_,hs⟩,?_,l,by simp[Sm]⟩
 .refine⟨#[iz op,iz x,iz y,kv],(0,0),?_,rfl,rfl,rfl,rfl,rfl⟩;grind[Sm,Below.heap_alloc,World.alloc_heap_new]
 .exact((q k p).lt.mono λ_ h=>h.2).keep K |>.mono λ_ _=>trivial
 .exact yJ _ (u▸FP _ (.int .u64 a) 105)
 .exact yJ _ (yJ _ (s▸FP _ (aj d a e) 39))
 .obtain h|⟨g,i,A,C⟩:=D
  .exact cB h
  refine cI ⟨g,i,A,λj c E=>?_⟩;have:=C j c E;exact(l.cell (cV w _ this)).trans this
 exact z▸FP _ _ 241
theorem Cls.below{i l:Nat}{k:Option aD}{p o:Nat}{cls:List Int}(h:Cls W i l k p o cls)(a:aC B W W')(hz:W.heap.size<=B):Cls W' i l k p o cls:=by
 refine⟨h.bnd.of_block (a.block _ (cQ h.bnd.lt hz)),h.cbx.of_block (a.block _ (cQ h.cbx.lt hz)),h.len,?_,h.small⟩;obtain e|⟨g,d,q,r⟩:=h.cells
 .exact cB e
 refine cI ⟨g,d,q,λj c s=>?_⟩;have:=r j c s;exact(a.cell (cQ (cV W _ this) hz)).trans this
theorem Zf(w op x y){kv}{kids}(A:nk kv kids)(r:∀k∈kids,jS w k)(i h o cls)(hl:bB cls=h)(L:cls=[]∨∃g l,i=ah (az g l)∧∀(j:Nat)(c:Int),cls[j]?=ah c->aU w ⟨g,l+j,ai⟩=ah (iz c))(hs:h<=9223372036854775807)(J:bB (wk (.mk w.heap.size 0 op x y kv kids) 0)*16<=140737488355328)(u:∀z∈es (.mk w.heap.size 0 op x y kv kids),La z.x∧La z.y):
  aB prog 91 #[.agg #[iz op,iz x,iz y,kv],aj i h o] w λe C=>e=aw (.bool (fo (Zg cls) (.mk w.heap.size 0 op x y kv kids)))∧aC w.heap.size w C:=by
 let⟨D,E,s,G,M⟩:=abm w op x y A r i h o cls hl L hs;obtain⟨a,d,rfl,_⟩:=A;refine abl w op x y a _ d i h o hs _ _ ?_;have F:=Zd (Sm w op x y (aj a (bB kids) d) i h o) (.mk w.heap.size 0 op x y (aj a (bB kids) d) kids) (w.heap.size+3) (Zg cls) D J λW z args N hz p I H q=>VK (w.heap.size+3) (w.heap.size+2) (w.heap.size+1) (s.of_block (p.block _ (dO s))) (E.below p (bT _)) I (u z hz).1 (u z hz).2 H q
 refine F.mono ?_;rintro e C ⟨rfl,p⟩;exact⟨rfl,G.trans (p.mono bO)⟩
theorem acG(cls t args a)(h:t.op≠0->args=a):Zg cls t args=evN cls t.op t.x t.y (bB t.kids) a:=by grind[Zg,evN,Hd]
theorem aaa(cls:List Int)(t:Lf):fo (Zg cls) t=Zh cls t.er:=by
 rw[aab,acG cls t _ (t.kids.map λk=>Zh cls k.er)]
 .cases t with
  |mk b o op x y kv kids=>simp only[Lf.er,Zh,Lf.op,Lf.x,Lf.y,Lf.kids,eG,kL];rfl
 intro a;have e:t.ks=t.kids:=by simp[Lf.ks,a]
 refine(lh λk d=>?_).trans (congrArg (List.map λk=>Zh cls k.er) e);exact aaa cls k
termination_by SizeOf.sizeOf t
decreasing_by exact Eu d
inductive RF:Fo->Prop where
 |mk {op x y:Int} {kids:List Fo} (hx:La x) (hy:La y) (h:∀k∈kids,RF k):RF (.mk op x y kids)
theorem RF.He{k:Lf}(h:RF t.er)(a:k∈t.kids):RF k.er:=by
 cases t
 rw[Lf.er] at h;cases h with
 |mk d e h=>exact h _ (gI.2 ⟨k,a,rfl⟩)
theorem RF.here(h:RF t.er):La t.x∧La t.y:=by
 cases t
 rw[Lf.er] at h;cases h with
 |mk a d h=>exact⟨a,d⟩
theorem aas(t:Lf)(d:Nat)(e:RF t.er):∀y∈wk t d,RF y.1.er:=by
 intro y a;cases h:t.ks[d]? with
 |none=>grind[sX,List.mem_singleton]
 |some k=>
  have g:=(bU.1 h).1;rw[oz h] at a;obtain rfl|a:=fA.1 a
  .exact e
  obtain a|a:=cU.1 a
  .exact aas k 0 (e.He (UZ (cH h))) y a
  exact aas t (d+1) e y a
termination_by (SizeOf.sizeOf t,bB t.ks-d)
decreasing_by
 .exact Ld _ _ (Eu (cH h))
 omega
theorem abo(g:RF t.er):∀z∈es t,La z.x∧La z.y:=by
 intro z hz;unfold es at hz;let⟨⟨y,d⟩,e,a⟩:=nY.1 hz;unfold kV at a
 split at a
 .cases a
  exact(aas t 0 g _ e).here
 cases a
theorem aae(e:RF t.er):∀p∈eqs t,Hi p:=by
 intro p hp;unfold eqs at hp;let⟨z,d,a⟩:=nY.1 hp;unfold isEq at a
 split at a
 .cases a
  exact abo e z d
 cases a
def Hk(W:ay)(v:aA)(f:Fo):Prop:=kO (λ_=>True) W v f
variable{f:Fo}
def mw.is(h:mw B W v f):Hk W v f:=Ds (λ_ _=>trivial) h
def Hk.keep(h:Hk W v f)(d:aC W.heap.size W W'):Hk W' v f:=abS (λk _ _ _ a=>(d.block k (bY.1 a).1).trans a) h
theorem JM(w v){f}(u:Hk w v f)(i d o cls)(hl:bB cls=d)(r:cls=[]∨∃g a,i=ah (az g a)∧∀(j:Nat)(c:Int),cls[j]?=ah c->aU w ⟨g,a+j,ai⟩=ah (iz c))(hs:d<=9223372036854775807)(p:xj f*16<=140737488355328)(q:RF f):
  aB prog 91 #[v,aj i d o] w λe z=>e=aw (.bool (Zh cls f))∧aC w.heap.size w z:=by
 obtain⟨op,x,y,kv,kids,rfl,s,l,rfl⟩:=u;have k:(Lf.mk (hz w) 0 op x y kv kids).er=.mk op x y (kids.map Lf.er):=by rw[Lf.er]
 have h:=Zf w op x y s l i d o cls hl r hs (by rw[Cr,k];exact p) (abo (by rw[k];exact q));rw[aaa,k] at h;exact h
theorem EO(w){v}{f}(g:Hk w v f)(h:xj f*16<=140737488355328)(i:RF f):
  aB prog 78 #[v] w λe a=>∃u,e=aw u∧bD a w.heap.size 34 2 u (bB (lC (oU f))) (oV (lC (oU f)))∧aC w.heap.size w a:=by
 obtain⟨op,x,y,kv,kids,rfl,k,d,rfl⟩:=g;have j:(Lf.mk (hz w) 0 op x y kv kids).er=.mk op x y (kids.map Lf.er):=by rw[Lf.er]
 grind[Wx,Cr,aae,Gn]
namespace Cn
def lit(σ:Nat->Bool)(x:Int):Bool:=if x<0 then !σ x.natAbs else σ x.natAbs
theorem rT(σ:Nat->Bool){x:Int}(h:x≠0):lit σ (-x)=!lit σ x:=by grind[lit]
def Tru(σ:Nat->Bool)(c:List Int):Prop:=∃x∈c,lit σ x=aK
def Sat(σ:Nat->Bool)(cs:List (List Int)):Prop:=∀c∈cs,Tru σ c
def Hx(τ:Int×Int->Bool):Fo->Bool
 | .mk 0 x y _=>τ (x,y)
 | .mk _ _ _ [k]=>!Hx τ k
 | .mk o _ _ [a,b]=>if o=2 then Hx τ a&&Hx τ b else if o=3 then Hx τ a||Hx τ b else !Hx τ a||Hx τ b
 |_=>aL
def both(p q:Int)(st:Nat×List (List Int)):Int×(Nat×List (List Int)):=
 (((st.1+1:Nat):Int),(st.1+1,st.2++[[-((st.1+1:Nat):Int),p],[-((st.1+1:Nat):Int),q],[((st.1+1:Nat):Int),-p,-q]]))
def jj(an:Int×Int->Nat):Fo->Nat×List (List Int)->Int×(Nat×List (List Int))
 | .mk 0 x y _,st=>((an (x,y):Int),st)
 | .mk _ _ _ [k],st=>(-(jj an k st).1,(jj an k st).2)
 | .mk o _ _ [a,b],st=>
  if o=2 then both (jj an a st).1 (jj an b (jj an a st).2).1 (jj an b (jj an a st).2).2
  else if o=3 then(-(both (-(jj an a st).1) (-(jj an b (jj an a st).2).1) (jj an b (jj an a st).2).2).1,(both (-(jj an a st).1) (-(jj an b (jj an a st).2).1) (jj an b (jj an a st).2).2).2)
  else(-(both (jj an a st).1 (-(jj an b (jj an a st).2).1) (jj an b (jj an a st).2).2).1,(both (jj an a st).1 (-(jj an b (jj an a st).2).1) (jj an b (jj an a st).2).2).2)
 |_,st=>(0,st)
def ry(n:Nat)(x:Int):Prop:=x≠0∧x.natAbs<=n
def E5(n:Nat)(σ σ':Nat->Bool):Prop:=∀v,v<=n->σ' v=σ v
variable{σ σ':Nat->Bool}
theorem E5.lit(h:E5 n σ σ'){x:Int}(a:x.natAbs<=n):lit σ' x=lit σ x:=by unfold Cn.lit;rw[h _ a]
structure Told(an:Int×Int->Nat)(f:Fo)(st:Nat×List (List Int))(r:Int)(st':Nat×List (List Int))(news:List (List Int)):Prop where
 cls:st'.2=st.2++news
 up:st.1<=st'.1
 le:ry st'.1 r
 all:∀c∈news,∀x∈c,ry st'.1 x
 sound:∀σ,Sat σ news->lit σ r=Hx (λp=>σ (an p)) f
 ex:∀σ,∃σ',E5 st.1 σ σ'∧Sat σ' news
theorem Sat.app{a b:List (List Int)}:Sat σ (a++b)↔Sat σ a∧Sat σ b:=by grind[Sat]
def adV:=@Sat.app
theorem Sat.agree(h:E5 n σ σ'){cs:List (List Int)}(hl:∀c∈cs,∀x∈c,ry n x)(hs:Sat σ cs):Sat σ' cs:=by intro c d;let⟨x,e,a⟩:=hs c d;exact⟨x,e,by rw[h.lit (hl c d x e).2];exact a⟩
theorem Ka{n}{p q}(hp:ry n p)(h:ry n q)(σ:Nat->Bool):Sat σ [[-((n+1:Nat):Int),p],[-((n+1:Nat):Int),q],[((n+1:Nat):Int),-p,-q]]↔σ (n+1)=(lit σ p&&lit σ q):=by
 have a:lit σ ((n+1:Nat):Int)=σ (n+1):=by unfold lit;rw[cC bO];congr 1
 have d:lit σ (-((n+1:Nat):Int))=!σ (n+1):=by rw[rT σ bO,a]
 have e:=rT σ hp.1;have g:=rT σ h.1;simp only[Sat,Tru,fA,lH,GY,forall_eq_or_imp,forall_eq,exists_eq_or_imp,exists_eq_left,a,d,e,g];grind
theorem Told.both{A:Int×Int->Nat}{g:Fo}{st G d:Nat×List (List Int)}{l o:Int}{I J:List (List Int)}(k:Told A f st l G I)(i:Told A g G o d J)(s u:Bool):
  let p:=if s then -l else l;let q:=if u then -o else o
  ∃e,(both p q d).2.2=st.2++e∧st.1<=(both p q d).2.1∧ry (both p q d).2.1 (both p q d).1∧(∀c∈e,∀x∈c,ry (both p q d).2.1 x)∧
   (∀σ,Sat σ e->lit σ (both p q d).1=((Hx (λp=>σ (A p)) f != s)&&(Hx (λp=>σ (A p)) g != u)))∧(∀σ,∃σ',E5 st.1 σ σ'∧Sat σ' e):=by
 intro p q;have hp:ry d.1 p:=by have a:=k.le;have b:=i.up;show ry d.1 (if s then -l else l);grind[ry]
 have z:ry d.1 q:=by have a:=i.le;show ry d.1 (if u then -o else o);grind[ry]
 have lp:∀σ,lit σ p=(lit σ l != s):=λσ=>by
  show lit σ (if s then -l else l)=_;cases s
  .simp
  simp[rT σ k.le.1]
 have Q:∀σ,lit σ q=(lit σ o != u):=λσ=>by
  show lit σ (if u then -o else o)=_;cases u
  .simp
  simp[rT σ i.le.1]
 have P:∀σ,lit σ (Cn.both p q d).1=σ (d.1+1):=λσ=>by show lit σ ((d.1+1:Nat):Int)=_;grind[lit]
 refine⟨I++J++[[-((d.1+1:Nat):Int),p],[-((d.1+1:Nat):Int),q],[((d.1+1:Nat):Int),-p,-q]],?_,?_,?_,?_,?_,?_⟩
 .show d.2++_=_;rw[i.cls,k.cls];simp
 .show st.1<=d.1+1;have:=k.up;have:=i.up;omega
 .show ry (d.1+1) ((d.1+1:Nat):Int);exact⟨by omega,by omega⟩
 .show ∀c∈_,∀x∈c,ry (d.1+1) x;have S:=i.up;intro c j x y;obtain j|j:=cU.1 j
  .obtain j|j:=cU.1 j
   .have:=k.all c j x y;exact⟨this.1,by have:=this.2;omega⟩
   have:=i.all c j x y;exact⟨this.1,by have:=this.2;omega⟩
  have a:=hp.1;have b:=hp.2;have M:=z.1;have R:=z.2;simp at j;obtain rfl|rfl|rfl:=j<;>simp at y
  .obtain rfl|rfl:=y
   .exact⟨by omega,by omega⟩
   exact⟨a,by omega⟩
  .obtain rfl|rfl:=y
   .exact⟨by omega,by omega⟩
   exact⟨M,by omega⟩
  obtain rfl|rfl|rfl:=y
  .exact⟨by omega,by omega⟩
  .exact⟨by omega,by omega⟩
  exact⟨by omega,by omega⟩
 .intro σ hs;let⟨r,F⟩:=adV.1 hs;let⟨r,E⟩:=adV.1 r;rw[P,(Ka hp z σ).1 F,lp,Q,k.sound σ r,i.sound σ E]
 intro σ;let⟨L,N,b1⟩:=k.ex σ;let⟨h,H,b2⟩:=i.ex L;refine⟨λv=>if v=d.1+1 then(lit h p&&lit h q) else h v,?_,?_⟩
 .intro v C;have:=k.up;have:=i.up;show(if v=d.1+1 then(lit h p&&lit h q) else h v)=σ v;rw[cC bO,H v bO,N v C]
 have D:E5 d.1 h (λv=>if v=d.1+1 then(lit h p&&lit h q) else h v):=λv C=>cC bO;refine adV.2 ⟨adV.2 ⟨?_,Sat.agree D i.all b2⟩,?_⟩
 .refine Sat.agree (n:=G.1) (λv C=>?_) k.all b1;have:=i.up;show(if v=d.1+1 then(lit h p&&lit h q) else h v)=L v;rw[cC bO,H v C]
 rw[Ka hp z,D.lit hp.2,D.lit z.2];simp
def adh:=@Told.both
theorem SI(a:Int×Int->Nat)(D:Aj f):∀st:Nat×List (List Int),(∀p∈oU f,1<=a p∧a p<=st.1)->∃d,Told a f st (jj a f st).1 (jj a f st).2 d:=by
 induction D with
 |eq x y=>intro st h;let⟨F,G⟩:=h (x,y) (by simp[oU]);refine⟨[],⟨by simp[jj],by simp[jj],⟨by simp[jj];omega,by simp[jj];omega⟩,by simp,λσ _=>?_,λσ=>⟨σ,λ_ _=>rfl,λc z=>by cases z⟩⟩⟩;grind[jj,Hx,lit]
 |neg f A E=>
  intro st h;let⟨d,T⟩:=E st (λp hp=>h p (by simp[oU];exact hp));have e:jj a (.mk 1 0 0 [f]) st=(-(jj a f st).1,(jj a f st).2):=by rw[jj];simp
  rw[e];refine⟨d,⟨T.cls,T.up,⟨by have:=T.le.1;simp;omega,by have:=T.le.2;simp;omega⟩,T.all,λσ hs=>?_,T.ex⟩⟩;have u:Hx (λp=>σ (a p)) (.mk 1 0 0 [f])=!Hx (λp=>σ (a p)) f:=by rw[Hx];simp
  rw[u,rT σ T.le.1,T.sound σ hs]
 |two o f g C A H q r=>
  intro st h;have s:¬o=0:=bO
  have l:∀p∈oU f,1<=a p∧a p<=st.1:=λp hp=>h p (by simp[oU,s];exact cB hp);let⟨I,j⟩:=q st l;let⟨J,k⟩:=r (jj a f st).2 (λp hp=>by have:=h p (by simp[oU,s];exact cI hp);have:=j.up;omega)
  obtain rfl|rfl|rfl:=C
  .let⟨d,b1,b2,b3,b4,b5,i⟩:=Told.both j k aL aL;simp only[gL,jF] at b1 b2 b3 b4 b5;have e:jj a (.mk 2 0 0 [f,g]) st=both (jj a f st).1 (jj a g (jj a f st).2).1 (jj a g (jj a f st).2).2:=by rw[jj]<;>simp
   rw[e];refine⟨d,⟨b1,b2,b3,b4,λσ hs=>?_,i⟩⟩;grind[Hx]
  .let⟨d,b1,b2,b3,b4,b5,i⟩:=Told.both j k aK aK;simp only[iX] at b1 b2 b3 b4 b5;have e:jj a (.mk 3 0 0 [f,g]) st=(-(both (-(jj a f st).1) (-(jj a g (jj a f st).2).1) (jj a g (jj a f st).2).2).1,(both (-(jj a f st).1) (-(jj a g (jj a f st).2).1) (jj a g (jj a f st).2).2).2):=by rw[jj]<;>simp
   rw[e];refine⟨d,⟨b1,b2,⟨by have:=b3.1;simp;omega,by have:=b3.2;simp;omega⟩,b4,λσ hs=>?_,i⟩⟩;rw[rT σ b3.1,b5 σ hs,Hx]
   .simp
   intro x;cases x
  let⟨d,b1,b2,b3,b4,b5,i⟩:=Told.both j k aL aK;simp only[gL,jF,iX] at b1 b2 b3 b4 b5;have e:jj a (.mk 4 0 0 [f,g]) st=(-(both (jj a f st).1 (-(jj a g (jj a f st).2).1) (jj a g (jj a f st).2).2).1,(both (jj a f st).1 (-(jj a g (jj a f st).2).1) (jj a g (jj a f st).2).2).2):=by rw[jj]<;>simp
  rw[e];refine⟨d,⟨b1,b2,⟨by have:=b3.1;simp;omega,by have:=b3.2;simp;omega⟩,b4,λσ hs=>?_,i⟩⟩;rw[rT σ b3.1,b5 σ hs,Hx]
  .simp
  intro x;cases x
end Cn
namespace Cn
def hold(vs:List Int)(x:Int):Int:=if x<0 then -(vs[x.natAbs]?.getD 0) else vs[x.natAbs]?.getD 0
end Cn
namespace Cn
def sZ:Fo->Nat
 | .mk 0 _ _ _=>0
 | .mk _ _ _ [k]=>sZ k
 | .mk _ _ _ [a,b]=>sZ a+sZ b+1
 |_=>0
def lZ:Fo->Nat×Nat
 | .mk 0 _ _ _=>(1,0)
 | .mk _ _ _ [k]=>((lZ k).1+1,(lZ k).2+1)
 | .mk _ _ _ [a,b]=>((lZ a).1+(lZ b).1+1,(lZ a).2+(lZ b).2+1)
 |_=>(1,1)
theorem MY(p q)(st:Nat×List (List Int)):(both p q st).2.1=st.1+1∧(both p q st).2.2.length=st.2.length+3:=by simp[both]
theorem D4(d:Int×Int->Nat)(r:Aj f):∀st:Nat×List (List Int),(jj d f st).2.1=st.1+sZ f∧(jj d f st).2.2.length=st.2.length+3*sZ f:=by
 induction r with
 |eq x y=>intro st;simp[jj,sZ]
 |neg f l u=>grind[jj,sZ]
 |two o f g k l s i j=>
  intro st;have a:=i st;have b:=j (jj d f st).2;have e:sZ (.mk o 0 0 [f,g])=sZ f+sZ g+1:=by obtain rfl|rfl|rfl:=k<;>simp[sZ]
  have h:∀p q,(both p q (jj d g (jj d f st).2).2).2.1=st.1+(sZ f+sZ g+1)∧(both p q (jj d g (jj d f st).2).2).2.2.length=st.2.length+3*(sZ f+sZ g+1):=λp q=>by let⟨c1,c2⟩:=MY p q (jj d g (jj d f st).2).2;rw[c1,c2];omega
  rw[e];obtain rfl|rfl|rfl:=k
  .rw[show jj d (.mk 2 0 0 [f,g]) st=both (jj d f st).1 (jj d g (jj d f st).2).1 (jj d g (jj d f st).2).2 by rw[jj]<;>simp];exact h _ _
  .rw[show jj d (.mk 3 0 0 [f,g]) st=(-(both (-(jj d f st).1) (-(jj d g (jj d f st).2).1) (jj d g (jj d f st).2).2).1,(both (-(jj d f st).1) (-(jj d g (jj d f st).2).1) (jj d g (jj d f st).2).2).2) by rw[jj]<;>simp];exact h _ _
  grind[jj,both]
theorem JZ(d:Aj f):(lZ f).1=bB (oU f)+(lZ f).2∧sZ f<=(lZ f).2:=by
 induction d with
 |eq x y=>simp[lZ,oU,sZ]
 |neg f a k=>simp[lZ,oU,sZ];omega
 |two o f g j a i e h=>grind[lZ,oU,sZ]
end Cn
theorem Gv(h:Aj f):(Cn.lZ f).1<=xj f∧(Cn.lZ f).2<=(Cn.lZ f).1:=by
 induction h with
 |eq x y=>simp[Cn.lZ,xj]
 |neg f a k=>simp[Cn.lZ,xj];omega
 |two o f g j a i d e=>grind[Cn.lZ,xj]
end
variable{t x:Lf}
theorem Oz(a:t.op=0):es t=[t]:=by grind[Lf.ks,es,kV,sX]
theorem VN{k:Lf}(a:¬t.op=0)(b:t.kids=[k]):es t=es k++[t]:=by grind[Lf.ks,es,kV,aar,List.filterMap_cons_none]
theorem VM{a b:Lf}(d:¬t.op=0)(e:t.kids=[a,b]):es t=es a++es b++[t]:=by
 have c:t.ks=[a,b]:=by simp[Lf.ks,d,e]
 unfold es;rw[aaq d e,mR (by simp[kV,c]),kG,mR (by simp[kV,c]),kG];simp[kV,c]
variable{f:Fo}
theorem aad(u:Aj f):∀t:Lf,t.er=f->∀x∈es t,Aj x.er:=by
 induction u with
 |eq x y=>intro t c z hz;let⟨d,_,_,_⟩:=xh c;rw[Oz d] at hz;obtain rfl:=dL.1 hz;rw[c];exact .eq x y
 |neg f h A=>
  intro t c z hz;let⟨d,_,_,e⟩:=xh c;let⟨k,j,l⟩:=Oc e;rw[VN (by rw[d];decide) j] at hz;obtain hz|hz:=cU.1 hz
  .exact A k l z hz
  .obtain rfl:=dL.1 hz;rw[c];exact .neg f h
 |two o f g r h q C D=>
  intro t c z hz;let⟨d,_,_,e⟩:=xh c;let⟨a,b,j,E,F⟩:=Ob e;rw[VM bO j] at hz;obtain hz|hz:=cU.1 hz
  .grind
  obtain rfl:=dL.1 hz;rw[c];exact .two o f g r h q
def mr(an:Int×Int->Nat)(x:Lf)(args:List Int)(st:Sc):Int×Sc:=
 if x.op=1 then(-(args[0]?.getD 0),st)
 else if x.op=2 then Cn.both (args[0]?.getD 0) (args[1]?.getD 0) st
 else if x.op=3 then(-(Cn.both (-(args[0]?.getD 0)) (-(args[1]?.getD 0)) st).1,(Cn.both (-(args[0]?.getD 0)) (-(args[1]?.getD 0)) st).2)
 else if x.op=4 then(-(Cn.both (args[0]?.getD 0) (-(args[1]?.getD 0)) st).1,(Cn.both (args[0]?.getD 0) (-(args[1]?.getD 0)) st).2)
 else((an (x.x,x.y):Int),st)
def zA(an:Int×Int->Nat)(s:List Int×Sc)(x:Lf):List Int×Sc:=
 (s.1.take (s.1.length-bB x.ks)++[(mr an x (s.1.drop (s.1.length-bB x.ks)) s.2).1],(mr an x (s.1.drop (s.1.length-bB x.ks)) s.2).2)
theorem yE(an:Int×Int->Nat)(a args st x)(h:bB args=bB x.ks):zA an (a++args,st) x=(a++[(mr an x args st).1],(mr an x args st).2):=by simp_all[zA]
theorem Zi(an:Int×Int->Nat)(F:Aj f):∀t:Lf,t.er=f->∀(e:List Int)(st:Sc),(es t).foldl (zA an) (e,st)=(e++[(Cn.jj an f st).1],(Cn.jj an f st).2):=by
 induction F with
 |eq x y=>
  intro t l e st;let⟨d,H,I,_⟩:=xh l;have c:t.ks=[]:=by simp[Lf.ks,d]
  have:=yE an e [] st t (by rw[c];rfl);grind[mr,Cn.jj,Oz]
 |neg f D G=>
  intro t l e st;let⟨d,_,_,q⟩:=xh l;let⟨k,j,r⟩:=Oc q;have h:¬t.op=0:=by rw[d];decide
  have c:t.ks=[k]:=by simp[Lf.ks,h,j]
  rw[VN h j,j7,G k r,List.foldl_cons,List.foldl_nil,yE an _ _ _ _ (by rw[c];rfl)];simp[mr,d,Cn.jj]
 |two o f g E D J u z=>
  intro t l e st;let⟨d,_,_,q⟩:=xh l;let⟨a,b,j,A,C⟩:=Ob q;have h:¬t.op=0:=bO
  have c:t.ks=[a,b]:=by simp[Lf.ks,h,j]
  rw[VM h j,j7,j7,u a A,z b C,List.foldl_cons,List.foldl_nil,fW,yE an e _ _ _ (by rw[c];rfl)];obtain rfl|rfl|rfl:=E
  .rw[Cn.jj]<;>simp[mr,d]
  .rw[Cn.jj]<;>simp[mr,d]
  rw[Cn.jj]<;>simp[mr,d]
def o7(an:Int×Int->Nat)(t:Lf)(n:Nat)(i:Nat):List Int×Sc:=((es t).take i).foldl (zA an) ([],(n,[]))
variable{an:Int×Int->Nat}{n i mb ab base B m:Nat}
theorem Bz(h:(es t)[i]?=ah x):o7 an t n (i+1)=zA an (o7 an t n i) x:=by unfold o7;rw[dJ,h];simp
theorem XM(an:Int×Int->Nat)(a:Aj t.er)(n):o7 an t n (bB (es t))=([(Cn.jj an t.er (n,[])).1],(Cn.jj an t.er (n,[])).2):=by unfold o7;rw[fI,Zi an a t rfl];rfl
theorem Fp(an:Int×Int->Nat)(t n):∀i,(o7 an t n i).1.length=bB (vq (λ_ _=>()) t i)
 |0=>rfl
 |i+1=>by
  have a:=Fp an t n i;cases h:(es t)[i]? with
  |none=>grind[o7,vq,List.take_add_one]
  |some x=>rw[Bz h,(xy h).1];simp[zA,VE,a]
theorem LB(h:(es t)[i]?=ah x):bB x.ks<=(o7 an t n i).1.length:=by rw[Fp];exact(xy h).2
variable{st st':Sc}
theorem YL{args:List Int}(a:∀v∈args,v.natAbs<=st.1)(d:x.op=0->an (x.x,x.y)<=st.1)(b:x.op=0∨x.op=1∨x.op=2∨x.op=3∨x.op=4):
  (mr an x args st).1.natAbs<=(mr an x args st).2.1∧st.1<=(mr an x args st).2.1∧(mr an x args st).2.1<=st.1+1∧(mr an x args st).2.2.length<=st.2.length+3:=by
 have c:∀j:Nat,(args[j]?.getD 0).natAbs<=st.1:=λj=>by
  cases h:args[j]? with
  |none=>simp
  |some v=>exact a v (cH h)
 unfold mr;grind[Cn.both]
theorem ab4(h:Aj t.er):t.op=0∨t.op=1∨t.op=2∨t.op=3∨t.op=4:=by
 rw[<-Lf.acI];generalize t.er=f at h;cases h with
 |eq=>exact cB rfl
 |neg=>exact cI (cB rfl)
 |two o _ _ a=>grind[Fo.op]
theorem Ta(an:Int×Int->Nat){t:Lf}(c:Aj t.er)(n)(a:∀p∈oU t.er,an p<=n):∀i,i<=bB (es t)->(∀v∈(o7 an t n i).1,v.natAbs<=(o7 an t n i).2.1)∧n<=(o7 an t n i).2.1∧(o7 an t n i).2.1<=n+i∧(o7 an t n i).2.2.length<=3*i
 |0,_=>by simp[o7]
 |i+1,o=>by
  let⟨j,g,k,l⟩:=Ta an c n a i bO;have d:(es t)[i]?=ah (es t)[i]:=bP bO;have b:=cH d;rw[Bz d];generalize(es t)[i]=x at *;have h:=aad c t rfl x b;have q:x.op=0->an (x.x,x.y)<=(o7 an t n i).2.1:=λe=>by refine bZ (a _ ?_) g;rw[<-Gn];exact nY.2 ⟨x,b,by simp[isEq,e]⟩
  grind[o7,zA,YL,List.mem_of_mem_drop,ab4,List.mem_of_mem_take,List.mem_singleton]
def GW(W:ay)(sv:aA)(args:List Int):Prop:=∃a cap,sv=aj a (bB args) cap∧oY W a args
variable{S S' S0:Nat->Prop}{w W W' w7:ay}{ps:List (Int×Int)}{rv v rv' fv rv0:aA}
def mY.none{b:ay}(h:Mk S w mb ab ps rv st)(K:dG w b):mY S w rv S b rv mb ab ps st:=
 ⟨h.keep K.size λk a=>K.block k (h.lt k a) λe=>e,λ_ a=>cB a,cB rfl,K.mono λ_ _ e=>e.elim⟩
def Dp:=@mY.none
theorem DV(x n)(h:x=((n+1:Nat):Int))(a:n<=1073741824):IntKind.i64.wrap (-x)=-x:=by subst h;rw[cX];omega
theorem Mo{w}{S}(mb ab){rv}{st}(h:Mk S w mb ab ps rv st)(hs:st.1<=1073741824)(Y:st.2.length<=1073741824){t}(J:jS w t)(I:Hd t=aK)(hx:Hi (t.x,t.y)){sv}{args}(hA:GW w sv args)(hl:bB args=bB t.ks)(r:∀v∈args,v.natAbs<=1073741824):
  aB prog 120 #[pz mb,ak (ah (az t.b t.o)),sv] w λe L=>e=aw (iz (mr (mA ps) t args st).1)∧Made S w L mb ab ps rv (mr (mA ps) t args st).2:=by
 have A:=Cu J;rw[I] at A;have c0:=J.cells.c0;have cx:=J.cells.c1;have cy:=J.cells.c2;have N:Hid (∀(m:Nat)(p q:Int),p.natAbs<=1099511627776->q.natAbs<=1099511627776->aB prog 158 #[pz mb,iz p,iz q] (bF w m) λe L=>e=aw (iz (Cn.both p q st).1)∧Made S w L mb ab ps rv (Cn.both p q st).2):=λm p q hp hq=>(ZA (bF w m) (h.keep (bT _) λ_ _=>rfl) bO Y p q hp hq).mono (by rintro e L ⟨rfl,S',rv',X⟩;exact⟨rfl,S',rv',(mY.none h ((bW _ w).drewN m)).trans X⟩)
 obtain⟨sa,aa,rfl,o⟩:=hA;have K0:dG w w:=bW _ w;have HE:Hid (mr (mA ps) t args st=_):=mr.eq_1 (mA ps) t args st;have Z:Hid (∀p q,(Cn.both p q st).1=((st.1+1:Nat):Int)):=λp q=>rfl;have cm:cz w mb 0 (.map (ah ab)):=h.cells.cell (i:=0) bO;have HM:Hid (∀m,mY S w rv S (bF w m) rv mb ab ps st):=λm=>mY.none h ((bW _ w).drewN m);have LK:(Instr.lookup 113 (.map (ah ab)) (nG (t.x,t.y)) aL).run prog w.drew=.ok (iz (mA ps (t.x,t.y):Int)) w.drew:=(h.map.keep rfl:pP w.drew ab ps).look hx;simp only[nG] at LK;have fS:∀(j:Nat)(b:Int),args[j]?=ah b->∃g a,sa=ah (az g a)∧aU w ⟨g,a+j,ai⟩=ah (iz b):=λj b hj=>by
  obtain e|⟨g,a,e1,e2⟩:=o
  .rw[e] at hj;simp at hj
  grind
 have k:t.op≠0->bB args=bB t.kids:=λh0=>by rw[hl];simp[Lf.ks,h0]
 have ac:Hid (∀p,args=[p]->(mr (mA ps) t args st)=(if t.op=1 then(-p,st) else mr (mA ps) t args st)):=λp hp=>by grind[mr]
 go_enter func120,ntmps120;by_cases R:t.op=1
 .have ad:bB t.kids=1:=by simpa[Hd,R] using I
  have l:=k bO;obtain⟨p,rfl⟩:∃p,args=[p]:=List.length_eq_one_iff.1 bO;obtain⟨g,a,rfl,u⟩:=fS 0 p rfl;rw[R] at c0;have y:cz w g a (iz p):=u;have z:=r p bQ;have wp:IntKind.i64.wrap (-p)=-p:=aew
  have c:Hid (mr (mA ps) t [p] st=(-p,st)):=cG
  go_wp2_with(go_at_call 137;refine A.mono ?_;rintro e M ⟨rfl,rfl⟩);go_ret;rw[c.out];exact⟨rfl,_,_,HM.out 0⟩
 have Q:(t.op==1)=aL:=by simpa using R
 by_cases T:t.op=2
 .clear Q;have G:bB t.kids=2:=by simpa[Hd,T] using I
  have l:=k bO;obtain⟨p,q,rfl⟩:∃p q,args=[p,q]:=by
   match args,(show bB args=2 by omega) with
   | [p,q],_=>exact⟨p,q,rfl⟩
  obtain⟨g,a,rfl,u⟩:=fS 0 p rfl;let⟨F,d,E,hd⟩:=fS 1 q rfl;obtain⟨rfl,rfl⟩:g=F∧a=d:=by simpa using E
  rw[T] at c0;have y:cz w g a (iz p):=u;have z:=r p bQ;have H:=r q bQ;have c:Hid (mr (mA ps) t [p,q] st=Cn.both p q st):=cG
  have C:=λm=>N.out m p q bO bO
  go_wp2_with(go_at_call 137;refine A.mono ?_;rintro e M ⟨rfl,rfl⟩)
  go_region_with(go_at_call 158;refine(C 1).mono ?_;rintro e w3 ⟨rfl,D⟩)
  all_goals
   try simp only[aQ,cD,cw,ct,cf,cN,cK]
   go_wp2;go_ret;rw[c.out];exact⟨rfl,D⟩
 have d2:(t.op==2)=aL:=by simpa using T
 by_cases U:t.op=3
 .clear Q d2;have G:bB t.kids=2:=by simpa[Hd,U] using I
  have l:=k bO;obtain⟨p,q,rfl⟩:∃p q,args=[p,q]:=by
   match args,(show bB args=2 by omega) with
   | [p,q],_=>exact⟨p,q,rfl⟩
  obtain⟨g,a,rfl,u⟩:=fS 0 p rfl;let⟨F,d,E,hd⟩:=fS 1 q rfl;obtain⟨rfl,rfl⟩:g=F∧a=d:=by simpa using E
  rw[U] at c0;have y:cz w g a (iz p):=u;have z:=r p bQ;have H:=r q bQ;have wp:IntKind.i64.wrap (-p)=-p:=aew
  have wq:IntKind.i64.wrap (-q)=-q:=aew
  have C:=λm=>N.out m (-p) (-q) bO bO;have c:Hid (mr (mA ps) t [p,q] st=(-(Cn.both (-p) (-q) st).1,(Cn.both (-p) (-q) st).2)):=cG
  have wx:IntKind.i64.wrap (-(Cn.both (-p) (-q) st).1)=-(Cn.both (-p) (-q) st).1:=DV _ _ (Z.out _ _) hs;generalize(Cn.both (-p) (-q) st).1=bx at *;generalize(Cn.both (-p) (-q) st).2=P at *
  go_wp2_with(go_at_call 137;refine A.mono ?_;rintro e M ⟨rfl,rfl⟩)
  go_region_with(go_at_call 158;refine(C 1).mono ?_;rintro e w3 ⟨rfl,D⟩)
  all_goals
   try simp only[aQ,cD,cw,ct,cf,cN,cK]
   go_wp2;go_ret;rw[c.out];exact⟨rfl,D⟩
 have d3:(t.op==3)=aL:=by simpa using U
 by_cases V:t.op=4
 .clear Q d2 d3;have G:bB t.kids=2:=by simpa[Hd,V] using I
  have l:=k bO;obtain⟨p,q,rfl⟩:∃p q,args=[p,q]:=by
   match args,(show bB args=2 by omega) with
   | [p,q],_=>exact⟨p,q,rfl⟩
  obtain⟨g,a,rfl,u⟩:=fS 0 p rfl;let⟨F,d,E,hd⟩:=fS 1 q rfl;obtain⟨rfl,rfl⟩:g=F∧a=d:=by simpa using E
  rw[V] at c0;have y:cz w g a (iz p):=u;have z:=r p bQ;have H:=r q bQ;have wp:IntKind.i64.wrap (-p)=-p:=aew
  have wq:IntKind.i64.wrap (-q)=-q:=aew
  have C:=λm=>N.out m (p) (-q) bO bO;have c:Hid (mr (mA ps) t [p,q] st=(-(Cn.both (p) (-q) st).1,(Cn.both (p) (-q) st).2)):=cG
  have wx:IntKind.i64.wrap (-(Cn.both (p) (-q) st).1)=-(Cn.both (p) (-q) st).1:=DV _ _ (Z.out _ _) hs;generalize(Cn.both (p) (-q) st).1=bx at *;generalize(Cn.both (p) (-q) st).2=P at *
  go_wp2_with(go_at_call 137;refine A.mono ?_;rintro e M ⟨rfl,rfl⟩)
  go_region_with(go_at_call 158;refine(C 1).mono ?_;rintro e w3 ⟨rfl,D⟩)
  all_goals
   try simp only[aQ,cD,cw,ct,cf,cN,cK]
   go_wp2;go_ret;rw[c.out];exact⟨rfl,D⟩
 have d4:(t.op==4)=aL:=by simpa using V
 have c:Hid (mr (mA ps) t args st=((mA ps (t.x,t.y):Int),st)):=cG
 generalize mA ps (t.x,t.y)=np at *
 go_wp2_with(go_at_call 137;refine A.mono ?_;rintro e M ⟨rfl,rfl⟩)
 go_region_with fail
 all_goals
  try simp only[aQ,cD,cw,ct,cf,cN,cK]
  go_wp2;go_ret;rw[c.out];exact⟨rfl,_,_,HM.out 1⟩
theorem Ui(l:List (Int×Int))(i):(oV l)[i*2]?=(l[i]?).map (λp=>aS .i64 p.1)∧(oV l)[i*2+1]?=(l[i]?).map (λp=>aS .i64 p.2):=by
 induction l generalizing i with
 |nil=>simp[oV]
 |cons t l a=>
  cases i with
  |zero=>simp[oV]
  |succ i=>grind[oV]
variable{p:Int×Int}
theorem Pz{q:aE}{l:List (Int×Int)}(h:bD W base q 2 v (bB l) (oV l))(k:l[i]?=ah p):
  ∃g a,v=aj (ah ⟨g,0,ai⟩) (bB l) a∧base<=g∧bB l<=a∧aU W ⟨g,i*2,ai⟩=ah (ae af p.1)∧aU W ⟨g,i*2+1,ai⟩=ah (ae af p.2):=by
 have o:=(bU.1 k).1;obtain⟨e,D⟩|⟨g,a,c,e,r,y,z,A,C,d⟩:=h.2
 .omega
 have get:∀j u,(oV l)[j]?=ah u->c[j]?=ah u:=λj u b=>by
  rw[<-d,List.getElem?_take] at b
  split at b
  .simpa using b
  cases b
 grind[aU,Ui]
def Cl2(w:ay)(ca:Option aD)(cs:List (List Int)):Prop:=
 cs=[]∨∃g off,ca=ah ⟨g,off,ai⟩∧∀(i:Nat)(c:List Int),cs[i]?=ah c->∃a cap,aU w ⟨g,off+i,ai⟩=ah (aj a (bB c) cap)∧oY w a c
attribute [local go_sem] Eb Br
def Sn(w:ay)(op x y:Int)(kv:aA):ay:=
 bC (bC (bC w (aq #[ae af op,ae af x,ae af y,kv] 36)) (.map #[] 0)) (aq #[.map (ah (w.heap.size+1)),ae af 0,aj ai 0 0] 226)
structure ClS(w W:ay)(t:Lf)(u:aA)(ps:List (Int×Int))(i:Nat):Prop where
 below:aC w.heap.size w W
 here:jS W t
 zJ:Mk (λk=>k=w.heap.size+2∨k=w.heap.size+1) W (w.heap.size+2) (w.heap.size+1) (ps.take i) (aj ai 0 0) (i,[])
 row:bD W (w.heap.size+3) 34 2 u (bB ps) (oV ps)
theorem abA(w op x y kv){kids}(b:nk kv kids)(l:∀k∈kids,jS w k):
  aC w.heap.size w (Sn w op x y kv)∧jS (Sn w op x y kv) (.mk w.heap.size 0 op x y kv kids)∧(Sn w op x y kv).heap.size=w.heap.size+3∧
  Mk (λk=>k=w.heap.size+2∨k=w.heap.size+1) (Sn w op x y kv) (w.heap.size+2) (w.heap.size+1) [] (aj ai 0 0) (0,[]):=by
 have q:(bC w (aq #[iz op,iz x,iz y,kv] 36)).heap.size=w.heap.size+1:=bQ
 have r:(bC (bC w (aq #[iz op,iz x,iz y,kv] 36)) (.map #[] 0)).heap.size=w.heap.size+2:=bQ
 have u:aC w.heap.size w (Sn w op x y kv):=(((cW _ w).alloc (bT _) _).alloc bQ _).alloc bX _;have K:iH (λk=>k<w.heap.size) w (Sn w op x y kv):=λk _ _ o b=>(u.block k o).trans b;have a:(Sn w op x y kv).heap.size=w.heap.size+3:=by simp[Sn]
 refine⟨u,vW.mk trivial ?_ b λk d=>?_,a,λk b=>by rw[a];omega,cB rfl,cI rfl,by simp[aP],?_,?_,[],eR _ _ _ _,⟨rfl,λi j g n m c z e=>by simp at e⟩,by simp⟩
 .refine⟨#[iz op,iz x,iz y,kv],(0,0),?_,rfl,rfl,rfl,rfl,rfl⟩;grind[Sn,Below.heap_alloc,World.alloc_heap_new]
 .exact((l k d).lt.mono λ_ h=>h.2).keep K |>.mono λ_ _=>trivial
 .have:=ey (bC (bC w (aq #[iz op,iz x,iz y,kv] 36)) (.map #[] 0)) #[.map (ah (w.heap.size+1)),iz 0,aj ai 0 0] 226;rw[r] at this;refine eO this λj A=>?_;have:j=0∨j=1∨j=2:=bO
  obtain rfl|rfl|rfl:=this<;>rfl
 have:=pP.new (bC w (aq #[iz op,iz x,iz y,kv] 36));rw[q] at this;refine this.keep ?_;unfold Sn;rw[dB _ _ _ bQ]
theorem aau(h:Aj t.er):Hd t=aK:=by
 cases t with
 |mk b o op x y kv kids=>
  rw[Lf.er] at h;have hl:bB kids=bB (kids.map Lf.er):=bQ
  unfold Hd;simp only[Lf.op,Lf.kids];rw[hl];generalize kids.map Lf.er=ks at h;cases h with
  |eq=>simp
  |neg=>simp
  |two o f g a=>grind
variable{O:Obj}
theorem ClS.next{w5 w6:ay}{u:aA}(h:ClS w W t u ps i)(hp:ps[i]?=ah p)(m)(l:Mk (λk=>k=w.heap.size+2∨k=w.heap.size+1) w5 (w.heap.size+2) (w.heap.size+1) (ps.take i) (aj ai 0 0) (i+1,[]))(y:bI (λk=>k=w.heap.size+2) (bF (bC W O) m) w5)(z:pP w6 (w.heap.size+1) (ps.take i++[p]))(d:dV (w.heap.size+1) w5 w6):ClS w w6 t u ps (i+1):=by
 have q:ps.take (i+1)=ps.take i++[p]:=by rw[dJ,hp];rfl
 have o:bI (λk=>k=w.heap.size+2) W w5:=(((bW _ W).alloc O).drewN m).trans y;have nb:∀k,k<W.heap.size->k≠w.heap.size+2->k≠w.heap.size+1->w6.heap[k]?=W.heap[k]?:=λk a E F=>(d.block k (cQ a o.size) F).trans (o.block k a E);refine⟨h.below.trans ⟨d.os.trans o.os,d.tape.trans o.tape,d.output.trans o.output,bZ o.size d.size,λk a=>nb k (cQ a h.below.size) bO bO⟩,h.here.keep λk c J _ a=>?_,?_,mg h.row λb r=>?_⟩
 .refine(nb k (bY.1 a).1 ?_ ?_).trans a
  .rintro rfl;let⟨A,L,_⟩:=h.zJ.cells;grind
  rintro rfl;let⟨es,G,e⟩:=h.zJ.map.lt;rw[e] at a;cases a
 .rw[q];have kb:w6.heap[w.heap.size+2]?=w5.heap[w.heap.size+2]?:=d.block _ (l.lt _ l.Nt) bO;refine⟨λk a=>cQ (l.lt k a) d.size,l.Nt,l.XY,l.Po,l.cells.of_block kb,z,[],eR _ _ _ _,⟨rfl,λi j g n m c A e=>by simp at e⟩,by simp⟩
 obtain⟨e,_⟩|⟨g,C,D,e,H,I,_⟩:=h.row.2
 .rw[e] at r;simp[aP] at r
 grind[aP]
theorem Mk.cl2{a:Option aD}{len d:Nat}(h:Mk S W mb ab ps (aj a len d) st):len=st.2.length∧Cl2 W a st.2:=by
 let⟨C,k,j,q⟩:=h.rows;obtain⟨e,A⟩|⟨g,c,o,e,_⟩:=id k.2
 .simp at e;have j:=j.1;have:st.2=[]:=rC.1 bO;exact⟨by omega,cB this⟩
 simp at e;obtain⟨rfl,rfl,rfl⟩:=e;refine⟨j.1,cI ⟨g,0,rfl,λi c r=>?_⟩⟩;let⟨z,b,l,_,y⟩:=q i c r;have u:=(bU.1 l).1;exact⟨_,b,by rw[fM,k.cellAt i bO];exact l,y.cls⟩
def Ky(B:Nat)(W:ay)(v:aA)(cs:List (List Int)):Prop:=∃rs:List aA,bD W B 39 1 v (bB rs) rs∧(bB rs=bB cs∧Kv rs)∧∀(i:Nat)(c:List Int),cs[i]?=ah c->∃g cap,rs[i]?=ah (aj (ah ⟨g,0,ai⟩) (bB c) cap)∧B<=g∧Rw W g c
theorem Mk.acQ(h:Mk S W mb ab ps rv st)(o:∀k,S k->B<=k):Ky B W rv st.2:=by
 let⟨q,d,l,r⟩:=h.rows;refine⟨q,⟨d.1,?_⟩,l,λi c u=>?_⟩
 .obtain e|⟨g,a,b,e,_,j⟩:=d.2
  .exact cB e
  exact cI ⟨g,a,b,e,o g (h.Po g (by rw[e];rfl)),j⟩
 grind
theorem RC(l:List (Int×Int)):(lC l).Nodup:=by
 refine Ax (P:=λl=>(lC l).Nodup) ?_ ?_ l
 .simp[lC]
 grind[lC]
theorem Me{c:Type}{l:List c}(h:l.Nodup){p:c}(e:l[i]?=ah p):p∉l.take i:=by intro d;let⟨j,b⟩:=List.getElem?_of_mem d;have a:=(bU.1 b).1;rw[fB] at a;rw[List.getElem?_take,cY bO] at b;grind[List.getElem?_eq_some_iff,List.getElem_inj]
theorem Rt(w op x y ka kn kc t f)(X:t=.mk w.heap.size 0 op x y (aj ka kn kc) t.kids)(he:t.er=f)(Y:Hk w (.agg #[iz op,iz x,iz y,aj ka kn kc]) f)(hN:xj f<=1048576)(hR:RF f)(d:nk (aj ka kn kc) t.kids)(P:∀k∈t.kids,jS w k)(ps:List (Int×Int))(U:ps=lC (oU f))(a4:bB ps<=1048576)(R:Int×Sc)(a1:R.2.2.length<=1073741824)(FO:Hid (∀(W:ay)(u:aA),ClS w W t u ps (bB ps)->aB prog 119 #[pz w.heap.size,.func (.func 120) #[ak (ah ⟨w.heap.size+2,0,ai⟩)] #[]] W λe C=>e=aw (iz R.1)∧Made (λk=>k=w.heap.size+2∨k=w.heap.size+1) W C (w.heap.size+2) (w.heap.size+1) ps (aj ai 0 0) R.2)):
  aB prog 77 #[.agg #[iz op,iz x,iz y,aj ka kn kc]] w λe C=>∃ca cc,e=aw (.tuple #[.slice ca (bB (R.2.2++[[R.1]])) cc,iz R.2.1])∧Cl2 C ca (R.2.2++[[R.1]])∧Ky w.heap.size C (.slice ca (bB (R.2.2++[[R.1]])) cc) (R.2.2++[[R.1]])∧aC w.heap.size w C:=by
 have ad:=@rA prog;let⟨Z,H3,Z3,M3⟩:=abA w op x y (aj ka kn kc) d P;rw[<-X] at H3;have AT:=EO (Sn w op x y (aj ka kn kc)) (Y.keep Z) bO hR;rw[<-U] at AT;have o:Hid (∀p∈ps,Hi p):=λp hp=>by grind[AJ,Gn,aae]
 have G:Hid (∀i p,ps[i]?=ah p->p∉ps.take i):=λi p hi=>by grind[oU,RC,Me]
 clear Y hN hR d P U he X;unfold Sn at *;go_enter func77,ntmps77
 go_wp2_with(go_at_call 78;refine AT.mono ?_;rintro e w4 ⟨u,rfl,R4,L⟩;let⟨ua,uc,hu⟩:=gU R4;subst hu;refine dM ?_);delta aH;generalize al:bC (bC (bC w (aq #[iz op,iz x,iz y,aj ka kn kc] 36)) (.map #[] 0)) (aq #[.map (ah (w.heap.size+1)),iz 0,aj ai 0 0] 226)=w3 at *;have S4:ClS w w4 t (aj ua (bB ps) uc) ps 0:=⟨Z.trans (L.mono Z.size),H3.keep λk _ _ _ d=>(L.block k (bY.1 d).1).trans d,M3.keep L.size λk d=>L.block k (M3.lt k d),Z3▸R4⟩
 clear al AT Z H3 Z3 M3 R4 L ad;apply_assumption
 go_wp2;rw[show w.heap.size+1+1=w.heap.size+2 from rfl]
 go_loopw[12] (λI W=>∃i:Nat,i<=bB ps∧I=iz i∧Hid (ClS w W t (aj ua (bB ps) uc) ps i)) λI _=>bB ps-(intOf I).toNat
 case atStart=>exact⟨0,by omega,rfl,S4⟩
 case round=>
  obtain⟨i,hi,rfl,l⟩:=hrel;clear S4;by_cases N:i<bB ps
  .have di:=bM i (bB ps);have r:ps[i]?=ah ps[i]:=bP N;let⟨g,gc,Y,a2,_,q0,q1⟩:=Pz l.out.row r;simp only[fL,mC] at Y;obtain⟨rfl,rfl⟩:=Y;have Q:=o.out _ (cH r);have T:=G.out i _ r;have HN:Hid (∀{w5 w6:ay}{O:Obj}(m:Nat),_->_->_->_->ClS w w6 t (aj (ah (az g 0)) (bB ps) uc) ps (i+1)):=λ{w5 w6 O} m=>l.out.next (w5:=w5) (w6:=w6) (O:=O) r m;generalize ps[i]=p at *;obtain⟨p1,p2⟩:=p;simp only at q0 q1;have V:∀(O:Obj)(m:Nat),aB prog 117 #[ak (ah ⟨w.heap.size+2,0,ai⟩)] (bF (bC wr O) m) λe C=>e=aw (iz ((i+1:Nat):Int))∧Mk (λk=>k=w.heap.size+2∨k=w.heap.size+1) C (w.heap.size+2) (w.heap.size+1) (ps.take i) (aj ai 0 0) (i+1,[])∧bI (λk=>k=w.heap.size+2) (bF (bC wr O) m) C:=λO m=>zu (i,[]) (l.out.zJ.keep bQ λk d=>dB wr O k (l.out.zJ.lt k d)) bX;have cm:aU wr ⟨w.heap.size+2,0,ai⟩=ah (.map (ah (w.heap.size+1))):=l.out.zJ.cells.cell (i:=0) bO;have a3:=l.out.zJ.cells.lt;have F:bB (ps.take i)=i:=cG
   have ME:Hid (∀w5:ay,Mk (λk=>k=w.heap.size+2∨k=w.heap.size+1) w5 (w.heap.size+2) (w.heap.size+1) (ps.take i) (aj ai 0 0) (i+1,[])->∃M,(Instr.mapUpdate 113 (.map (ah (w.heap.size+1))) (.agg #[iz p1,iz p2]) (iz ((i:Int)+1))).run prog w5=.ok () M∧pP M (w.heap.size+1) (ps.take i++[(p1,p2)])∧dV (w.heap.size+1) w5 M∧aU w5 ⟨w.heap.size+2,0,ai⟩=ah (.map (ah (w.heap.size+1)))):=λw5 E=>by let⟨M,h1,h2,h3⟩:=E.map.store Q T (by rw[F];omega);rw[F,show((i+1:Nat):Int)=(i:Int)+1 by omega] at h1;exact⟨M,h1,h2,h3,E.cells.cell (i:=0) bO⟩
   have CP:Hid (∀(O:Obj)(m:Nat)(w5:ay)(a b:aA),O=aq #[a,b] 34->bI (λk=>k=w.heap.size+2) (bF (bC wr O) m) w5->cz w5 wr.heap.size 0 a∧cz w5 wr.heap.size 1 b):=λO m w5 a b hO K=>by have hb:w5.heap[wr.heap.size]?=(bC wr O).heap[wr.heap.size]?:=K.block _ (by simp[bF]) bO;have hn:=ey wr #[a,b] 34;rw[hO] at hb;exact⟨(cL (a:=az wr.heap.size 0) hb).trans (hn.cell (i:=0) bQ),(cL (a:=az wr.heap.size 1) hb).trans (hn.cell (i:=1) bQ)⟩
   clear l o G FO Q T F;have V1:=V (aq #[iz p1,iz p2] 34) 1;have a7:IntKind.i64.wrap ((i:Int)+1)=(i:Int)+1:=aew
   clear V
   go_wp2
   go_region_with(go_at_call 117;refine V1.mono ?_;rintro e w5 ⟨rfl,E,z⟩;let⟨w6,hU,aa,D,a0⟩:=ME.out w5 E;let⟨e0,e1⟩:=CP.out _ 1 w5 _ _ rfl z)
   all_goals
    try simp only[aQ,cD,cw,ct,cf,cN,cK]
    go_wp2;exact⟨⟨i+1,N,by simp,HN.out 1 E z aa D⟩,by simp[intOf];omega⟩
  have di:=bN i (bB ps);obtain rfl:i=bB ps:=bO
  have F1:=FO.out wr _ l.out;have HB:Hid (aC w.heap.size w wr∧_):=b9 l.out.below l.out.zJ;clear l o G FO
  go_wp2_with(go_at_call 119;refine F1.mono ?_;rintro e w5 ⟨rfl,E⟩;refine dM ?_);delta aH;obtain⟨S5,ap,J⟩:=E;have Y5:=Made.say J.is bO 1 [R.1];have H5:Hid (∀k,aP ap=ah k->w.heap.size<=k):=λk d=>by
   obtain e|e:=J.at_
   .rw[e] at d;simp[aP] at d
   exact bZ HB.out.1.size (e k d)
  apply_assumption
  go_wp2_with(go_at_call 118;refine Y5.mono ?_;rintro e w6 ⟨rfl,M6⟩;refine dM ?_);delta aH;obtain⟨S6,a6,A⟩:=M6;let⟨H,r6,ac⟩:=A.is.rows;let⟨va,vc,ag⟩:=yH r6;subst ag;have c1:aU w6 ⟨w.heap.size+2,1,ai⟩=ah (iz R.2.1):=A.is.cells.cell (i:=1) bO;have c2:aU w6 ⟨w.heap.size+2,2,ai⟩=ah (aj va (bB H) vc):=A.is.cells.cell (i:=2) bO;let⟨q,j⟩:=A.is.cl2;have h:Ky w.heap.size w6 (aj va (bB H) vc) (R.2.2++[[R.1]]):=A.is.acQ λk d=>by
   have a5:=HB.out.1.size;obtain e|e:=A.new k d
   .obtain e'|e':=J.new k e
    .omega
    omega
   have:=J.kept.size;omega
  have HF:=bL (b9 q (b9 j (b9 J.kept (b9 A.kept h))));clear J A r6 q j Y5 F1 ac h;apply_assumption
  go_wp2;go_quiet(fail)
  go_wp2;let⟨q,j,z,D,h⟩:=HF.out;refine⟨rfl,.tuple #[aj va (bB H) vc,iz R.2.1],by simp[results,results77],?_⟩;refine⟨va,vc,by rw[q],?_,?_,?_⟩
  .obtain e|⟨g,ao,h1,h2⟩:=j
   .exact cB e
   exact cI ⟨g,ao,h1,h2⟩
  .rw[q] at h;exact h
  have B5:aC w.heap.size w w5:=HB.out.1.trans ⟨z.os,z.tape,z.output,z.size,λk d=>z.block k (cQ d HB.out.1.size) (by grind[aP])⟩;refine(B5.trans ⟨D.os,D.tape,D.output,D.size,λk d=>D.block k (cQ d B5.size) ?_⟩).trans ⟨rfl,rfl,rfl,bT _,λ_ _=>rfl⟩;rintro(e|e)
  .omega
  have:=H5.out k e;omega
def wO(l:List Int):List aA:=l.map λc=>aS .i64 c
def Vl:(prog.info? 3).map (λi=>(i.zero,i.size,i.bytes))=ah (ah (iz 0),1,8):=bV
theorem Mk.ow(h:Mk S W mb ab ps rv st)(a:Ow 335 B W W')(d:ab<B):Mk S W' mb ab ps rv st:=by
 let⟨E,j,l,o⟩:=h.rows;refine⟨λk r=>cQ (h.lt k r) a.size,h.Nt,h.XY,h.Po,a.rowIs bS h.cells,h.map.keep ?_,E,a.ownsRow bS j,l,λi c q=>?_⟩
 .let⟨es,G,e⟩:=h.map.lt;rw[e];exact a.same _ _ e (cB d)
 let⟨g,b,u,y,z⟩:=o i c q;obtain⟨N,F,A,C,D⟩:=z;exact⟨g,b,u,y,N,F,A,a.rowIs bS C,D⟩
structure zl(w W:ay)(t:Lf)(fv v:aA)(mb ab:Nat)(ps:List (Int×Int))(rv0:aA)(S0 S:Nat->Prop)(rv:aA)(s:List Int×Sc):Prop where
 made:mY S0 w rv0 S W rv mb ab ps s.2
 lo:mb<w.heap.size∧ab<w.heap.size
 here:jS W t
 fn:bE W w.heap.size 229 1 (λ_=>fv)
 box:bE W (w.heap.size+1) 39 1 (λ_=>v)
 row:bD W w.heap.size 3 1 v s.1.length (wO s.1)
 sep:∀k,S k->k≠w.heap.size∧k≠w.heap.size+1∧aP v≠ah k
theorem mY.ow(h:mY S w rv S' W rv' mb ab ps st)(a:Ow 335 B W W')(j:w.heap.size<=B)(c:ab<w.heap.size):mY S w rv S' W' rv' mb ab ps st:=by
 refine⟨h.is.ow a bO,h.new,h.at_,⟨a.os.trans h.kept.os,a.tape.trans h.kept.tape,a.output.trans h.kept.output,bZ h.kept.size a.size,λk e g=>?_⟩⟩;have b:=h.kept.block k e g;rw[<-b];cases d:W.heap[k]? with
 |none=>grind
 |some o=>exact a.same k o d (cB bO)
variable{s:List Int×Sc}
def zl.ow(h:zl w W t fv v mb ab ps rv0 S0 S rv s)(a:Ow 335 B W W')(b:w.heap.size<=B):zl w W' t fv v mb ab ps rv0 S0 S rv s:=
 ⟨h.made.ow a b h.lo.2,h.lo,h.here.keep (a.fG.yq _),a.rowIs bS h.fn,a.rowIs bS h.box,a.ownsRow bS h.row,h.sep⟩
theorem Jt{g c:Nat}{a:List Int}(h:bD W base 3 1 (aj (ah (az g 0)) n c) n (wO a))(l:n=bB a)(d):GW W (aj (ah (az g m)) (n-m) d) (a.drop m):=by refine⟨_,d,by rw[tH,l],cI ⟨g,m,rfl,λj b e=>?_⟩⟩;rw[lS] at e;have k:=(bU.1 e).1;have:=h.cellAt (m+j) bO;grind[wO]
theorem zl.push{w8:ay}{v8:aA}{r:Int}(h:zl w W t fv v mb ab ps rv0 S0 S rv s)(X:mY S W rv S' w7 rv' mb ab ps st')(hm:m<=s.1.length)(F:bD w8 w.heap.size 3 1 v8 (m+1) ((wO s.1).take m++[iz r]))(b:bH (bC w7 O) w8 (aP v))(D:aP v8=aP v∨∀k,aP v8=ah k->(bC w7 O).heap.size<=k)(B):
  zl w (aW w8 ⟨w.heap.size+1,0,ai⟩ v8) t fv v8 mb ab ps rv0 S0 S' rv' (s.1.take m++[r],st')∧Kr KZ B W (aW w8 ⟨w.heap.size+1,0,ai⟩ v8):=by
 have Q:∀k,aP v=ah k->w.heap.size<=k∧k<W.heap.size∧∃c,W.heap[k]?=ah (aR c 3 (0,0)):=λk a=>by
  obtain⟨e,_⟩|⟨g,N,P,e,I,J,_⟩:=h.row.2
  .rw[e] at a;simp[aP] at a
  grind[aP]
 have G:∀k,aP rv=ah k->S k∧∃c,W.heap[k]?=ah (aR c 39 (0,0)):=λk a=>by
  refine⟨h.made.is.Po k a,?_⟩;let⟨rs,A,_⟩:=h.made.is.rows;obtain⟨e,_⟩|⟨g,N,P,e,I,J,_⟩:=A.2
  .rw[e] at a;simp[aP] at a
  grind[aP]
 have ag:W.heap.size<=w7.heap.size:=X.kept.size;have al:w7.heap.size<w8.heap.size:=by have:=b.size;simp at this;omega
 have ad:(aW w8 ⟨w.heap.size+1,0,ai⟩ v8).heap.size=w8.heap.size:=by simp[aW]
 have H:∀k,k<w7.heap.size->aP v≠ah k->k≠w.heap.size+1->(aW w8 ⟨w.heap.size+1,0,ai⟩ v8).heap[k]?=w7.heap[k]?:=λk a A L=>
  (cO _ _ _ _ L).trans ((b.block k bX λe=>A e.symm).trans (dB w7 O k a))
 have st:∀k,k<W.heap.size->k≠mb->aP rv≠ah k->aP v≠ah k->k≠w.heap.size+1->(aW w8 ⟨w.heap.size+1,0,ai⟩ v8).heap[k]?=W.heap[k]?:=λk a A L h3 h4=>
  (H k bO h3 h4).trans (X.kept.block k a cG)
 have Nt:=h.made.is.Nt;have Y:∃c,W.heap[mb]?=ah (aR c 226 (0,0)):=by let⟨c,d,_⟩:=h.made.is.cells;exact⟨c,d⟩
 have ao:∃c,W.heap[w.heap.size+1]?=ah (aR c 39 (0,0)):=by let⟨c,d,_⟩:=h.box;exact⟨c,d⟩
 have nm:∀(k:Nat)(o:Obj),W.heap[k]?=ah o->(o.isCells=aL∨GQ (λt=>t≠3∧t≠39∧t≠226) o)->(aW w8 ⟨w.heap.size+1,0,ai⟩ v8).heap[k]?=ah o:=λk o a E=>by
  have no:∀{c:Array aA}{y:aE}{z:Nat×Nat},W.heap[k]?=ah (aR c y z)->(y=3∨y=39∨y=226)->False:=λ{c y z} d ht=>by
   rw[a] at d;cases d
   obtain E|⟨c',ap,aa,e,I,J,e3⟩:=E
   .cases E
   cases e
   obtain rfl|rfl|rfl:=ht
   .exact I rfl
   .exact J rfl
   exact e3 rfl
  refine(st k (bY.1 a).1 ?_ ?_ ?_ ?_).trans a
  .rintro rfl;obtain⟨c,d⟩:=Y;exact no d (cI (cI rfl))
  .intro e;let⟨_,c,d⟩:=G k e;exact no d (cI (cB rfl))
  .intro e;let⟨_,_,c,d⟩:=Q k e;exact no d (cB rfl)
  grind
 have U:aP v≠ah (w.heap.size+1):=dY h.box bS h.row;have q:bE w7 (w.heap.size+1) 39 1 (λ_=>v):=h.box.of_block (X.kept.block _ h.box.lt (by
  rintro(e|e)
  .grind
  exact(h.sep _ (G _ e).1).2.1 rfl))
 have C:bE w8 (w.heap.size+1) 39 1 (λ_=>v):=q.of_block ((b.block _ (by simp;have:=q.lt;omega) λe=>U e.symm).trans (dB w7 O _ q.lt));have Z:aP v8≠ah (w.heap.size+1):=dY C bS F;have I:wO (s.1.take m++[r])=(wO s.1).take m++[iz r]:=by simp[wO,zn]
 have J:bB (s.1.take m++[r])=m+1:=bX
 have u:∀k,S' k->(aW w8 ⟨w.heap.size+1,0,ai⟩ v8).heap[k]?=w7.heap[k]?:=λk a=>by
  refine H k (X.is.lt k a) ?_ ?_
  .obtain e|e:=X.new k a
   .exact(h.sep k e).2.2
   grind
  obtain e|e:=X.new k a
  .exact(h.sep k e).2.1
  grind
 refine⟨⟨⟨X.is.keep bO u,λk a=>?_,?_,?_⟩,h.lo,?_,?_,?_,?_,λk a=>?_⟩,⟨by omega,λk o a E=>nm k o a (E.imp (λx=>x.2) ?_)⟩⟩
 .obtain e|e:=X.new k a
  .exact h.made.new k e
  grind
 .obtain e|e:=X.at_
  .rw[e];exact h.made.at_
  grind
 .have M:(aW w8 ⟨w.heap.size+1,0,ai⟩ v8).os=w.os∧(aW w8 ⟨w.heap.size+1,0,ai⟩ v8).tape=w.tape∧(aW w8 ⟨w.heap.size+1,0,ai⟩ v8).output=w.output:=⟨b.os.trans (X.kept.os.trans h.made.kept.os),b.tape.trans (X.kept.tape.trans h.made.kept.tape),b.output.trans (X.kept.output.trans h.made.kept.output)⟩
  refine⟨M.1,M.2.1,M.2.2,by have:=h.made.kept.size;omega,λk a T=>?_⟩;have R:k<W.heap.size:=cQ a h.made.kept.size;refine(st k R (λe=>T (cB e)) ?_ ?_ bO).trans (h.made.kept.block k a T)
  .intro e;obtain l|l:=h.made.at_
   .exact T (cI (by rw[<-l];exact e))
   have:=l k e;omega
  grind
 .exact h.here.keep (λk c z _ a=>nm k _ a (cI ⟨c,_,z,rfl,by decide,by decide,by decide⟩))
 .let⟨c,A,L⟩:=h.fn;exact⟨c,nm _ _ A (cI ⟨c,_,_,rfl,by decide,by decide,by decide⟩),L⟩
 .exact eO (C.set 0 v8) (λj hj=>by grind)
 .grind[wO,ownsRow_setCell_other]
 .have ac:=X.is.lt k a;refine⟨?_,?_,?_⟩
  .obtain e|e:=X.new k a
   .exact(h.sep k e).1
   grind
  .obtain e|e:=X.new k a
   .exact(h.sep k e).2.1
   grind
  obtain e|e:=D
  .rw[e];obtain l|l:=X.new k a
   .exact(h.sep k l).2.2
   grind
  intro l;have:=e k l;simp at this;omega
 rintro⟨c,y,z,e,V⟩;refine⟨c,y,z,e,?_⟩;obtain rfl|rfl|rfl|rfl|rfl:=V<;>exact⟨by decide,by decide,by decide⟩
attribute [local go_sem] ij
theorem zl.after(h:zl w W t fv v mb ab ps rv0 S0 S rv s)(X:mY S W rv S' w7 rv' mb ab ps st'):
  bD w7 w.heap.size 3 1 v s.1.length (wO s.1)∧bE w7 (w.heap.size+1) 39 1 (λ_=>v):=by
 have Nt:=h.made.is.Nt;have Po:=h.made.is.Po;refine⟨mg h.row λb a=>X.kept.block b ?_ ?_,h.box.of_block (X.kept.block _ h.box.lt ?_)⟩
 .obtain⟨e,_⟩|⟨g,c,d,e,j,k,_⟩:=h.row.2
  .rw[e] at a;simp[aP] at a
  grind[aP]
 .rintro(e|e)
  .subst e;exact(h.sep _ Nt).2.2 a
  exact(h.sep _ (Po b e)).2.2 a
 rintro(e|e)
 .exact(h.sep mb Nt).2.1 e.symm
 exact(h.sep _ (Po _ e)).2.1 rfl
theorem VD{w}{t}(an:Int×Int->Nat)(n){S0}(mb ab)(rv0)(ht:jS w t)(hN:bB (wk t 0)*16<=140737488355328)(hm:Mk S0 w mb ab ps rv0 (n,[]))(hV:∀W S rv i x sv args,(es t)[i]?=ah x->Mk S W mb ab ps rv (o7 an t n i).2->jS W x->args=(o7 an t n i).1.drop ((o7 an t n i).1.length-bB x.ks)->GW W sv args->bB args=bB x.ks->aB prog 120 #[pz mb,ak (ah (az x.b x.o)),sv] W λe P=>e=aw (iz (mr an x args (o7 an t n i).2).1)∧Made S W P mb ab ps rv (mr an x args (o7 an t n i).2).2)(r st')(a1:o7 an t n (bB (es t))=([r],st')):
  aB prog 119 #[ak (ah (az t.b t.o)),.func (.func 120) #[pz mb] #[]] w λe P=>e=aw (iz r)∧Made S0 w P mb ab ps rv0 st':=by
 refine(gi (n:=9)).1 ?_;refine callsIn_of_wp_marks func119 rfl trivial ?_ rfl;simp only[ntmps119,fU,ed,dQ,Nat.reduceAdd,Nat.reduceSub,fP,fO,gr,fV,ff,eU]
 gi_wp2_with(first|(refine⟨trivial,?_⟩;gi_at_call 155;refine(gi.2 (vJ _ _)).mono ?_;rintro e w5 ⟨rfl,rfl⟩)|(gi_at_call 155;refine(gi.2 (vJ _ _)).mono ?_;rintro e w5 ⟨rfl,rfl⟩))
 have one:∀(w:ay)(v:aA)(ty:aE),bE (bC w (aq #[v] ty)) w.heap.size ty 1 (λ_=>v):=λw v ty=>eO (ey w #[v] ty) (λj hj=>by grind)
 have keep:∀{w:ay}{b n:Nat}{f:Nat->aA}{ty:aE}(o:Obj),bE w b ty n f->bE (bC w o) b ty n f:=λ{w b n f ty} o h=>h.of_block ((dD (bW (λ_=>False) w) o).block b (dO h) λe=>e);have J:(bC w (aq #[.func (.func 120) #[pz mb] #[]] 229)).heap.size=w.heap.size+1:=bQ
 have L:(bC (bC w (aq #[.func (.func 120) #[pz mb] #[]] 229)) (aq #[aj ai 0 0] 39)).heap.size=w.heap.size+2:=bQ
 have K3:dG w (bC (bC (bC w (aq #[.func (.func 120) #[pz mb] #[]] 229)) (aq #[aj ai 0 0] 39)) (aq #[ak (ah (az t.b t.o))] 161)):=(((bW _ w).alloc _).alloc _).alloc _;have F3:zl w (bC (bC (bC w (aq #[.func (.func 120) #[pz mb] #[]] 229)) (aq #[aj ai 0 0] 39)) (aq #[ak (ah (az t.b t.o))] 161)) t (.func (.func 120) #[pz mb] #[]) (aj ai 0 0) mb ab ps rv0 S0 S0 rv0 ([],(n,[])):=
  ⟨Dp hm K3,⟨hm.lt _ hm.Nt,hm.lt _ hm.XY⟩,ht.keep ((((gG 0 w _).trans (gG 0 _ _)).trans (gG 0 _ _)).yq _),keep _ (keep _ (one w _ _)),keep _ (J▸one _ (aj ai 0 0) 39),eR _ _ _ _,λk V=>⟨by have:=hm.lt k V;omega,by have:=hm.lt k V;omega,by simp[aP]⟩⟩
 have b3:bE (bC (bC (bC w (aq #[.func (.func 120) #[pz mb] #[]] 229)) (aq #[aj ai 0 0] 39)) (aq #[ak (ah (az t.b t.o))] 161)) (w.heap.size+2) 161 1 (λ_=>ak (ah (az t.b t.o))):=L▸one _ (ak (ah (az t.b t.o))) 161;have be:(bC (bC (bC w (aq #[.func (.func 120) #[pz mb] #[]] 229)) (aq #[aj ai 0 0] 39)) (aq #[ak (ah (az t.b t.o))] 161)).heap.size=w.heap.size+3:=bQ
 rw[show w.heap.size+1+1=w.heap.size+2 from rfl];clear K3;generalize(bC (bC (bC w (aq #[.func (.func 120) #[pz mb] #[]] 229)) (aq #[aj ai 0 0] 39)) (aq #[ak (ah (az t.b t.o))] 161))=w3 at F3 b3 be⊢;clear one keep J L;refine FD (by decide:1<=9) (gf:=195) (lb:=#[ak (ah ⟨w.heap.size+2,0,ai⟩)]) rfl (enters_of func195 bV rfl) (CY 8 bS (w.heap.size+2) b3 F3.here hN) (cW _ _) (λ_=>rfl)
  (λi W=>∃v S rv,zl w W t (.func (.func 120) #[pz mb] #[]) v mb ab ps rv0 S0 S rv (o7 an t n i))
  ?hI ?h0 (λx=>{tmps:=#[ak (ah (az t.b t.o)),.func (.func 120) #[pz mb] #[],aF,pz w.heap.size,iz 0,ak (ah ⟨w.heap.size+1,0,ai⟩),ak (ah (az x.b x.o)),aF,ak (ah (az t.b t.o)),.func (.func 195) #[] #[ak (ah ⟨w.heap.size+2,0,ai⟩)],ak (ah (az x.b x.o)),aF,aF,aF,aF,aF,aF,aF,aF,aF,aF,aF,aF,aF,aF,aF,aF,aF,aF,aF,aF],defers:=[]}) ?assign ?body ?done
 case hI=>rintro i A B ⟨v,S,rv,h⟩ hO;exact⟨v,S,rv,h.ow hO bO⟩
 case h0=>exact⟨_,_,_,F3⟩
 case assign=>
  intro l2 x G K hK;unfold VS
  gi_wp2
  exact hK
 case body=>
  rintro l2 i x G hx ch ⟨v,S,rv,h⟩;have a7:=Bz (an:=an) (n:=n) hx;have bx:=LB (an:=an) (n:=n) hx;have bj:(o7 an t n i).1.length<=i:=by rw[Fp];exact Aw _ t i
  have bc:=cH hx;have a4:=AU h.here bc;let⟨ka,kc,b6⟩:=vG a4;have KD:∀m,aB prog 156 #[ak (ah (az x.b x.o))] (bF G m) λe P=>e=aw (aj ka (bB x.ks) kc)∧P=bF G m:=λm=>by have:=AK (bF G m) (a4.keep (show iH _ G (bF G m) from λk c fz _ V=>V));grind
  let⟨va,Q,hv⟩:=yH h.row;subst hv;have c5:=h.box.cell (i:=0) bO;have b0:i<=8796093022208:=by grind[kV,wk,es]
  gi_wp2
  refine kT bV (by rintro⟨_,_,Z⟩;exact Z) ?_;refine uV G ?_;go_region_law(first|(refine pI jY ?_)|(go_simp;go_at_call 156;refine(KD 1).mono ?_;rintro e w5 ⟨rfl,rfl⟩));all_goals
   simp only[aQ,cD,cw,ct,cf,cN,cK]
   gi_wp2
   have g:zl w (bF G 1) t _ _ _ _ _ _ _ _ _ _:=h.ow (Se G 1) (bT _);have C:Kr KZ w3.heap.size G (bF G 1):=⟨bT _,λ_ _ Z _=>Z⟩
   clear c5 KD;generalize bF G 1=y at g C⊢;obtain⟨m,aa⟩:∃m,(o7 an t n i).1.length=m+bB x.ks:=⟨(o7 an t n i).1.length-bB x.ks,by omega⟩
   have a3:IntKind.i64.wrap (((o7 an t n i).1.length:Int)-(bB x.ks:Int))=(m:Int):=by grind[wrapped]
   simp only[a3];clear a3;have z:bB ((o7 an t n i).1.drop m)=bB x.ks:=cG
   have E:(o7 an t n i).1.length-bB x.ks=m:=bO
   have q:Hid (o7 an t n (i+1)=((o7 an t n i).1.take m++[(mr an x ((o7 an t n i).1.drop m) (o7 an t n i).2).1],(mr an x ((o7 an t n i).1.drop m) (o7 an t n i).2).2)):=by show _=_;rw[a7,zA,E]
   have I:jS y x:=AU g.here (cH hx);have c5:=g.box.cell (i:=0) bO;have c3:=g.fn.cell (i:=0) bO;let⟨i0,a0,a5,J,L⟩:=eB Vl;obtain⟨hv,ce⟩|⟨U,al,bo,hv,_⟩:=g.row.2
   .have ad:va=ai∧(o7 an t n i).1.length=0∧Q=0:=by simpa using hv
    obtain⟨rfl,ac,rfl⟩:=ad;obtain rfl:m=0:=bO
    have a9:bB x.ks=0:=bO
    have ap:(o7 an t n i).1.drop 0=[]:=cG
    have VC:∀M,aB prog 120 #[pz mb,ak (ah (az x.b x.o)),aj ai 0 0] (bF y M) λe P=>e=aw (iz (mr an x ((o7 an t n i).1.drop 0) (o7 an t n i).2).1)∧Made S y P mb ab ps rv (mr an x ((o7 an t n i).1.drop 0) (o7 an t n i).2).2:=λM=>(hV (bF y M) S rv i x _ _ hx (g.made.is.keep (bT _) λ_ _=>rfl) (I.keep (show iH _ y (bF y M) from λ_ _ _ _ V=>V)) (by rw[E]) ⟨ai,0,by rw[ap];rfl,cB ap⟩ z).mono (by rintro e P ⟨h3,S',rv',X⟩;exact⟨h3,S',rv',(Dp g.made.is ((bW _ y).drewN M)).trans X⟩)
    have H:Hid (∀w7 R u N,mY S y rv R w7 u mb ab ps N->bD w7 w.heap.size 3 1 (aj ai 0 0) 0 ((wO (o7 an t n i).1).take 0)∧aU w7 ⟨w.heap.size+1,0,ai⟩=ah (aj ai 0 0)∧bG w7 ⟨w.heap.size+1,0,ai⟩=aL∧w.heap.size+1<w7.heap.size∧w.heap.size<=w7.heap.size):=λw7 R u N T=>by let⟨_,l⟩:=g.after T;refine⟨by rw[sr];exact eR _ _ _ _,?_,l.frozen 0,l.lt,by have:=l.lt;omega⟩;have:=l.cell (i:=0) bO;rw[ac] at this;exact this
    rw[ac] at c5;have HH:Hid (_∧_):=⟨g,C⟩
    simp only[ac,a9];refine kT bV (by rintro⟨_,_,Z⟩;exact Z) ?_;refine uV y ?_;generalize hG:mr an x ((o7 an t n i).1.drop 0) (o7 an t n i).2=gv at VC q;go_region_law(first|(refine pI jY ?_)|(refine fe rfl (.tmp 19) (.tmp 26) 39 rfl w.heap.size 3 i0 _ 1 8 underlying39 a0 a5 J L rfl bS (aj ai 0 0) 0 ((wO (o7 an t n i).1).take 0) iC (by exact Y.alloc _) (az w7.heap.size 0) 1 1 [iz gv.1] iC rfl (cell_one_new _ _ _) cM cJ bO bX ?_;intro v8 w8 d a F;let⟨g8,ao,ag⟩:=ownsRow_succ d;subst ag;let⟨b8,f8⟩:=EJ b7 f7 z7 a)|(go_simp;go_at_call 120;refine(VC 1).mono ?_;rintro e w7 ⟨rfl,R,u,T⟩;let⟨Y,b7,f7,z7,bi⟩:=H.out w7 R u _ T));all_goals
     try simp only[aQ,cD,cw,ct,cf,cN,cK]
     gi_wp2
     let⟨g,C⟩:=HH.out;let⟨F',K'⟩:=zl.push g T bO d a F w3.heap.size;exact⟨C.trans K',_,_,_,q.out▸F'⟩
   have ad:va=ah (az U 0)∧Q=al:=by simpa using hv
   obtain⟨rfl,rfl⟩:=ad;obtain⟨so,a2⟩:∃so:Option aD,(if Q=m then ah (az U 0) else ah (az U m))=so:=⟨_,rfl⟩
   have BA:∀cc,GW y (aj so (bB x.ks) cc) ((o7 an t n i).1.drop m):=λcc=>by
    by_cases bb:Q=m
    .have h0:bB x.ks=0:=bO
     have h1:(o7 an t n i).1.drop m=[]:=eE (by rw[z,h0]);exact⟨so,cc,by rw[h1,h0];rfl,cB h1⟩
    rw[cC bb] at a2;have:=Jt (m:=m) g.row rfl cc;rw[aa,show m+bB x.ks-m=bB x.ks from by omega,a2] at this;exact this
   have VC:∀M,aB prog 120 #[pz mb,ak (ah (az x.b x.o)),aj so (bB x.ks) (Q-m)] (bF y M) λe P=>e=aw (iz (mr an x ((o7 an t n i).1.drop m) (o7 an t n i).2).1)∧Made S y P mb ab ps rv (mr an x ((o7 an t n i).1.drop m) (o7 an t n i).2).2:=λM=>(hV (bF y M) S rv i x _ _ hx (g.made.is.keep (bT _) λ_ _=>rfl) (I.keep (show iH _ y (bF y M) from λ_ _ _ _ V=>V)) (by rw[E]) (BA (Q-m)) z).mono (by rintro e P ⟨h3,S',rv',X⟩;exact⟨h3,S',rv',(Dp g.made.is ((bW _ y).drewN M)).trans X⟩)
   have H:Hid (∀w7 R u N,mY S y rv R w7 u mb ab ps N->bD w7 w.heap.size 3 1 (aj (ah (az U 0)) m Q) m ((wO (o7 an t n i).1).take m)∧aU w7 ⟨w.heap.size+1,0,ai⟩=ah (aj (ah (az U 0)) (m+bB x.ks) Q)∧bG w7 ⟨w.heap.size+1,0,ai⟩=aL∧w.heap.size+1<w7.heap.size∧w.heap.size<=w7.heap.size):=λw7 R u N T=>by let⟨ba,l⟩:=g.after T;refine⟨tj ba bO,?_,l.frozen 0,l.lt,by have:=l.lt;omega⟩;have:=l.cell (i:=0) bO;rw[aa] at this;exact this
   rw[aa] at c5;have HH:Hid (_∧_∧_∧_):=⟨g,C,I,BA⟩
   have a8:U≠w.heap.size+1:=λe=>dY g.box bS g.row (by simp[aP,e]);have cb:m<=8796093022208:=bO
   have cd:m<=Q:=bO
   have ca:m+bB x.ks-m=bB x.ks:=bO
   have bR:(m:Int)<=m+(bB x.ks:Int):=bO
   refine kT bV (by rintro⟨_,_,Z⟩;exact Z) ?_;refine uV y ?_;generalize hG:mr an x ((o7 an t n i).1.drop m) (o7 an t n i).2=gv at VC q;go_region_law(first|(refine pI jY ?_)|(refine fe rfl (.tmp 19) (.tmp 26) 39 rfl w.heap.size 3 i0 _ 1 8 underlying39 a0 a5 J L rfl bS (aj (ah (az U 0)) m Q) m ((wO (o7 an t n i).1).take m) iC (by exact Y.alloc _) (az w7.heap.size 0) 1 1 [iz gv.1] iC rfl (cell_one_new _ _ _) cM cJ bO bX ?_;intro v8 w8 d a F;let⟨g8,ao,ag⟩:=ownsRow_succ d;subst ag;let⟨b8,f8⟩:=J9 b7 f7 z7 a8 a)|(go_simp;go_at_call 120;refine(VC 1).mono ?_;rintro e w7 ⟨rfl,R,u,T⟩;let⟨Y,b7,f7,z7,bi⟩:=H.out w7 R u _ T));all_goals
    try simp only[aQ,cD,cw,ct,cf,cN,cK]
    gi_wp2
    let⟨g,C,_,_⟩:=HH.out;let⟨F',K'⟩:=zl.push g T bO d a F w3.heap.size;exact⟨C.trans K',_,_,_,q.out▸F'⟩
 case done=>
  rintro D W3 hD ⟨v,S,rv,h⟩ hK;rw[a1] at h;let⟨U,al,hv⟩:=ownsRow_succ (xs:=wO [r]) h.row;subst hv;have c5:=h.box.cell (i:=0) bO;have c6:cz W3 U 0 (iz r):=by have:=h.row.cellAt 0 bQ;simpa[wO] using this
  have a6:Hid _:=h.made.ow (pS (ty:=335) (B:=w.heap.size) (.deferred ai) bO hK rfl) (bT _) h.lo.2
  gi_wp2
  refine⟨by simp,.inl ⟨_,_,rfl,run_takeDeferred hK,?_⟩⟩;exact⟨_,GX rfl _ _ _,rfl,_,_,a6.out⟩
theorem Ni(w){v}{f}(l:Hk w v f)(a:Aj f)(hN:xj f<=1048576)(V:RF f)(ps:List (Int×Int))(ad:ps=lC (oU f))(ac:bB ps<=1048576)(R:Int×Sc)(A:R=Cn.jj (mA ps) f (bB ps,[])):
  aB prog 77 #[v] w λe q=>∃r J,e=aw (.tuple #[.slice r (bB (R.2.2++[[R.1]])) J,iz R.2.1])∧Cl2 q r (R.2.2++[[R.1]])∧Ky w.heap.size q (.slice r (bB (R.2.2++[[R.1]])) J) (R.2.2++[[R.1]])∧aC w.heap.size w q:=by
 have ag:=l;obtain⟨op,x,y,kv,kids,rfl,L,E,D⟩:=l;let⟨ka,kc,F,_⟩:=id L;subst F;obtain⟨t,H⟩:=bK (Lf.mk w.heap.size 0 op x y (aj ka (bB kids) kc) kids);have g:t.kids=kids:=by rw[H];rfl
 have d:t.er=f:=by rw[H,Lf.er,D]
 have I:t=.mk w.heap.size 0 op x y (aj ka (bB kids) kc) t.kids:=by rw[g];exact H
 rw[<-g] at L E;have j:t.b=w.heap.size∧t.o=0:=by rw[I];exact⟨rfl,rfl⟩
 have M:bB (es t)<=1048576:=by have P:bB (es t)<=bB (wk t 0):=ac2 kV (wk t 0);rw[Cr,d] at P;omega
 have FO:Hid (∀(W:ay)(u:aA),ClS w W t u ps (bB ps)->aB prog 119 #[pz w.heap.size,.func (.func 120) #[ak (ah ⟨w.heap.size+2,0,ai⟩)] #[]] W λe q=>e=aw (iz R.1)∧Made (λk=>k=w.heap.size+2∨k=w.heap.size+1) W q (w.heap.size+2) (w.heap.size+1) ps (aj ai 0 0) R.2):=λW u h=>by
  have N:=h.zJ;rw[fI] at N;have b:Aj t.er:=by rw[d];exact a
  have G:=Ta (mA ps) b (bB ps) λp _=>Yr ps p;have:=VD (mA ps) (bB ps) (w.heap.size+2) (w.heap.size+1) (aj ai 0 0) h.here (by rw[Cr,d];omega) N (λW' S rv i z sv args hz U T X Q C=>by
   have aa:=(bU.1 hz).1;let⟨o1,o2,o3,o4⟩:=G i bO;have o:=cH hz;exact Mo (w.heap.size+2) (w.heap.size+1) U bO bO T (aau (aad b t rfl z o)) (abo (by rw[d];exact V) z o) Q C λv l=>by rw[X] at l;have:=o1 v (List.mem_of_mem_drop l);omega) R.1 R.2 (by rw[XM _ b,d,<-A])
  rw[j.1,j.2] at this;exact this
 have Y:=Cn.D4 (mA ps) a (bB ps,[]);have Z:=Cn.JZ a;grind[Gv,Rt]
