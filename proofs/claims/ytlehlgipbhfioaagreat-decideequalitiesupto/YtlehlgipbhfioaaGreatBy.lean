import Derived.Test.YtlehlgipbhfioaaGreatBo
import Derived.Test.YtlehlgipbhfioaaGreatBs
import Derived.Test.YtlehlgipbhfioaaGreatBu
import Derived.Test.YtlehlgipbhfioaaGreatBx
namespace Go.Proofs.YtlehlgipbhfioaaGreat
set_option maxHeartbeats 12000000
set_option maxRecDepth 100000
set_option linter.all false
open Go.RowKit Go.Maps Go.Proofs.Tryz
open Go.Value renaming int->ae,slice->aj,pointer->ak,slice->aT,ownBlock->aP
open Go.IntKind renaming i64->af
open Go.Obj renaming cells->aq
open Go.Ending renaming returned->aw
open Option renaming some->ah,none->ai
open List renaming range->aO,replicate->aN,length->bB
open Go.World renaming frozen?->bG,alloc->bC,cell?->aU,rowIs->bE,ownsRow->bD,setCell->aW,drewN->bF,grownBy->bH
open Go.RowKit renaming Below->aC,intOf->aG
open Go renaming Calls->aB,World->ay,Aside->aH,results->aI,Value->aA,undef->aF,TypeId->aE,Addr->aD,maxLen->aY
open Go.Act renaming put->aQ
open Bool renaming true->aK,false->aL
open Decidable renaming decide->aM
section
theorem Rp{w}{base p}{ev}{nb fb}{l}(h:Bk w base p ev nb fb l)(hb:Cc.Bd l)(hl:bB l<=150){pb}(c0:cz w pb 0 (pz p)){L}(pc){ps}(hp:mB w (aj L (bB ps) pc) ps)(G:∀q∈ps,q.1<bB l∧q.2<bB l)(hn:bB ps<=1000000):
  aB prog 47 #[pz pb,aj L (bB ps) pc] w λe Y=>∃(g:Nat->Nat)(b:Nat),e=aw (aj (ah (az b 0)) (bB l) (bB l))∧w.heap.size<=b∧bE Y b 3 (bB l) (λi=>iz (g i:Int))∧(∀i j,i<bB l->j<bB l->(g i=g j↔Cc.Cg l ps i j))∧aC w.heap.size w Y:=by
 have KN:=AQ h hb hl;have HP:Hid (∀W:ay,bz w W->∀(j:Nat)(p:Pr),ps[j]?=ah p->∃b m,L=ah (az b m)∧aU W ⟨b,m+j*2,ai⟩=ah (iz p.1)∧aU W ⟨b,m+j*2+1,ai⟩=ah (iz p.2)):=λW K j p V=>by let⟨a,c,e,h⟩:=hp.below K;grind
 have E:=bL G;obtain⟨n,T⟩:=bJ (bB ps);rw[T] at hn⊢;have O:=bL T;go_enter func47,ntmps47
 go_wp2_with(go_at_call 5;refine KN.mono ?_;rintro e w1 ⟨c,rfl,o,K1⟩);have Z:Hid (∃d:Ks,d.pc=c.pc∧Cl w1 (hz w) l d (ps.take 0)∧bz w w1):=⟨c,rfl,by simpa using o,pA K1 (bT _) λ_ e=>e.elim⟩
 generalize c.pc=q at *
 go_loopw[15] (λr W=>∃i:Nat,i<=n∧r=iz i∧Hid (∃d:Ks,d.pc=q∧Cl W (hz w) l d (ps.take i)∧bz w W)) λr _=>n-(aG r).toNat
 case atStart=>grind
 case round=>
  obtain⟨i,U,rfl,M⟩:=hrel;by_cases z:i<n
  .have di:=bM i n;have aa:=fq (a:=i) bO;have u:i<bB ps:=by rw[O.out];exact z
   let⟨d,I,o,s⟩:=M.out;obtain⟨b,m,rfl,q1,q2⟩:=HP.out wr s i _ (bP u);have X:=E.out _ (dw u);have HS:Hid (ps.take (i+1)=ps.take i++[ps[i]]):=by show _=_;simp_all
   have y:bB (ps.take i)=i:=bX
   generalize ps[i]=x at *;obtain⟨x1,x2⟩:=x;have B:=o.dF (dD (bW _ wr) (aq #[iz x1,iz x2] 34));have t:Hid (bz w (bC wr (aq #[iz x1,iz x2] 34))):=s.trans ((cW _ _).alloc s.size _);have R:=wP (hz w) (ps.take i) B x1 x2 X.1 X.2 (by rw[y];omega);rw[I,<-HS.out] at R;have HK:Hid (∀k,d.gE k->hz w<=k):=λk H=>o.tB H
   go_wp2_with(go_at_call 7;refine R.mono ?_;rintro e w3 ⟨rfl,c3,C,F,J,-,-,-⟩);refine⟨⟨i+1,z,by simp,⟨c3,J,C,t.out.trans (pA F t.out.size λk H=>HK.out k H)⟩⟩,by simp[aG];omega⟩
  have di:=bN i n;obtain rfl:i=n:=bO
  let⟨d,I,o,s⟩:=M.out;rw[eF (by rw[O.out];exact bT _)] at o;have Q:=Jo (hz w) o;rw[I] at Q;have A:=bL (b9 o s)
  go_wp2_with(go_at_call 90;refine Q.mono ?_;rintro e w3 ⟨rfl,R3,F⟩);go_ret;exact⟨d.z.g.lo,hz wr,rfl,A.out.2.size,R3,λi j U V=>A.out.1.un.inv.fin U V,A.out.2.trans (pA F A.out.2.size λ_ e=>e.elim)⟩
def Zv(a m:Bool):Int:=if a then(if m then 6 else 0) else 7
theorem Da(w bv){c}(n pc A M)(d:aB prog 41 #[bv,aj c n pc] w λe b=>e=aw (.bool A)∧aC w.heap.size w b)(m:∀W,aC w.heap.size w W->aB prog 42 #[aj c n pc] W λe b=>e=aw (.bool M)∧aC W.heap.size W b):
  aB prog 20 #[bv,aj c n pc] w λe b=>e=aw (iz (Zv A M))∧aC w.heap.size w b:=by
 cases A
 .go_enter func20,ntmps20
  go_wp2_with(go_at_call 41;refine d.mono ?_;rintro e w1 ⟨rfl,a⟩);go_ret;exact⟨rfl,a⟩
 cases M
 all_goals
  go_enter func20,ntmps20
  go_wp2_with(first|(go_at_call 41;refine d.mono ?_;rintro e w1 ⟨rfl,a⟩;have l:=m w1 a)|(go_at_call 42;refine l.mono ?_;rintro e o ⟨rfl,h⟩));go_ret;exact⟨rfl,a.trans (h.mono a.size)⟩
def zx(val:Nat->Bool)(vs:List (Pr×Nat))(acc:List Pr)(a:Pr):List Pr:=if val ((jX vs a).getD 0-1) then fK acc [a] else acc
def nB(val:Nat->Bool)(vs:List (Pr×Nat))(acc:List Pr)(xs:List Pr):List Pr:=xs.foldl (zx val vs) acc
def mG(val:Nat->Bool)(vs:List (Pr×Nat))(am:Nat->List Pr)(acc:List Pr)(ns:List Nat):List Pr:=ns.foldl (λacc n=>nB val vs acc (am n)) acc
theorem Kk(acc a q):q∈fK acc [a]↔q∈acc∨q=a:=by grind[fK]
theorem D8(val:Nat->Bool)(b:List (Pr×Nat))(q):∀(c acc:List Pr),q∈nB val b acc c↔q∈acc∨(q∈c∧val ((jX b q).getD 0-1)=aK)
 | [],acc=>by simp[nB]
 |a::c,acc=>by have e:nB val b acc (a::c)=nB val b (zx val b acc a) c:=rfl;rw[e,D8 val b q c,zx];grind[absurd,Kk]
theorem D6(val:Nat->Bool)(b:List (Pr×Nat))(am:Nat->List Pr)(q):∀(a:List Nat)(acc:List Pr),q∈mG val b am acc a↔q∈acc∨((∃n∈a,q∈am n)∧val ((jX b q).getD 0-1)=aK)
 | [],acc=>by simp[mG]
 |n::a,acc=>by have e:mG val b am acc (n::a)=mG val b am (nB val b acc (am n)) a:=rfl;rw[e,D6 val b am q a,D8];grind
def acY(W:ay)(v:aA)(k:Nat)(am:Nat->List Pr):Prop:=∃a c,v=aj a k c∧∀n,n<k->∃b off u,a=ah ⟨b,off,ai⟩∧aU W ⟨b,off+n*6+4,ai⟩=ah u∧mB W u (am n)
def RZ(W:ay)(v:aA)(k:Nat)(val:Nat->Bool):Prop:=∃b off c,v=aj (ah ⟨b,off,ai⟩) k c∧∀n,n<k->aU W ⟨b,off+n,ai⟩=ah (.bool (val n))
def TS(w W:ay)(v:aA)(acc:List Pr):Prop:=bD W w.heap.size 34 2 v (bB acc) (lj acc)∧aC w.heap.size w W
variable{w W W' W1 w1:ay}{v bk tv fv lv lv':aA}{acc:List Pr}
def TS.below(h:TS w W v acc)(B:aC W.heap.size W W'):TS w W' v acc:=⟨ew h.1 B,h.2.trans (B.mono h.2.size)⟩
theorem TS.get(h:TS w W v acc){a:aD}{u:aA}(b:aU w a=ah u):aU W a=ah u:=(h.2.cell (cV w _ b)).trans b
theorem TS.add(h:TS w W v acc)(x1 x2:Nat)(r:(bB acc+1)*16<=140737488355328)(B:aC W.heap.size W W1)(g:Nat)(o:W1.heap.size=g):
  aB prog 89 #[v,aj (ah (az g 0)) 1 1] (bC W1 (aq #[iz x1,iz x2] 34)) λe l=>∃d,e=aw d∧TS w l d (fK acc [(x1,x2)]):=by
 subst o;have m:aC W.heap.size W (bC W1 (aq #[iz x1,iz x2] 34)):=B.trans ((cW _ _).alloc B.size _);have c:=h.below m;refine(zV _ w.heap.size c.2.size v acc c.1 (ah (az W1.heap.size 0)) 1 [(x1,x2)] ⟨_,_,rfl,cI ⟨_,_,rfl,λj p a=>?_⟩⟩ (λb t e s=>?_) (by simpa using r)).mono ?_
 .match j,a with
  |0,a=>simp at a;subst a;exact⟨by simp,by simp⟩
  |j+1,a=>simp at a
 .cases e
  have:=(dI h.1 s).2;have:=B.size;omega
 rintro e l ⟨d,rfl,R⟩;exact⟨d,rfl,R.row,c.2.trans (R.kept.below c.2.size λk q=>(dI c.1 q).1)⟩
theorem XC{S}{w}{pb vb kb}{bk tv fv lv}{P}(h:Pm S w pb vb kb bk tv fv lv P)(k)(am:Nat->List Pr)(Z:acY w fv k am){vv}{m}(val:Nat->Bool)(hv:RZ w vv m val){xa}(xc){d}(hx:pQ w (aj xa (bB d) xc) d)(T:∀n∈d,n<k)(an:bB d<=1000000)(U:∀n,n<k->bB (am n)<=1000000∧∀a∈am n,rI a∧∃z,jX P.vars a=ah z∧1<=z∧z<=m)(hm:m<=1000000):
  aB prog 46 #[pz pb,vv,aj xa (bB d) xc] w λe w'=>∃v',e=aw v'∧bD w' w.heap.size 34 2 v' (bB (mG val P.vars am [] d)) (lj (mG val P.vars am [] d))∧aC w.heap.size w w':=by
 obtain⟨fa,fc,rfl,Z⟩:=Z;obtain⟨tb,tq,tc,rfl,hv⟩:=hv;have B:Hid (_∧_∧_∧_∧_∧_):=⟨h,Z,hv,hx,T,U⟩
 obtain⟨n,hn⟩:=bJ (bB d);have HN:=bL hn;rw[hn] at an⊢;have ac:Hid (TS w w (aj ai 0 0) (mG val P.vars am [] (d.take 0))∧bB (mG val P.vars am [] (d.take 0))<=0*1000000):=⟨⟨⟨by simp[mG,lj],cB ⟨rfl,rfl⟩⟩,cW _ _⟩,by simp[mG]⟩
 clear h Z hv hx T U hn;go_enter func46,ntmps46
 go_wp2
 go_loopw[7,14] (λt7 L W=>∃i:Nat,i<=n∧L=iz i∧Hid (TS w W t7 (mG val P.vars am [] (d.take i))∧bB (mG val P.vars am [] (d.take i))<=i*1000000)) λ_ L _=>n-(aG L).toNat
 case atStart=>grind
 case round=>
  obtain⟨i,hi,rfl,F⟩:=hrel;clear ac;by_cases R:i<n
  .have di:=bM i n;have a1:=fq (a:=i) bO;have H:i<bB d:=by rw[HN.out];exact R
   let⟨xb,xo,a8,ex,qx⟩:=B.out.2.2.2.1.get (bP H);cases ex
   have X:=B.out.2.2.2.2.1 _ (dw H);have HS:Hid (mG val P.vars am [] (d.take (i+1))=nB val P.vars (mG val P.vars am [] (d.take i)) (am d[i])):=by show _=_;rw[dJ,bP H,fE];unfold mG;rw[j7];rfl
   generalize d[i]=x at *;let⟨fb,fo,u,ag,qu,pu⟩:=B.out.2.1 x X;subst ag;obtain⟨ua,uc,rfl,pu⟩:=pu;have qx:=F.out.1.get qx;have qu:=F.out.1.get qu;have c2:=F.out.1.get (B.out.1.cells.cell (i:=2) bO);simp only[Ek] at c2;have V:=B.out.2.2.2.2.2 x X;generalize mG val P.vars am [] (d.take i)=acc at *;generalize am x=l at *;have HU:=bL (b9 pu V);clear pu V
   go_wp2;obtain⟨y,hy⟩:=bJ (bB l);have HY:=bL hy;have a4:y<=1000000:=by rw[<-hy];exact HU.out.2.1
   simp only[hy];clear hy qx qu c2;have O:Hid (TS w wr u7 (nB val P.vars acc (l.take 0))∧bB (nB val P.vars acc (l.take 0))<=i*1000000+0):=by rw[sr];refine⟨F.out.1,?_⟩;exact bZ F.out.2 (Xa _ _)
   have q:=bL (b9 B.out.1 B.out.2.2.1);clear F B
   go_loopw[7,27] (λt7 M W=>∃j:Nat,j<=y∧M=iz j∧Hid (TS w W t7 (nB val P.vars acc (l.take j))∧bB (nB val P.vars acc (l.take j))<=i*1000000+j)) λ_ M _=>y-(aG M).toNat
   case atStart=>exact⟨0,dt _,rfl,O⟩
   case round=>
    obtain⟨j,hj,rfl,G⟩:=hrel;clear O;by_cases I:j<y
    .have dj:=bM j y;have a2:=fq (a:=j) bO;have t:j<bB l:=by rw[HY.out];exact I
     have s:=bP t;have C:=dw t;have Q:Hid (nB val P.vars acc (l.take (j+1))=zx val P.vars (nB val P.vars acc (l.take j)) l[j]):=by show _=_;rw[dJ,s,fE];unfold nB;rw[j7];rfl
     obtain⟨ub,uo,eu,pu⟩:∃b J,ua=ah (az b J)∧∀(j:Nat)(p:Pr),l[j]?=ah p->aU w ⟨b,J+j*2,ai⟩=ah (iz p.1)∧aU w ⟨b,J+j*2+1,ai⟩=ah (iz p.2):=by
      obtain e|e:=HU.out.1
      .rw[e] at t;exact absurd t (iR _)
      exact e
     subst eu;have q1:=G.out.1.get (pu j _ s).1;have q2:=G.out.1.get (pu j _ s).2;let⟨ao,z,hz,a5,a7⟩:=HU.out.2.2 _ C;clear s C pu;generalize l[j]=x at *;obtain⟨x1,x2⟩:=x;generalize nB val P.vars acc (l.take j)=c at *;have o:aC wr.heap.size wr (bC wr (aq #[iz x1,iz x2] 34)):=(cW _ _).alloc (bT _) _;have r:=G.out.1.below o;have c3:=r.get (q.out.1.cells.cell (i:=3) bO);simp only[Ek] at c3;have ap:pO (bC wr (aq #[iz x1,iz x2] 34)) vb P.vars:=by let⟨es,ck,he⟩:=q.out.1.vars.lt;exact q.out.1.vars.keep (r.2.block vb (bY.1 he).1)
     have LK:∀m,_:=λm=>(show pO (bF (bC wr (aq #[iz x1,iz x2] 34)) m) vb P.vars from ap.keep rfl).Jf ao;rw[hz] at LK;simp only[eQ] at LK;obtain⟨E,rfl⟩:∃E,z=E+1:=⟨z-1,by omega⟩
     have hb:=r.get (q.out.2 E bO);have a6:E<m:=bO
     have aa:Hid _:=λmm:Nat=>G.out.1.add x1 x2 (by have:=G.out.2;omega) (W1:=bF (bC wr (aq #[iz x1,iz x2] 34)) mm) ⟨o.os,o.tape,o.output,o.size,o.block⟩ (wr.heap.size+1) bQ;have HT:Hid (∀b,val E=b->zx val P.vars c (x1,x2)=if b then fK c [(x1,x2)] else c):=λb hb=>by rw[zx,hz,<-hb];rfl
     have a3:IntKind.i64.wrap ((E:Int)+1-1)=(E:Int):=aew
     have ad:=bL r;have a0:=G.out.2;have ab:Hid (∀m,TS w (bF (bC wr (aq #[iz x1,iz x2] 34)) m) u7 c):=λm=>TS.below ad.out ⟨rfl,rfl,rfl,bT _,λ_ _=>rfl⟩;cases A:val E
     .rw[A] at hb;have HE:Hid (nB val P.vars acc (l.take (j+1))=c):=by
       show _=_;rw[Q.out,HT.out _ A];rfl
      go_wp2;go_quiet(fail)
      go_wp2;refine⟨⟨j+1,I,by simp,?_⟩,by simp[aG];omega⟩;rw[HE.out];exact⟨ab.out _,by omega⟩
     rw[A] at hb;have HE:Hid (nB val P.vars acc (l.take (j+1))=fK c [(x1,x2)]):=by
      show _=_;rw[Q.out,HT.out _ A];rfl
     have HL:Hid (bB (fK c [(x1,x2)])<=i*1000000+(j+1)):=by have:=mO c [(x1,x2)];simp only[eD] at this;show _<=_;omega
     go_wp2;go_quiet(fail);have A1:=aa.out nq
     go_wp2_with(go_at_call 89;refine A1.mono ?_;rintro e w3 ⟨v3,rfl,T3⟩);refine⟨⟨j+1,I,by simp,?_⟩,by simp[aG];omega⟩;rw[HE.out];exact⟨T3,HL.out⟩
    have dj:=bN j y;obtain rfl:j=y:=bO
    have Y:Hid (TS w wr u7 (mG val P.vars am [] (d.take (i+1)))∧bB (mG val P.vars am [] (d.take (i+1)))<=(i+1)*1000000):=by rw[HS.out];have:=G.out;rw[eF (by rw[HY.out];exact bT _)] at this;refine⟨this.1,?_⟩;have:=this.2;omega
    go_wp2;exact⟨⟨i+1,R,by simp,Y⟩,by simp[aG];omega⟩
  have di:=bN i n;obtain rfl:i=n:=bO
  have Y:Hid (TS w wr u7 (mG val P.vars am [] d)):=by have:=F.out.1;rw[eF (by rw[HN.out];exact bT _)] at this;exact this
  go_wp2;go_ret;exact⟨_,rfl,Y.out.1,Y.out.2⟩
def zq(val:Nat->Bool)(vs:List (Pr×Nat))(cq:Nat->Nat->Bool)(acc:List Pr)(a:Pr):List Pr:=if cq a.1 a.2=aK∧val ((jX vs a).getD 0-1)=aL then fK acc [a] else acc
def mE(val:Nat->Bool)(vs:List (Pr×Nat))(cq:Nat->Nat->Bool)(acc:List Pr)(xs:List Pr):List Pr:=xs.foldl (zq val vs cq) acc
def jK(val:Nat->Bool)(vs:List (Pr×Nat))(cq:Nat->Nat->Bool)(am:Nat->List Pr)(ok:Nat->Bool)(acc:List Pr)(ns:List Nat):List Pr:=ns.foldl (λacc n=>if ok n then acc else mE val vs cq acc (am n)) acc
theorem DU(val:Nat->Bool)(b:List (Pr×Nat))(cq:Nat->Nat->Bool)(q):∀(c acc:List Pr),q∈mE val b cq acc c↔q∈acc∨(q∈c∧cq q.1 q.2=aK∧val ((jX b q).getD 0-1)=aL)
 | [],acc=>by simp[mE]
 |a::c,acc=>by have e:mE val b cq acc (a::c)=mE val b cq (zq val b cq acc a) c:=rfl;rw[e,DU val b cq q c,zq];grind[absurd,Kk]
theorem wz(val:Nat->Bool)(d:List (Pr×Nat))(cq:Nat->Nat->Bool)(am:Nat->List Pr)(ok:Nat->Bool)(q):∀(c:List Nat)(acc:List Pr),q∈jK val d cq am ok acc c↔q∈acc∨((∃n∈c,ok n=aL∧q∈am n)∧cq q.1 q.2=aK∧val ((jX d q).getD 0-1)=aL)
 | [],acc=>by simp[jK]
 |n::c,acc=>by
  have e:jK val d cq am ok acc (n::c)=jK val d cq am ok (if ok n then acc else mE val d cq acc (am n)) c:=rfl;rw[e,wz val d cq am ok q c];cases l:ok n
  .rw[cC bS,DU];constructor
   .rintro((a|⟨a,b⟩)|⟨⟨m,a,h⟩,b⟩)
    .exact .inl a
    .exact .inr ⟨⟨n,by simp,l,a⟩,b⟩
    exact .inr ⟨⟨m,by simp[a],h⟩,b⟩
   rintro(a|⟨⟨m,a,h⟩,b⟩)
   .exact .inl (.inl a)
   obtain rfl|a:=fA.1 a
   .exact .inl (.inr ⟨h.2,b⟩)
   exact .inr ⟨⟨m,a,h⟩,b⟩
  grind
def evM(n:Nat)(e:Nat->Nat->Bool)(op x y:Int)(k:Nat)(args:List Bool):Bool:=
 if op=0 then k==0&&(My n x&&My n y&&e x.toNat y.toNat)
 else if op=1 then k==1&&!(args[0]?.getD aL)
 else if op=2 then k==2&&(args[0]?.getD aL&&args[1]?.getD aL)
 else if op=3 then k==2&&(args[0]?.getD aL||args[1]?.getD aL)
 else if op=4 then k==2&&(!(args[0]?.getD aL)||args[1]?.getD aL)
 else aL
def tX(n:Nat)(e:Nat->Nat->Bool):Fo->Bool
 | .mk op x y kids=>evM n e op x y (bB kids) (kids.map (tX n e))
theorem VL{cls:List Int}{n:Nat}(a:bB cls=n){e:Nat->Nat->Bool}(h:∀i j,i<n->j<n->(cls[i]?.getD 0==cls[j]?.getD 0)=e i j):∀f:Fo,Zh cls f=tX n e f
 | .mk op x y kids=>by have b:kids.map (Zh cls)=kids.map (tX n e):=lh λk _=>VL a h k;grind[Zh,tX,evN,evM,zD,My]
structure Fm where
 am:List Pr
 cs:List (List Int)
 ev:(Nat->Nat->Bool)->Bool
def gV(f:Fo):List Pr:=(lC (oU f)).map λp=>eT p.1.toNat p.2.toNat
def o5(f:Fo):Int×Sc:=Cn.jj (mA (lC (oU f))) f (bB (lC (oU f)),[])
def oS(P:Pb)(f:Fo):List Nat:=0::((Pb.names (gV f) P).1++(aO ((o5 f).2.1-bB (gV f))).map λi=>(Pb.names (gV f) P).2.count+1+i)
def Pb.sh(P:Pb)(f:Fo):Pb:={(Pb.names (gV f) P).2 with count:=(Pb.names (gV f) P).2.count+((o5 f).2.1-bB (gV f))}
def wS(n:Nat)(P:Pb)(f:Fo):Fm:=⟨gV f,((o5 f).2.2++[[(o5 f).1]]).map λc=>c.map (pH (oS P f)),λe=>tX n e f⟩
def Pb.iO(n:Nat):List Fo->Pb->List Fm->Pb×List Fm
 | [],P,fs=>(P,fs)
 |f::r,P,fs=>Pb.iO n r (P.sh f) (fs++[wS n P f])
theorem sQ(n):∀(r:List Fo)(f:Fo)(P:Pb)(fs:List Fm),Pb.iO n (r++[f]) P fs=((Pb.iO n r P fs).1.sh f,(Pb.iO n r P fs).2++[wS n (Pb.iO n r P fs).1 f])
 | [],_,_,_=>rfl
 |g::r,f,P,fs=>by rw[eU,Pb.iO,sQ n r f];rfl
def nF:Pb:=⟨0,[],[],[]⟩
def Fm.get(fs:List Fm)(n:Nat):Fm:=fs[n]?.getD ⟨[],[],λ_=>aK⟩
def lO(P:Pb)(fs:List Fm)(ns:List Nat):List (List Int):=P.lemmas++ns.flatMap λn=>(Fm.get fs n).cs
def wA(vs:List Bool)(i:Nat):Bool:=vs[i]?.getD aL
def zR(l:List Tm)(told:List Pr)(a b:Nat):Bool:=match uE l told with
 |none=>aL
 |some F=>decide (F.g.rt a=F.g.rt b)
def sF(fs:List Fm)(P:Pb)(ns:List Nat)(vs:List Bool):List Pr:=mG (wA vs) P.vars (λn=>(Fm.get fs n).am) [] ns
def xm(l:List Tm)(fs:List Fm)(P:Pb)(ns:List Nat)(vs:List Bool):List Pr:=jK (wA vs) P.vars (zR l (sF fs P ns vs)) (λn=>(Fm.get fs n).am) (λn=>(Fm.get fs n).ev (zR l (sF fs P ns vs))) [] ns
def ZN(l:List Tm)(told:List Pr)(F:Pf)(P:Pb)(a:Pr)(Q:Pb):Prop:=
 ∃S,yC F.L told (iZ l) a=ah S∧(P.count+bB (oI P S [])<=2000->Q=S.foldl Pb.step P)∧(¬P.count+bB (oI P S [])<=2000->∃ns,Fits l (told.map wI) (a.1:Int) (a.2:Int) ns∧Q=P.whole a (ns.map λn=>told[n]?.getD (0,0)))
def GU(l:List Tm)(told:List Pr)(F:Pf):List Pr->Pb->Pb->Prop
 | [],P,Q=>Q=P
 |a::r,P,Q=>∃P1,ZN l told F P a P1∧GU l told F r P1 Q
def Kt(P:Pb)(fs:List Fm)(ns:List Nat):Prop:=P.count<=2000∧bB (lO P fs ns)<=100000000∧∀c∈lO P fs ns,Al P.count c
def sS(l:List Tm)(fs:List Fm)(ns:List Nat)(Post:Option (List Pr)->Pb->Prop):Nat->Pb->Prop
 |0,_=>False
 |f+1,P=>Kt P fs ns∧match mH P.count (lO P fs ns) with
  |none=>False
  |some ai=>Post ai P
  |some (ah vs)=>(xm l fs P ns vs=[]->Post (ah (sF fs P ns vs)) P)∧(xm l fs P ns vs≠[]->(bB (xm l fs P ns vs)<=1∧1<=f)∧∀F Q,uE l (sF fs P ns vs)=ah F->GU l (sF fs P ns vs) F (xm l fs P ns vs) P Q->sS l fs ns Post f Q)
def OX(W:ay)(b off N:Nat)(fm:Fm):Prop:=∃(op x y:Int)(ka:Option aD)(kn kc:Nat)(au cu:aA)(f:Fo),
 (aU W ⟨b,off,ai⟩=ah (ae af op)∧aU W ⟨b,off+1,ai⟩=ah (ae af x)∧aU W ⟨b,off+2,ai⟩=ah (ae af y)∧aU W ⟨b,off+3,ai⟩=ah (aj ka kn kc)∧aU W ⟨b,off+4,ai⟩=ah au∧aU W ⟨b,off+5,ai⟩=ah cu)∧
 Hk W (.agg #[ae af op,ae af x,ae af y,aj ka kn kc]) f∧(xj f<=1048576∧RF f)∧(∀e,fm.ev e=tX N e f)∧mB W au fm.am∧∃ca cc,cu=aj ca (bB fm.cs) cc∧oX W ca fm.cs
variable{N n pb vb kb k g nb i j:Nat}{fm:Fm}
theorem OX.below{b c:Nat}(h:OX W b c N fm)(d:aC W.heap.size W W'):OX W' b c N fm:=by obtain⟨op,x,y,ka,kn,kc,au,cu,f,⟨c0,c1,c2,c3,c4,c5⟩,m,o,p,q,e,l,r,s⟩:=h;have a:=iS d;exact⟨op,x,y,ka,kn,kc,au,cu,f,⟨a _ _ c0,a _ _ c1,a _ _ c2,a _ _ c3,a _ _ c4,a _ _ c5⟩,m.keep d,o,p,q.below d,e,l,r,s.below d⟩
def ve(W:ay)(N:Nat)(v:aA)(fs:List Fm):Prop:=∃a c,v=aj a (bB fs) c∧∀(n:Nat)(fm:Fm),fs[n]?=ah fm->∃b off,a=ah ⟨b,off,ai⟩∧OX W b (off+n*6) N fm
variable{fs:List Fm}
theorem ve.below(h:ve W N v fs)(p:aC W.heap.size W W'):ve W' N v fs:=by obtain⟨a,c,e,l⟩:=h;refine⟨a,c,e,λn fm q=>?_⟩;let⟨b,d,m,o⟩:=l n fm q;exact⟨b,d,m,o.below p⟩
theorem Fm.get_at(h:fs[n]?=ah fm):Fm.get fs n=fm:=by unfold Fm.get;rw[h];rfl
def tL:=@Fm.get_at
theorem ve.am(h:ve W N v fs):acY W v (bB fs) (λn=>(Fm.get fs n).am):=by obtain⟨a,c,d,l⟩:=h;refine⟨a,c,d,λn m=>?_⟩;have e:=bP m;let⟨b,o,p,op,x,y,ka,kn,kc,au,cu,f,⟨_,_,_,_,c4,_⟩,_,_,_,q,_⟩:=l n _ e;grind[Fm.get_at]
theorem yd(a b:Nat):((a:Int)==(b:Int))=aM (a=b):=by grind
variable{S D D1 S':Nat->Prop}{P:Pb}
theorem Sr(h:Pm S w pb vb kb bk tv fv lv P)(Y:ve w N fv fs){vv:aA}{m:Nat}(val:Nat->Bool)(hv:RZ w vv m val)(cb:Nat)(g:Nat->Nat)(hg:bE w cb 3 N λi=>iz (g i:Int))(cq:Nat->Nat->Bool)(a4:∀i j,i<N->j<N->aM (g i=g j)=cq i j){xa:Option aD}(xc:Nat){l:List Nat}(hx:pQ w (aj xa (bB l) xc) l)(a8:∀n∈l,n<bB fs)(b0:bB l<=1000000)(a9:∀n,n<bB fs->(Fm.get fs n).am.length<=1000000∧∀a∈(Fm.get fs n).am,rI a∧(a.1<N∧a.2<N)∧∃z,jX P.vars a=ah z∧1<=z∧z<=m)(hm:m<=1000000)(hN:N<=1000000):
  aB prog 48 #[pz pb,vv,aj (ah (az cb 0)) N N,aj xa (bB l) xc] w λe w'=>∃v',e=aw v'∧bD w' w.heap.size 34 2 v' (bB (jK val P.vars cq (λn=>(Fm.get fs n).am) (λn=>(Fm.get fs n).ev cq) [] l)) (lj (jK val P.vars cq (λn=>(Fm.get fs n).am) (λn=>(Fm.get fs n).ev cq) [] l))∧aC w.heap.size w w':=by
 obtain⟨fa,fc,rfl,Y⟩:=Y;obtain⟨tb,tq,tc,rfl,hv⟩:=hv;obtain⟨am,G⟩:∃am:Nat->List Pr,am=λn=>(Fm.get fs n).am:=⟨_,rfl⟩
 obtain⟨ok,o⟩:∃ok:Nat->Bool,ok=λn=>(Fm.get fs n).ev cq:=⟨_,rfl⟩
 rw[<-G,<-o];have T:∀n,n<bB fs->bB (am n)<=1000000∧∀a∈am n,rI a∧(a.1<N∧a.2<N)∧∃z,jX P.vars a=ah z∧1<=z∧z<=m:=by rw[G];exact a9
 have A:Hid (_∧_∧_∧_∧_∧_∧_∧_):=⟨h,Y,hv,hx,a8,T,hg,a4⟩
 have a0:=bL (b9 G o);obtain⟨n,hn⟩:=bJ (bB l);have HN:=bL hn;rw[hn] at b0⊢;have be:Hid (TS w w (aj ai 0 0) (jK val P.vars cq am ok [] (l.take 0))∧bB (jK val P.vars cq am ok [] (l.take 0))<=0*1000000):=⟨⟨⟨by simp[jK,lj],cB ⟨rfl,rfl⟩⟩,cW _ _⟩,by simp[jK]⟩
 clear h Y hv hx a8 a9 hn hg a4 T G o;go_enter func48,ntmps48
 go_wp2
 go_loopw[9,17] (λt9 ao W=>∃i:Nat,i<=n∧ao=iz i∧Hid (TS w W t9 (jK val P.vars cq am ok [] (l.take i))∧bB (jK val P.vars cq am ok [] (l.take i))<=i*1000000)) λ_ ao _=>n-(aG ao).toNat
 case atStart=>grind
 case round=>
  obtain⟨i,hi,rfl,HJ⟩:=hrel;clear be;by_cases ab:i<n
  .have di:=bM i n;have bR:=fq (a:=i) bO;have aa:i<bB l:=by rw[HN.out];exact ab
   let⟨xb,xo,cn,ex,qx⟩:=A.out.2.2.2.1.get (bP aa);cases ex
   have ag:=A.out.2.2.2.2.1 _ (dw aa);have HS:Hid (jK val P.vars cq am ok [] (l.take (i+1))=if ok l[i] then jK val P.vars cq am ok [] (l.take i) else mE val P.vars cq (jK val P.vars cq am ok [] (l.take i)) (am l[i])):=by show _=_;rw[dJ,bP aa,fE];unfold jK;rw[j7];rfl
   generalize l[i]=x at *;obtain⟨fb,fo,bx,op,fx,fy,ka,kn,kc,au,cu,f,⟨q0,q1,q2,q3,q4,q5⟩,a6,⟨b6,bb⟩,a5,E,ca,cc,rfl,_⟩:=A.out.2.1 x _ (bP ag);subst bx;have C:(Fm.get fs x)=fs[x]:=Fm.get_at (bP ag);have O:am x=fs[x].am:=by rw[a0.out.1];simp only[C]
   have R:ok x=tX N cq f:=by rw[a0.out.2];simp only[C];exact a5 cq
   rw[<-O] at E;obtain⟨ua,uc,rfl,E⟩:=E;have F:=HJ.out.1;have qx:=F.get qx;have q0:=F.get q0;have q1:=F.get q1;have q2:=F.get q2;have q3:=F.get q3;have q4:=F.get q4;have q5:=F.get q5;have c2:=F.get (A.out.1.cells.cell (i:=2) bO);simp only[Ek] at c2;have q:aC wr.heap.size wr (bC wr (aq #[iz op,iz fx,iz fy,aj ka kn kc,.slice ua (bB (am x)) uc,.slice ca fs[x].cs.length cc] 172)):=(cW _ _).alloc (bT _) _;have T1:=F.below q;have EV:=JM (bC wr (aq #[iz op,iz fx,iz fy,aj ka kn kc,.slice ua (bB (am x)) uc,.slice ca fs[x].cs.length cc] 172)) (.agg #[iz op,iz fx,iz fy,aj ka kn kc]) (a6.keep T1.2) (ah (az cb 0)) N N ((aO N).map λt=>(g t:Int)) bQ (by
    by_cases bo:N=0
    .left;rw[bo];rfl
    refine cI ⟨cb,0,rfl,λj z hj=>?_⟩;have a7:j<N:=by have:=(bU.1 hj).1;simpa using this
    rw[fN,vS a7] at hj;cases hj
    rw[fM];exact T1.get (A.out.2.2.2.2.2.2.1.cell (i:=j) a7)) bO bO bb
   rw[VL (n:=N) bQ (e:=cq) (λa b Y Z=>by
    have e1:((aO N).map λt=>(g t:Int))[a]?.getD 0=(g a:Int):=by simp[Y]
    have e2:((aO N).map λt=>(g t:Int))[b]?.getD 0=(g b:Int):=by simp[Z]
    rw[<-A.out.2.2.2.2.2.2.2 a b Y Z,e1,e2,yd]),<-R] at EV
   generalize fs[x].cs.length=cl at *;have ba:=A.out.2.2.2.2.2.1 x ag;have HU:=bL (b9 E (b9 ba T1));have s:=bL (b9 A.out.1 (b9 A.out.2.2.1 (b9 A.out.2.2.2.2.2.2.1 A.out.2.2.2.2.2.2.2)));have M:=HJ.out.2;generalize jK val P.vars cq am ok [] (l.take i)=acc at *;generalize am x=r at *;clear E ba F T1 a6 b6 bb a5 O R q C HJ;cases o:ok x
   .rw[o] at EV
    go_wp2_with(go_at_call 91;refine EV.mono ?_;rintro e w4 ⟨rfl,B4⟩;refine dM ?_);delta aH;have cbx:cz w4 wr.heap.size 4 (aj ua (bB r) uc):=(B4.cell bQ).trans bQ;have a2:Hid (TS w w4 u9 (mE val P.vars cq acc (r.take 0))∧bB (mE val P.vars cq acc (r.take 0))<=i*1000000+0):=by rw[sr];exact⟨HU.out.2.2.below B4,bZ M (Xa _ _)⟩
    have a3:=bL (b9 HU.out.1 HU.out.2.1);have bj:Hid (jK val P.vars cq am ok [] (l.take (i+1))=mE val P.vars cq acc r):=by have:=HS.out;rw[o] at this;exact this
    obtain⟨y,hy⟩:=bJ (bB r);have HY:=bL hy;have ch:y<=1000000:=by rw[<-hy];exact HU.out.2.1.1
    simp only[hy] at cbx⊢;clear hy EV B4 HU HS o A;apply_assumption
    go_wp2;clear cbx qx q0 q1 q2 q3 q4 q5 c2
    go_loopw[9,35] (λt9 ap W=>∃j:Nat,j<=y∧ap=iz j∧Hid (TS w W t9 (mE val P.vars cq acc (r.take j))∧bB (mE val P.vars cq acc (r.take j))<=i*1000000+j)) λ_ ap _=>y-(aG ap).toNat
    case atStart=>exact⟨0,dt _,rfl,a2⟩
    case round=>
     obtain⟨j,hj,rfl,V⟩:=hrel;clear a2;by_cases J:j<y
     .have dj:=bM j y;have cd:=fq (a:=j) bO;have I:j<bB r:=by rw[HY.out];exact J
      have H:=bP I;have Q:=dw I;have X:Hid (mE val P.vars cq acc (r.take (j+1))=zq val P.vars cq (mE val P.vars cq acc (r.take j)) r[j]):=by show _=_;rw[dJ,H,fE];unfold mE;rw[j7];rfl
      obtain⟨ub,uo,eu,pu⟩:∃b an,ua=ah (az b an)∧∀(j:Nat)(p:Pr),r[j]?=ah p->aU w ⟨b,an+j*2,ai⟩=ah (iz p.1)∧aU w ⟨b,an+j*2+1,ai⟩=ah (iz p.2):=by
       obtain e|e:=a3.out.1
       .rw[e] at I;exact absurd I (iR _)
       exact e
      subst eu;have q1:=V.out.1.get (pu j _ H).1;have q2:=V.out.1.get (pu j _ H).2;let⟨o,⟨ac,ad⟩,z,hz,ci,cm⟩:=a3.out.2.2 _ Q;clear H Q pu;generalize r[j]=x at *;obtain⟨x1,x2⟩:=x;generalize mE val P.vars cq acc (r.take j)=d at *;have q:aC wr.heap.size wr (bC wr (aq #[iz x1,iz x2] 34)):=(cW _ _).alloc (bT _) _;have u:=V.out.1.below q;have c3:=u.get (s.out.1.cells.cell (i:=3) bO);simp only[Ek] at c3;have b7:pO (bC wr (aq #[iz x1,iz x2] 34)) vb P.vars:=by let⟨es,ck,he⟩:=s.out.1.vars.lt;exact s.out.1.vars.keep (u.2.block vb (bY.1 he).1)
      have LK:∀m,_:=λm=>(show pO (bF (bC wr (aq #[iz x1,iz x2] 34)) m) vb P.vars from b7.keep rfl).Jf o;rw[hz] at LK;simp only[eQ] at LK;obtain⟨U,rfl⟩:∃U,z=U+1:=⟨z-1,by omega⟩
      have Z:=u.get (s.out.2.1 U bO);have cj:U<m:=bO
      simp only at ac ad;have g1:=u.get (s.out.2.2.1.cell (i:=x1) ac);have g2:=u.get (s.out.2.2.1.cell (i:=x2) ad);have dg:((g x1:Int)==(g x2:Int))=cq x1 x2:=by rw[yd];exact s.out.2.2.2 x1 x2 ac ad
      have bc:Hid _:=λmm:Nat=>V.out.1.add x1 x2 (by have:=V.out.2;omega) (W1:=bF (bC wr (aq #[iz x1,iz x2] 34)) mm) ⟨q.os,q.tape,q.output,q.size,q.block⟩ (wr.heap.size+1) bQ;have HT:Hid (∀b c,val U=b->cq x1 x2=c->zq val P.vars cq d (x1,x2)=if c&&!b then fK d [(x1,x2)] else d):=λb c Z hc=>by rw[zq,hz];simp only[eQ,lQ,Z,hc];cases b<;>cases c<;>rfl
      have ce:IntKind.i64.wrap ((U:Int)+1-1)=(U:Int):=aew
      have bi:=bL u;have b8:=V.out.2;have a1:Hid (∀m,TS w (bF (bC wr (aq #[iz x1,iz x2] 34)) m) u9 d):=λm=>TS.below bi.out ⟨rfl,rfl,rfl,bT _,λ_ _=>rfl⟩;generalize g x1=y1 at *;generalize g x2=y2 at *;cases B:cq x1 x2
      .rw[B] at dg;have HE:Hid (mE val P.vars cq acc (r.take (j+1))=d):=by
        show _=_;rw[X.out,HT.out _ _ rfl B];rfl
       go_wp2;go_quiet(fail)
       go_wp2;refine⟨⟨j+1,J,by simp,?_⟩,by simp[aG];omega⟩;rw[HE.out];exact⟨a1.out _,by omega⟩
      rw[B] at dg;cases L:val U
      .rw[L] at Z;have HE:Hid (mE val P.vars cq acc (r.take (j+1))=fK d [(x1,x2)]):=by
        show _=_;rw[X.out,HT.out _ _ L B];rfl
       have HL:Hid (bB (fK d [(x1,x2)])<=i*1000000+(j+1)):=by have:=mO d [(x1,x2)];simp only[eD] at this;show _<=_;omega
       go_wp2;go_quiet(fail);have A1:=bc.out nq
       go_wp2_with(go_at_call 89;refine A1.mono ?_;rintro e w3 ⟨v3,rfl,T3⟩);refine⟨⟨j+1,J,by simp,?_⟩,by simp[aG];omega⟩;rw[HE.out];exact⟨T3,HL.out⟩
      rw[L] at Z;have HE:Hid (mE val P.vars cq acc (r.take (j+1))=d):=by
       show _=_;rw[X.out,HT.out _ _ L B];rfl
      go_wp2;go_quiet(fail)
      go_wp2;refine⟨⟨j+1,J,by simp,?_⟩,by simp[aG];omega⟩;rw[HE.out];exact⟨a1.out _,by omega⟩
     have dj:=bN j y;obtain rfl:j=y:=bO
     have HF:Hid (TS w wr u9 (jK val P.vars cq am ok [] (l.take (i+1)))∧bB (jK val P.vars cq am ok [] (l.take (i+1)))<=(i+1)*1000000):=by rw[bj.out];have:=V.out;rw[eF (by rw[HY.out];exact bT _)] at this;refine⟨this.1,?_⟩;have:=this.2;omega
     go_wp2;exact⟨⟨i+1,ab,by simp,HF⟩,by simp[aG];omega⟩
   rw[o] at EV;have HF:Hid (jK val P.vars cq am ok [] (l.take (i+1))=acc):=by
    have:=HS.out;rw[o] at this;exact this
   go_wp2_with(go_at_call 91;refine EV.mono ?_;rintro e w4 ⟨rfl,B4⟩);refine⟨⟨i+1,ab,by simp,?_⟩,by simp[aG];omega⟩;rw[HF.out];exact⟨HU.out.2.2.below B4,bZ M (Ha _ (iD _))⟩
  have di:=bN i n;obtain rfl:i=n:=bO
  have HF:Hid (TS w wr u9 (jK val P.vars cq am ok [] l)):=by have:=HJ.out.1;rw[eF (by rw[HN.out];exact bT _)] at this;exact this
  go_wp2;go_ret;exact⟨_,rfl,HF.out.1,HF.out.2⟩
def bI.ot(h:bI D w w1)(k:bI D1 w1 W)(c:∀j,D1 j->D j∨w.heap.size<=j):bI D w W:=
 ⟨k.os.trans h.os,k.tape.trans h.tape,k.output.trans h.output,bZ h.size k.size,λj a b=>(k.block j (cQ a h.size) λe=>(c j e).elim b λe=>absurd a bO).trans (h.block j a b)⟩
def Kq(D:Nat->Prop)(W:ay)(Φ:ay->Prop):Prop:=∀W',bI D W W'->Φ W'
variable{Φ:ay->Prop}
def Kq.step(h:Kq D w Φ)(K:bI D w w1)(a:∀j,D1 j->D j∨w.heap.size<=j):Kq D1 w1 Φ:=λW k=>h W (K.ot k a)
structure Sx where
 op:Int
 x:Int
 y:Int
 ka:Option aD
 kn:Nat
 kc:Nat
 au:aA
 cu:aA
def Ij(g:Sx):List aA:=[ae af g.op,ae af g.x,ae af g.y,aj g.ka g.kn g.kc,g.au,g.cu]
theorem SU:∀(a:List Sx)(i j:Nat),j<6->(a.flatMap Ij)[i*6+j]?=(a[i]?).bind λg=>(Ij g)[j]?
 | [],i,j,_=>by simp
 |g::a,0,j,b=>by grind[Ij]
 |g::a,i+1,j,b=>by rw[gS,dr (by simp[Ij];omega),show(i+1)*6+j-bB (Ij g)=i*6+j by simp[Ij];omega,SU a i j b];rfl
def adT(W:ay)(N:Nat)(g:Sx)(fm:Fm):Prop:=∃f:Fo,Hk W (.agg #[ae af g.op,ae af g.x,ae af g.y,aj g.ka g.kn g.kc]) f∧(xj f<=1048576∧RF f)∧(∀e,fm.ev e=tX N e f)∧mB W g.au fm.am∧∃ca cc,g.cu=aj ca (bB fm.cs) cc∧oX W ca fm.cs
def Dq(pb vb kb:Nat)(lv fv:aA)(k:Nat):Prop:=PD pb vb kb lv k∨aP fv=ah k
structure Np(Φ:ay->Prop)(B:Nat)(S:Nat->Prop)(W:ay)(pb vb kb:Nat)(bk tv fv lv:aA)(P:Pb)(N:Nat)(fs:List Fm)(gs:List Sx):Prop where
 pm:Pm S W pb vb kb bk tv fv lv P
 low:∀k,Dq pb vb kb lv fv k->B<=k
 row:bD W B 172 6 fv (bB gs) (gs.flatMap Ij)
 len:bB gs=bB fs
 parts:Kq (Dq pb vb kb lv fv) W λW'=>(∀(n:Nat)(fm:Fm)(g:Sx),fs[n]?=ah fm->gs[n]?=ah g->adT W' N g fm)∧Φ W'
theorem Pm.L8(h:Pm S W pb vb kb bk tv fv lv P)(c:PD pb vb kb lv k):k<W.heap.size:=by
 let⟨es,l,m⟩:=h.vars.lt;let⟨b,a,o⟩:=h.known.lt;let⟨p,d,_⟩:=h.rows;obtain rfl|rfl|rfl|e:=c
 .exact h.cells.lt
 .grind
 .grind
 exact(dI d e).2
theorem Pm.uF(h:Pm S W pb vb kb bk tv fv lv P){base size:Nat}{t:aE}{p:List aA}(a:bD W base t size v n p)(o:118≠t)(r:t≠39)(b:aP v=ah k):¬PD pb vb kb lv k:=by
 let⟨es,q,d⟩:=h.vars.lt;let⟨m,c,l⟩:=h.known.lt;let⟨u,s,_⟩:=h.rows;rintro(rfl|rfl|rfl|e)
 .exact dY h.cells o a b
 .exact iL a d b
 .exact iL a l b
 grind[mJ]
theorem Rw.uF(h:Pm S W pb vb kb bk tv fv lv P){c:List Int}(a:Rw W g c):¬PD pb vb kb lv g:=by
 let⟨es,p,d⟩:=h.vars.lt;let⟨m,b,l⟩:=h.known.lt;let⟨q,o,_⟩:=h.rows;rintro(e|e|e|e)
 .exact a.Er h.cells bS e
 .exact a.N8 d e
 .exact a.N8 l e
 exact a.uK o bS e
def adW:=@Rw.uF
theorem oN.rw{xs:List Nat}(h:oN W g xs):Rw W g (xs.map λn:Nat=>(n:Int)):=by
 refine⟨bB xs,λi=>(xs.map i64)[i]?.getD aF,by simp,⟨_,h,by simp,λi d=>?_⟩,λj c a=>?_⟩
 .grind
 simp only;rw[fN] at a⊢;cases b:xs[j]? with
 |none=>grind
 |some x=>
  rw[b] at a;cases a
  rfl
theorem Np.fms{B:Nat}{d:List Sx}(h:Np Φ B S W pb vb kb bk tv fv lv P N fs d)(W')(K:bI (PD pb vb kb lv) W W'):ve W' N fv fs:=by
 have o:bD W' B 172 6 fv (bB d) (d.flatMap Ij):=eP h.row λb p=>K.block b (dI h.row p).2 (h.pm.uF h.row bS bS p);obtain⟨a,c,rfl⟩:=dZ o;refine⟨a,c,by rw[h.len],λn fm r=>?_⟩;have m:n<bB d:=by rw[h.len];exact(bU.1 r).1
 have q:=bP m;let⟨f,x,y,z,A,C⟩:=(h.parts W' (K.mono λk _ e=>cB e)).1 n fm _ r q;obtain⟨e,E⟩|⟨b,s,t,e,_⟩:=id o.2
 .omega
 cases e
 refine⟨b,0,rfl,d[n].op,d[n].x,d[n].y,d[n].ka,d[n].kn,d[n].kc,d[n].au,d[n].cu,f,?_,x,y,z,A,C⟩;have l:∀j,j<6->aU W' ⟨b,0+n*6+j,ai⟩=(Ij d[n])[j]?:=λj u=>by rw[fM,o.cellAt (n*6+j) bO,SU d n j u,q];rfl
 exact⟨l 0 bO,l 1 bO,l 2 bO,l 3 bO,l 4 bO,l 5 bO⟩
structure DR(S:Nat->Prop)(w:ay)(S':Nat->Prop)(W:ay)(pb vb kb:Nat)(bk tv fv lv lv':aA)(P:Pb)(nb:Nat)(nm:List Nat)(v:aA)(am:List Pr):Prop where
 pm:Pm S' W pb vb kb bk tv fv lv' P
 new:∀k,S' k->S k∨w.heap.size<=k
 kept:bI (λk=>PD pb vb kb lv k∨k=nb) w W
 at_:aP lv'=aP lv∨∀k,aP lv'=ah k->w.heap.size<=k
 AH:oN W nb nm
 lC:bD W w.heap.size 34 2 v (bB am) (lj am)
variable{nm:List Nat}
def DR.below{am:List Pr}(h:DR S w S' W pb vb kb bk tv fv lv lv' P nb nm v am)(a:aC W.heap.size W W'):DR S w S' W' pb vb kb bk tv fv lv lv' P nb nm v am:=
 ⟨h.pm.below a,h.new,h.kept.under a,h.at_,(a.block nb (bY.1 h.AH).1).trans h.AH,ew h.lC a⟩
theorem DR.pd{am:List Pr}(h:DR S w S' W pb vb kb bk tv fv lv lv' P nb nm v am)(k)(b:PD pb vb kb lv' k):PD pb vb kb lv k∨w.heap.size<=k:=by
 obtain e|e|e|e:=b
 .exact cB (cB e)
 .exact cB (cI (cB e))
 .exact cB (cI (cI (cB e)))
 obtain a|a:=h.at_
 .exact cB (cI (cI (cI (a▸e))))
 grind
theorem DR.step{S2:Nat->Prop}{l:ay}{a:aA}{d:Pb}{am:List Pr}(h:DR S w S' W pb vb kb bk tv fv lv lv' P nb nm v am)(x:pY S' W S2 l pb vb kb bk tv fv lv' a d):DR S w S2 l pb vb kb bk tv fv lv a d nb nm v am:=by
 have z:=h.kept.size;refine⟨x.is,λk c=>(x.new k c).elim (h.new k) λe=>cI (bZ z e),h.kept.ot x.kept λk c=>(h.pd k c).imp cB id,?_,(x.kept.block nb (bY.1 h.AH).1 (Rw.uF h.pm h.AH.rw)).trans h.AH,eP h.lC λb m=>x.kept.block b (dI h.lC m).2 (h.pm.uF h.lC bS bS m)⟩;obtain e|e:=x.at_
 .rw[e];exact h.at_
 grind
theorem DR.name{am:List Pr}(h:DR S w S' W pb vb kb bk tv fv lv lv' P nb nm v am)(t:nb<w.heap.size)(s:∀k,S k->k≠nb)(j x:Nat):DR S w S' (aW W (az nb j) (iz x)) pb vb kb bk tv fv lv lv' P nb (nm.set j x) v am:=by
 have K:dV nb W (aW W (az nb j) (iz x)):=eH (bW _ _) j _;have o:=h.AH.rw;have m:=Rw.uF h.pm o;have a:∀k,PD pb vb kb lv' k->(aW W (az nb j) (iz x)).heap[k]?=W.heap[k]?:=λk l=>K.block k (h.pm.L8 l) λe=>m (e▸l);refine⟨h.pm.keep K.size (a _ (cB rfl)) (a _ (cI (cB rfl))) (a _ (cI (cI (cB rfl)))) (λb d=>a b (cI (cI (cI d)))) λg c r q=>K.block g q.lt λe=>?_,h.new,h.kept.ot K λk l=>cB (cI l),h.at_,h.AH.set j x,eP h.lC λb d=>K.block b (dI h.lC d).2 λe=>?_⟩
 .obtain p|p:=h.new g r
  .grind
  omega
 exact o.uK h.lC bS (e▸d)
theorem DR.push{w8:ay}{v8:aA}{am l:List Pr}(h:DR S w S' W pb vb kb bk tv fv lv lv' P nb nm v am)(r:aC W.heap.size W W1)(o:bD w8 w.heap.size 34 2 v8 (bB l) (lj l))(m:bH W1 w8 (aP v)):DR S w S' w8 pb vb kb bk tv fv lv lv' P nb nm v8 l:=by have a:=h.below r;have K:bI (λk=>aP v=ah k) W1 w8:=gA (bW _ W1) m λk e=>e;have t:=a.AH.rw;have d:∀k,PD pb vb kb lv' k->w8.heap[k]?=W1.heap[k]?:=λk p=>K.block k (a.pm.L8 p) λe=>a.pm.uF a.lC bS bS e p;exact⟨a.pm.keep K.size (d _ (cB rfl)) (d _ (cI (cB rfl))) (d _ (cI (cI (cB rfl)))) (λb s=>d b (cI (cI (cI s)))) λg c u q=>K.block g q.lt λe=>q.uK a.lC bS e,a.new,a.kept.ot K λk p=>cI (dI a.lC p).1,a.at_,(K.block nb (bY.1 a.AH).1 λe=>t.uK a.lC bS e).trans a.AH,o⟩
def RJ(P:Pb):Prop:=∀e∈P.vars,e.2<=P.count
theorem Bh(h:RJ P)(a):RJ (P.fD a).2∧(P.fD a).1<=(P.fD a).2.count∧P.count<=(P.fD a).2.count∧(P.fD a).2.count<=P.count+1∧(P.fD a).2.vars.length<=bB P.vars+1∧(P.fD a).2.lemmas.length<=bB P.lemmas+1:=by
 unfold Pb.fD;cases c:P.num a with
 |some x=>
  refine⟨h,?_,bT _,iD _,iD _,iD _⟩;unfold Pb.num at c;cases d:P.vars.find? λe=>decide (e.1=a) with
  |none=>rw[d] at c;cases c
  |some e=>
   rw[d] at c;cases c
   exact h e (mx d)
 |none=>
  refine⟨λe b=>?_,bT _,iD _,bT _,by simp,?_⟩
  .obtain b|b:=cU.1 b
   .exact iU (h e b)
   simp at b;subst b;exact bT _
  grind
theorem rR:∀(r:List Pr)(P:Pb),RJ P->RJ (Pb.names r P).2∧(∀x∈(Pb.names r P).1,x<=(Pb.names r P).2.count)∧P.count<=(Pb.names r P).2.count∧(Pb.names r P).2.count<=P.count+bB r∧(Pb.names r P).2.vars.length<=bB P.vars+bB r∧(Pb.names r P).2.lemmas.length<=bB P.lemmas+bB r
 | [],P,h=>⟨h,λ_ c=>by simp[Pb.names] at c,bT _,bT _,bT _,bT _⟩
 |a::r,P,h=>by let⟨b,d,e,l,m,o⟩:=Bh h a;let⟨b1,b2,b3,b4,b5,p⟩:=rR r (P.fD a).2 b;grind[Pb.names]
variable{f:Fo}
theorem XB(a:Int×Int->Nat)(d:Aj f):∀st:Sc,(∀c∈st.2,bB c<=3)->∀c∈(Cn.jj a f st).2.2,bB c<=3:=by
 have m:∀(p q:Int)(st:Sc),(∀c∈st.2,bB c<=3)->∀c∈(Cn.both p q st).2.2,bB c<=3:=by grind[Cn.both]
 induction d with
 |eq x y=>intro st h;simpa[Cn.jj] using h
 |neg f b t=>grind[Cn.jj]
 |two o f g s b r e l=>grind[Cn.jj]
def ui(f:Fo):List (List Int):=(o5 f).2.2++[[(o5 f).1]]
theorem abw(b:Aj f)(o:xj f<=1000):(∀c∈ui f,bB c<=3∧∀x∈c,x.natAbs<=(o5 f).2.1)∧bB (lC (oU f))<=(o5 f).2.1∧(o5 f).2.1<=1000∧bB (ui f)<=4002:=by
 have m:∀p∈oU f,1<=mA (lC (oU f)) p∧mA (lC (oU f)) p<=bB (lC (oU f)):=λp hp=>by
  have:p∈lC (oU f):=by rw[AJ];exact hp
  grind[mA]
 let⟨d,T⟩:=Cn.SI (mA (lC (oU f))) b (bB (lC (oU f)),[]) m;let⟨c1,c2⟩:=Cn.D4 (mA (lC (oU f))) b (bB (lC (oU f)),[]);have q:=Cn.JZ b;have a:=Gv b;have hs:=XB (mA (lC (oU f))) b (bB (lC (oU f)),[]) bQ;have l:=OL (oU f);change Cn.Told _ _ _ (o5 f).1 (o5 f).2 _ at T;change(o5 f).2.1=_ at c1;change(o5 f).2.2.length=_ at c2;change ∀c∈(o5 f).2.2,_ at hs;have h:(o5 f).2.2=d:=by rw[T.cls];rfl
 simp only[dQ,fM] at c1 c2;unfold ui;refine⟨λc a=>?_,by omega,by omega,by simp;omega⟩;obtain a|a:=cU.1 a
 .refine⟨hs c a,λx e=>?_⟩;rw[h] at a;exact(T.all c a x e).2
 simp at a;subst a;refine⟨by simp,λx e=>?_⟩;simp at e;subst e;exact T.le.2
def KY(P:Pb)(am:List Pr)(n i:Nat):List Nat:=0::((Pb.names (am.take i) P).1++aN (n-i) 0)
theorem Yt(P am)(a:i<=bB am)(b:i<=n):bB (KY P am n i)=n+1:=by unfold KY;rw[ed,cR,qD,fB,DT];omega
theorem Uz(P am){a:Pr}(b:am[i]?=ah a)(d:i<n):(KY P am n i).set (i+1) ((Pb.names (am.take i) P).2.fD a).1=KY P am n (i+1)∧(Pb.names (am.take (i+1)) P).2=((Pb.names (am.take i) P).2.fD a).2:=by
 have c:=(bU.1 b).1;have e:am.take (i+1)=am.take i++[a]:=by rw[dJ,b];rfl
 have hl:(Pb.names (am.take i) P).1.length=i:=by rw[qD,fB];omega
 unfold KY;rw[e,Cf];refine⟨?_,rfl⟩;rw[cN,gJ _ _ bO,hl,iN,show n-i=(n-(i+1))+1 by omega,lg,cK,fW];rfl
def Mg(P:Pb)(am:List Pr)(n j:Nat):List Nat:=0::((Pb.names am P).1++((aO j).map (λi=>(Pb.names am P).2.count+1+i)++aN (n-bB am-j) 0))
theorem PZ(P am n):KY P am n (bB am)=Mg P am n 0:=by grind[KY,Mg]
theorem Uy(P am)(a:bB am+j<n):(Mg P am n j).set (bB am+1+j) ((Pb.names am P).2.count+1+j)=Mg P am n (j+1):=by unfold Mg;rw[show bB am+1+j=(bB am+j)+1 by omega,cN,gJ _ _ (by rw[qD];omega),qD,Ao,gJ _ _ bQ,eG,iu,iN,show n-bB am-j=(n-bB am-(j+1))+1 by omega,lg,cK,qH,fZ,fW];rfl
theorem N7(P am)(a:bB am+j<=n):bB (Mg P am n j)=n+1:=by unfold Mg;simp only[ed,cR,eG,iu,DT,qD];omega
theorem Ys(P f):Mg P (gV f) (o5 f).2.1 ((o5 f).2.1-bB (gV f))=oS P f:=by grind[Mg,oS]
theorem Mf(h:RJ P)(f)(b:P.count<=100000)(c:(o5 f).2.1<=1000)(a:bB (gV f)<=1000):∀x∈oS P f,x<=1048576:=by grind[gV,oS,rR]
end
section
def Zz(op x y:Int)(kv:aA):Nat->aA:=λj=>if j=0 then ae af op else if j=1 then ae af x else if j=2 then ae af y else kv
structure AdF(B nb:Nat)(W:ay)(op x y:Int)(kv cv:aA)(rs:List aA)(cs:List (List Int))(u:aA)(ps:List (Int×Int)):Prop where
 box:bE W B 36 4 (Zz op x y kv)
 row:bD W B 39 1 cv (bB rs) rs
 dst:bB rs=bB cs∧Kv rs
 cls:∀(i:Nat)(c:List Int),cs[i]?=ah c->∃g cap,rs[i]?=ah (aj (ah ⟨g,0,ai⟩) (bB c) cap)∧B<=g∧g≠nb∧Rw W g c
 pr:bD W B 34 2 u (bB ps) (oV ps)
variable{B nb pb vb kb i g N base n:Nat}{W W' w W1 w8:ay}{op x y:Int}{kv cv bk tv fv lv lv' v v8 a:aA}{rs xs:List aA}{cs:List (List Int)}{ps:List (Int×Int)}
theorem AdF.keep{u:aA}(h:AdF B nb W op x y kv cv rs cs u ps){nm:List Int}(m:Rw W nb nm)(f:∀k,B<=k->k<W.heap.size->k≠nb->W'.heap[k]?=W.heap[k]?):AdF B nb W' op x y kv cv rs cs u ps:=by refine⟨h.box.of_block (f B (bT _) h.box.lt (m.Er h.box bS).symm),eP h.row λb d=>f b (dI h.row d).1 (dI h.row d).2 λe=>m.uK h.row bS (e▸d),h.dst,λi c r=>?_,eP h.pr λb d=>f b (dI h.pr d).1 (dI h.pr d).2 λe=>m.uK h.pr bS (e▸d)⟩;let⟨g,j,s,o,p,q⟩:=h.cls i c r;exact⟨g,j,s,o,p,q.block (f g o q.lt p)⟩
structure Ae(w:ay)(S':Nat->Prop)(W:ay)(pb vb kb:Nat)(bk tv fv lv lv':aA)(P:Pb)(nb:Nat)(nm:List Nat)(v:aA)(am:List Pr)(cv:aA)(rs:List aA)(cs:List (List Int))(op x y:Int)(kv:aA):Prop where
 pm:Pm S' W pb vb kb bk tv fv lv' P
 sep:∀(i g n c:Nat),rs[i]?=ah (aj (ah ⟨g,0,ai⟩) n c)->¬S' g
 lvc:∀k,aP cv=ah k->aP lv'≠ah k
 kept:bI (PD pb vb kb lv) w W
 AH:oN W nb nm
 lC:bD W w.heap.size 34 2 v (bB am) (lj am)
 box:bE W w.heap.size 36 4 (Zz op x y kv)
 row:bD W w.heap.size 39 1 cv (bB rs) rs
 dst:bB rs=bB cs∧Kv rs
 cls:∀(i:Nat)(c:List Int),cs[i]?=ah c->∃g cap,rs[i]?=ah (aj (ah ⟨g,0,ai⟩) (bB c) cap)∧w.heap.size<=g∧g≠nb∧Rw W g c
variable{S' S:Nat->Prop}{P:Pb}{nm:List Nat}{am:List Pr}
theorem Ae.below(h:Ae w S' W pb vb kb bk tv fv lv lv' P nb nm v am cv rs cs op x y kv)(b:aC W.heap.size W W'):Ae w S' W' pb vb kb bk tv fv lv lv' P nb nm v am cv rs cs op x y kv:=by refine⟨h.pm.below b,h.sep,h.lvc,h.kept.under b,(b.block nb (bY.1 h.AH).1).trans h.AH,ew h.lC b,h.box.of_block (b.block _ h.box.lt),ew h.row b,h.dst,λi c f=>?_⟩;let⟨g,d,j,k,m,e⟩:=h.cls i c f;exact⟨g,d,j,k,m,e.block (b.block g e.lt)⟩
theorem Ae.ren(h:Ae w S' W pb vb kb bk tv fv lv lv' P nb nm v am cv rs cs op x y kv){s:Nat}{c r:List Int}(J:cs[i]?=ah c)(t:rs[i]?=ah (aj (ah (az g 0)) (bB c) s))(hl:bB r=bB c)(K:bI (λk=>k=g) W W')(R:Rw W' g r):Ae w S' W' pb vb kb bk tv fv lv lv' P nb nm v am cv rs (cs.set i r) op x y kv:=by
 let⟨Q,A,E,T,L,q⟩:=h.cls i c J;rw[t] at E;cases E
 have f:∀k,PD pb vb kb lv' k->W'.heap[k]?=W.heap[k]?:=λk z=>K.block k (h.pm.L8 z) λe=>adW h.pm q (e▸z);refine⟨h.pm.keep K.size (f _ (cB rfl)) (f _ (cI (cB rfl))) (f _ (cI (cI (cB rfl)))) (λb m=>f b (cI (cI (cI m)))) λH c u I=>K.block H I.lt λe=>h.sep i _ _ _ t (e▸u),h.sep,h.lvc,h.kept.ot K λk z=>cI bO,(K.block nb (bY.1 h.AH).1 λe=>L e.symm).trans h.AH,eP h.lC λb m=>K.block b (dI h.lC m).2 λe=>q.uK h.lC bS (e▸m),h.box.of_block (K.block _ h.box.lt λe=>q.Er h.box bS e.symm),eP h.row λb m=>K.block b (dI h.row m).2 λe=>q.uK h.row bS (e▸m),⟨by rw[gd];exact h.dst.1,h.dst.2⟩,λj d D=>?_⟩;by_cases p:i=j
 .grind
 rw[uh p] at D;let⟨C,o,F,M,O,G⟩:=h.cls j d D;exact⟨C,o,F,M,O,G.block (K.block C G.lt λe=>p (h.dst.2 i j g _ _ _ _ t (e▸F)))⟩
variable{Φ:ay->Prop}{fs:List Fm}{gs:List Sx}
theorem Np.push{X:Pb}(h:Np Φ B S w pb vb kb bk tv fv lv P N fs gs)(ao:B<=w.heap.size){ka:Option aD}{kn kc:Nat}{f:Fo}(hv:Kq (Dq pb vb kb lv fv) w λW=>Hk W (.agg #[iz op,iz x,iz y,aj ka kn kc]) f)(a3:xj f<=1048576)(ap:RF f){U:Option aD}{V:Nat}(e:Ae w S' W pb vb kb bk tv fv lv lv' X nb nm v am (aj U (bB cs) V) rs cs op x y (aj ka kn kc))(a0:aP lv'=aP lv∨∀k,aP lv'=ah k->w.heap.size<=k)(F:aC W.heap.size W W1)(C:bD w8 B 172 6 v8 (bB gs+1) (gs.flatMap Ij++Ij ⟨op,x,y,ka,kn,kc,v,aj U (bB cs) V⟩))(o:bH W1 w8 (aP fv))(ab:aP v8=aP fv∨∀k,aP v8=ah k->W1.heap.size<=k):
  cz w8 pb 2 fv∧bG w8 (az pb 2)=aL∧Np Φ B S' (aW w8 (az pb 2) v8) pb vb kb bk tv v8 lv' X N (fs++[⟨am,cs,λe=>tX N e f⟩]) (gs++[⟨op,x,y,ka,kn,kc,v,aj U (bB cs) V⟩]):=by
 have q:=e.below F;have r:bD W1 B 172 6 fv (bB gs) (gs.flatMap Ij):=ew (eP h.row λb z=>e.kept.block b (dI h.row z).2 (h.pm.uF h.row bS bS z)) F;have ad:∀k,k<hz W1->aP fv≠ah k->w8.heap[k]?=W1.heap[k]?:=λk m R=>o.block k m λe=>R e.symm;have hp:aP fv≠ah pb:=dY q.pm.cells bS r;have c8:bE w8 pb 118 7 (Ek bk tv fv vb X.count lv' kb):=q.pm.cells.of_block (ad _ q.pm.cells.lt hp);have a2:aP v8≠ah pb:=dY c8 bS C;have K9:bI (λk=>k=pb) w8 (aW w8 (az pb 2) v8):=by simp_all[az,eY,bW]
 refine⟨c8.cell (i:=2) bO,c8.frozen 2,?_⟩;have a4:bE (aW w8 (az pb 2) v8) pb 118 7 (Ek bk tv v8 vb X.count lv' kb):=(c8.set 2 v8).congr (λj hj=>by grind[Ek])
 generalize aW w8 (az pb 2) v8=H at *;have a6:(hz W1)<=hz H:=bZ o.size K9.size;have G:∀k,k<hz W1->aP fv≠ah k->k≠pb->H.heap[k]?=W1.heap[k]?:=λk m R J=>(K9.block k (cQ m o.size) J).trans (ad k m R);have E:∀{base size n:Nat}{t:aE}{u:aA}{xs:List aA},bD W1 base t size u n xs->118≠t->t≠172->bD H base t size u n xs:=λ{base size n t u xs} s h1 h2=>eP s λb z=>G b (dI s z).2 (mJ s r h2 z) λe=>dY q.pm.cells h1 s (e▸z);have ag:∀{g:Nat}{c:List Int},Rw W1 g c->Rw H g c:=λ{g c} s=>s.block (G g s.lt (s.uK r bS) (s.Er q.pm.cells bS));have A:Pm S' H pb vb kb bk tv v8 lv' X:=by let⟨es,ck,m1⟩:=q.pm.vars.lt;let⟨an,al,m2⟩:=q.pm.known.lt;let⟨ls,r1,r2,r3⟩:=q.pm.rows;refine⟨a4,q.pm.vars.keep (G vb (bY.1 m1).1 (iL r m1) (iW q.pm.cells m1)),q.pm.known.keep (G kb (bY.1 m2).1 (iL r m2) (iW q.pm.cells m2)),q.pm.vk,λk m=>cQ (q.pm.lt k m) a6,ls,E r1 bS bS,r2,λi c hi=>?_⟩;let⟨g,Y,q1,q0,q2⟩:=r3 i c hi;exact⟨g,Y,q1,q0,ag q2⟩
 have M:bD H B 172 6 v8 (bB gs+1) (gs.flatMap Ij++Ij ⟨op,x,y,ka,kn,kc,v,aj U (bB cs) V⟩):=eP C λb z=>K9.block b (dI C z).2 λe=>a2 (e▸z);have KQ:bI (Dq pb vb kb lv fv) w H:=((e.kept.mono (T:=Dq pb vb kb lv fv) λk _ e=>cB e).under F).ot (bI.ot (D:=Dq pb vb kb lv fv) (gA (bW _ W1) o λk e=>cI e) K9 λk m=>cB (cB (cB m))) λk m=>cB m;have aa:∀k,Dq pb vb kb lv' v8 k->Dq pb vb kb lv fv k∨hz w<=k:=by
  rintro k ((d|d|d|d)|d)
  .exact cB (cB (cB d))
  .exact cB (cB (cI (cB d)))
  .exact cB (cB (cI (cI (cB d))))
  .obtain a|a:=a0
   .exact cB (cB (cI (cI (cI (a▸d)))))
   exact cI (a k d)
  obtain a|a:=ab
  .exact cB (cI (a▸d))
  exact cI (bZ (bZ e.kept.size F.size) (a k d))
 refine⟨A,λk m=>(aa k m).elim (h.low k) λe=>bZ ao e,by grind,by simp[h.len],λW' K'=>?_⟩;have KW:bI (Dq pb vb kb lv fv) w W':=KQ.ot K' aa;let⟨o1,o2⟩:=h.parts W' KW;refine⟨λn fm g J hg=>?_,o2⟩;by_cases ac:n<bB fs
 .rw[df ac] at J;rw[df (by rw[h.len];exact ac)] at hg;exact o1 n fm g J hg
 rw[dr bO] at J;rw[dr (by rw[h.len];omega),h.len] at hg;have a1:n-bB fs=0:=by
  have:=(bU.1 J).1;simp at this;omega
 rw[a1] at J hg;cases J
 cases hg
 have I:=E q.lC bS bS;have p:=E q.row bS bS;have a5:∀{base size n:Nat}{t:aE}{u:aA}{xs:List aA},bD H base t size u n xs->t≠172->∀k,aP u=ah k->aP v8≠ah k:=λs ht k m=>mJ s M ht m;have L:∀{base size n:Nat}{t:aE}{u:aA}{xs:List aA},bD H base t size u n xs->t≠172->(∀k,aP u=ah k->¬PD pb vb kb lv' k)->bD W' base t size u n xs:=λs ht hd=>eP s λb z=>K'.block b (dI s z).2 λe=>e.elim (hd b z) (a5 s ht b z);refine⟨f,hv W' KW,⟨a3,ap⟩,λ_=>rfl,nQ (L I bS λk m=>A.uF I bS bS m),U,V,rfl,?_⟩;have Q:bD W' (hz w) 39 1 (aj U (bB cs) V) (bB rs) rs:=L p bS (λk m=>by
  let⟨es,ck,m1⟩:=A.vars.lt;let⟨an,al,m2⟩:=A.known.lt;rintro(d|d|d|d)
  .exact dY A.cells bS p (d▸m)
  .exact iL p m1 (d▸m)
  .exact iL p m2 (d▸m)
  exact e.lvc k m d)
 have O:=Q;rw[e.dst.1] at O;obtain⟨d,h0⟩|⟨g,Y,a7,d,_⟩:=id Q.2
 .exact cB (eE (by rw[<-e.dst.1];exact h0))
 injection d with e3 e4 e5;subst e3;refine cI ⟨g,0,rfl,λi c hi=>?_⟩;change cs[i]?=ah c at hi;let⟨g2,Z,q1,q2,q3,q4⟩:=q.cls i c hi;have r9:=ag q4;refine⟨_,Z,by rw[fM,World.ownsRow.cellAt (n:=bB cs) (size:=1) O i (by have:=(bU.1 hi).1;omega)];exact q1,(r9.block (K'.block g2 r9.lt λe3=>e3.elim (adW A r9) (r9.uK M bS))).cls⟩
theorem Wn(w:ay)(a b c d e f:aA)(h:aE):∀j u,[a,b,c,d,e,f][j]?=ah u->aU (bC w (aq #[a,b,c,d,e,f] h)) ((az w.heap.size 0:aD).add j)=ah u:=by intro j u k;have m:=ey w #[a,b,c,d,e,f] h;simp_all[bU,j9,fM]
def YX:(prog.info? 172).map (λi=>(i.zero,i.size,i.bytes))=ah (ah (.agg #[iz 0,iz 0,iz 0,aj ai 0 0,aj ai 0 0,aj ai 0 0]),6,96):=bV
theorem ZY{p:Int×Int}(h:ps[i]?=ah p):(oV ps)[i*2]?=ah (iz p.1)∧(oV ps)[i*2+1]?=ah (iz p.2):=by
 induction ps generalizing i with
 |nil=>simp at h
 |cons q ps d=>
  cases i with
  |zero=>simp at h;subst h;exact⟨rfl,rfl⟩
  |succ i=>obtain⟨b,c⟩:=d (by simpa using h);rw[show(i+1)*2=i*2+2 by omega];exact⟨b,c⟩
theorem NB{l:List Pr}{p:Pr}(h:l[i]?=ah p):(lj l)[i*2]?=ah (iz p.1)∧(lj l)[i*2+1]?=ah (iz p.2):=by
 induction l generalizing i with
 |nil=>simp at h
 |cons q l d=>
  cases i with
  |zero=>simp at h;subst h;exact⟨rfl,rfl⟩
  |succ i=>obtain⟨b,c⟩:=d (by simpa using h);rw[show(i+1)*2=i*2+2 by omega];exact⟨b,c⟩
theorem NU(h:bD W base 34 2 v n xs){b:aA}(m:xs[i*2]?=ah a)(f:xs[i*2+1]?=ah b):∃g c,v=aj (ah (az g 0)) n c∧aU W ⟨g,i*2,ai⟩=ah a∧aU W ⟨g,i*2+1,ai⟩=ah b:=by
 have hl:=h.1;have o:=(bU.1 f).1;obtain⟨e,k⟩|⟨g,d,j,e,_⟩:=id h.2
 .rw[k] at hl;omega
 subst e;exact⟨g,d,rfl,by rw[h.cellAt (i*2) bO];exact m,by rw[h.cellAt (i*2+1) bO];exact f⟩
theorem AG{t:aE}(h:bD W base t 1 v n xs)(d:xs[i]?=ah a):∃g c,v=aj (ah (az g 0)) n c∧aU W (az g i)=ah a:=by
 have hl:=h.1;have k:=(bU.1 d).1;obtain⟨e,j⟩|⟨g,b,f,e,_⟩:=id h.2
 .rw[j] at hl;omega
 subst e;exact⟨g,b,rfl,by rw[h.cellAt i bO];exact d⟩
theorem Rx(w:ay)(d:w.heap.size=g)(a b:aA)(c:aE):∀j u,[a,b][j]?=ah u->aU (bC w (aq #[a,b] c)) ((az g 0:aD).add j)=ah u:=by subst d;exact xZ w a b c
theorem Zo{Φ}{B}{S}{w}{pb vb kb}{bk tv fv lv}{P}{N}{fs}{gs}(h:Np Φ B S w pb vb kb bk tv fv lv P N fs gs)(dy:B<=w.heap.size)(op x y ka kn kc f)(hv:Kq (Dq pb vb kb lv fv) w λW=>Hk W (.agg #[iz op,iz x,iz y,aj ka kn kc]) f)(da:Aj f)(fj:xj f<=1000)(dz:RF f)(fd:∀p∈lC (oU f),(0<=p.1∧p.1<=1000000)∧0<=p.2∧p.2<=1000000)(fp:RJ P)(fi:bB P.lemmas<=1000000∧P.count<=100000∧bB P.vars<=100000)(eJ:bB gs<=1000000):
  aB prog 43 #[pz pb,.agg #[iz op,iz x,iz y,aj ka kn kc]] w λe w'=>e=aw (.tuple #[])∧w.heap.size<=w'.heap.size∧∃S' cd lv' ce,Np Φ B S' w' pb vb kb bk tv cd lv' (P.sh f) N (fs++[wS N P f]) ce:=by
 let⟨ck,d0,eX,e7⟩:=abw da fj;obtain⟨n,hn⟩:=bJ ((o5 f).2.1);have e3:aC w.heap.size w (bC w (aq #[iz op,iz x,iz y,aj ka kn kc] 36)):=(cW _ _).alloc (bT _) _;have K0:bI (Dq pb vb kb lv fv) w (bC w (aq #[iz op,iz x,iz y,aj ka kn kc] 36)):=(bW _ w).alloc _;have CL:=Ni (bC w (aq #[iz op,iz x,iz y,aj ka kn kc] 36)) (hv _ K0) da bO dz _ rfl bO (o5 f) rfl;change aB _ _ _ _ (λe w'=>∃H I,e=aw (.tuple #[.slice H (bB (ui f)) I,iz ((o5 f).2.1:Int)])∧Cl2 w' H (ui f)∧Ky _ w' (.slice H (bB (ui f)) I) (ui f)∧_) at CL;obtain⟨cl,ac⟩:=bJ (bB (ui f));rw[hn,ac] at CL;rw[ac] at e7;have el:=bL CL;have R:=bL ac;have HH:=bL (b9 h (b9 hv (b9 fd (b9 fp (b9 fi (b9 ck (b9 da (b9 dz hn))))))));have Z:=bL e3;have A0:=ey w #[iz op,iz x,iz y,aj ka kn kc] 36;have y0:=A0.cell (i:=0) bQ;have y1:=A0.cell (i:=1) bQ;have y2:=A0.cell (i:=2) bQ;have y3:=A0.cell (i:=3) bQ;rw[hn] at d0 eX;obtain⟨al,a8⟩:=bJ (bB (lC (oU f)));rw[a8] at d0;have Y:=bL a8;have g3:=fq (a:=n) bO;go_enter func43,ntmps43
 go_wp2_with(go_at_call 77;refine jD el.out ?_;rintro e M ⟨H,I,rfl,_,C1,B1⟩;refine dM ?_);delta aH;obtain⟨rs,r1,r2,r3⟩:=C1;obtain⟨nb,dC⟩:=bJ M.heap.size;obtain⟨w2,cE⟩:=bJ (bC M (aq (aN (n+1) (iz 0)).toArray 3));have MK:(Instr.makeSlice 39 (iz ((n:Int)+1)) (iz ((n:Int)+1))).run prog M=.ok (aj (ah (az nb 0)) (n+1) (n+1)) w2:=by have:=wN M (n+1) bO;rw[dC,cE] at this;simpa using this
 have ch:aC w.heap.size w M:=Z.out.trans (B1.mono Z.out.size);have ci:aC M.heap.size M w2:=by rw[<-cE];exact(cW _ _).alloc (bT _) _
 have dx:=ch.trans (ci.mono ch.size);have AT:=EO w2 (HH.out.2.1 _ ((bW _ w).under dx)) bO HH.out.2.2.2.2.2.2.2.1;rw[Y.out] at AT;have g1:∀{a:aD}{u:aA},aU (bC w (aq #[iz op,iz x,iz y,aj ka kn kc] 36)) a=ah u->aU w2 a=ah u:=λhc=>((B1.trans (ci.mono B1.size)).cell (cV _ _ hc)).trans hc;have z0:=g1 y0;have z1:=g1 y1;have z2:=g1 y2;have z3:=g1 y3;have e5:AdF w.heap.size nb M op x y (aj ka kn kc) (aj H cl I) rs (ui f) (aj ai 0 0) []:=by
  refine⟨(ey w #[iz op,iz x,iz y,aj ka kn kc] 36).of_block (B1.block _ bQ) |>.congr λj hj=>?_,pB r1 bQ,r2,λi c hi=>?_,⟨rfl,cB ⟨rfl,rfl⟩⟩⟩
  .have:j=0∨j=1∨j=2∨j=3:=by simp at hj;omega
   obtain rfl|rfl|rfl|rfl:=this<;>rfl
  let⟨g,ab,q1,q2,q3⟩:=r3 i c hi;exact⟨g,ab,q1,bZ bQ q2,by have:=q3.lt;omega,q3⟩
 have ao:=bL (b9 e5 (b9 ch (b9 dC (b9 ci cE))));apply_assumption
 go_wp2_with(go_at_call 78;refine AT.mono ?_;rintro e G ⟨u,rfl,R4,B4⟩;obtain⟨ua,uc,rfl⟩:=dZ R4;refine dM ?_);delta aH;have e6:AdF w.heap.size nb G op x y (aj ka kn kc) (aj H cl I) rs (ui f) (aj ua al uc) (lC (oU f)):=by
  let⟨f1,f2,f3,f4,f5⟩:=ao.out;have J:aC M.heap.size M G:=f4.trans (B4.mono f4.size);refine⟨f1.box.of_block (J.block _ f1.box.lt),ew f1.row J,f1.dst,λi c hi=>?_,?_⟩
  .let⟨g,ab,q1,q2,q3,q4⟩:=f1.cls i c hi;exact⟨g,ab,q1,q2,q3,q4.block (J.block g q4.lt)⟩
  rw[Y.out];exact pB R4 (by have:=f2.size;have:=f4.size;omega)
 have dv:DR S G S G pb vb kb bk tv fv lv lv (Pb.names ((gV f).take 0) P).2 nb (KY P (gV f) n 0) (aj ai 0 0) ((gV f).take 0):=by
  let⟨f1,f2,f3,f4,f5⟩:=ao.out;have J:aC M.heap.size M G:=f4.trans (B4.mono f4.size);refine⟨HH.out.1.pm.below (f2.trans (J.mono f2.size)),λk F=>cB F,bW _ _,cB rfl,?_,⟨rfl,cB ⟨rfl,rfl⟩⟩⟩;have e1:KY P (gV f) n 0=aN (n+1) 0:=by unfold KY;rw[sr,Nat.sub_zero,lg];rfl
  have e2:w2.heap[nb]?=ah (aq (aN (n+1) (iz 0)).toArray 3):=by rw[<-f3,<-f5];exact eW _ _
  show G.heap[nb]?=_;rw[B4.block nb (by rw[<-f3,<-f5];simp),e2,e1];simp[i64]
 have bb:nb<G.heap.size∧w.heap.size<nb:=by
  let⟨f1,f2,f3,f4,f5⟩:=ao.out;have h1:=B4.size;have h2:=f1.box.lt;have h3:w2.heap.size=M.heap.size+1:=by rw[<-f5];simp
  omega
 have d:=bL (b9 e6 (b9 HH.out.1 HH.out.2));have bR:=bL dv.AH.rw;have b7:Hid (aC w.heap.size w G):=by let⟨f1,f2,f3,f4,f5⟩:=ao.out;have J:aC M.heap.size M G:=f4.trans (B4.mono f4.size);exact f2.trans (J.mono f2.size)
 have gg:Hid (∃S' lv',DR S G S' G pb vb kb bk tv fv lv lv' (Pb.names ((gV f).take 0) P).2 nb (KY P (gV f) n 0) (aj ai 0 0) ((gV f).take 0)):=⟨S,lv,dv⟩
 apply_assumption
 go_wp2;let⟨i0,eK,f0,f6,f7⟩:=eB Mx
 go_loopw[6,24] (λt6 dc W=>∃i:Nat,i<=al∧dc=iz i∧Hid (∃S' lv',DR S G S' W pb vb kb bk tv fv lv lv' (Pb.names ((gV f).take i) P).2 nb (KY P (gV f) n i) t6 ((gV f).take i))) λ_ dc _=>al-(aG dc).toNat
 case atStart=>grind
 case round=>
  obtain⟨i,hi,rfl,HJ⟩:=hrel;by_cases d9:i<al
  .have di:=bM i al;have gx:=fq (a:=i) bO;let⟨S1,z,r⟩:=HJ.out;have L:AdF w.heap.size nb wr op x y (aj ka kn kc) (aj H cl I) rs (ui f) (aj ua al uc) (lC (oU f)):=d.out.1.keep bR.out λk h1 h2 h3=>r.kept.block k h2 λe=>e.elim (λe=>absurd (d.out.2.1.pm.L8 e) bO) h3;have d6:i<bB (lC (oU f)):=by rw[Y.out];exact d9
   obtain⟨x1,x2,c6,g5,g6⟩:∃x1 x2:Nat,(lC (oU f))[i]?=ah ((x1:Int),(x2:Int))∧x1<=1000000∧x2<=1000000:=by have hp:=d.out.2.2.2.1 _ (dw d6);refine⟨(lC (oU f))[i].1.toNat,(lC (oU f))[i].2.toNat,?_,by omega,by omega⟩;rw[bP d6,ng hp.1.1,ng hp.2.1]
   have a1:(gV f)[i]?=ah (eT x1 x2):=by unfold gV;rw[fN,c6];rfl
   have bc:=L.pr;rw[Y.out] at bc;let⟨ub,g7,eu,q1,q2⟩:=NU bc (ZY c6).1 (ZY c6).2;cases eu
   let⟨ee,dA⟩:=Uz P (gV f) a1 (n:=n) bO;have d7:bB (KY P (gV f) n i)=n+1:=Yt P _ (by have:=(bU.1 a1).1;omega) bO;let⟨b1,b2,b3,b4,b5,b6⟩:=rR ((gV f).take i) P d.out.2.2.2.2.1;have E:bB ((gV f).take i)=i:=by rw[fB];have:=(bU.1 a1).1;omega
   have fl:(gV f).take (i+1)=(gV f).take i++[eT x1 x2]:=by rw[dJ,a1];rfl
   have dm:=BX (bC wr (aq #[iz x1,iz x2] 34)) x1 x2;rw[Up,Uo] at dm;have fb:rI (eT x1 x2):=by unfold rI eT;simp only;omega
   generalize eT x1 x2=pr at *;let⟨U,V,c9⟩:=dZ r.lC;subst c9;rw[E] at r⊢;have e4:aC wr.heap.size wr (bC (bC wr (aq #[iz x1,iz x2] 34)) (aq #[iz pr.1,iz pr.2] 34)):=((cW _ _).alloc (bT _) _).alloc bQ _;have bj:=r.below e4;have ek:=bL bj;have f8:=bj.kept.size;have be:=bj.lC;rw[E] at be;have C:=bL (b9 ee (b9 dA (b9 d7 (b9 b1 (b9 (b9 b4 (b9 b5 b6)) (b9 E fl))))))
   go_wp2_with(first|(go_at_call 79;refine dm.mono ?_;rintro e w5 ⟨rfl,rfl⟩)|(at_builtin;refine dM ?_));delta aH;refine fX _ rfl _ _ 109 rfl G.heap.size 34 i0 _ 2 16 underlying109 eK f0 f6 f7 rfl bS _ _ _ rfl (be.alloc _) (az _ 0) 1 1 [iz pr.1,iz pr.2] rfl rfl (Rx _ bQ _ _ _) cM cJ bO (bZ f8 bQ) ?_;intro v8 w8 t s _ gb;have a4:bD w8 G.heap.size 34 2 v8 (bB ((gV f).take (i+1))) (lj ((gV f).take (i+1))):=by rw[C.out.2.2.2.2.2.2,BJ,cR,E];exact t
   have bo:=ek.out.push ((cW _ _).alloc (bT _) _) a4 s;have a9:((gV f).take (i+1))[i]?=ah pr:=by rw[C.out.2.2.2.2.2.2,dr bO,E,iN];rfl
   have eh:bB ((gV f).take (i+1))=i+1:=by rw[C.out.2.2.2.2.2.2,cR,E];rfl
   let⟨g8,c8,e8,p1,p2⟩:=NU bo.lC (NB a9).1 (NB a9).2;rw[eh] at e8;subst e8;have VA:=Gq w8 bo.pm (by have:=C.out.2.2.2.2.1.2.2;rw[E] at this;omega) (by have:=C.out.2.2.2.2.1.1;rw[E] at this;omega) (by have:=C.out.2.2.2.2.1.2.1;rw[E] at this;omega) pr fb;have de:=bL bo
   go_wp2_with(go_at_call 80;refine VA.mono ?_;rintro e w9 ⟨rfl,S2,f9,X2⟩;refine dM ?_);delta aH;have bx:=de.out.step X2;have cj:∀k,S k->k≠nb:=λk F=>by have:=d.out.2.1.pm.lt k F;omega
   have a3:i+1<bB (KY P (gV f) n i):=by rw[C.out.2.2.1];omega
   have cn:=bx.AH.cell (bP a3);have fn:=bx.AH.frozen (i+1);have a6:=bx.name bb.1 cj (i+1) ((Pb.names ((gV f).take i) P).2.fD pr).1;rw[C.out.1,<-C.out.2.1] at a6;have b0:Hid (∃S' lv',DR S G S' (aW w9 (az nb (i+1)) (iz (((Pb.names ((gV f).take i) P).2.fD pr).1:Int))) pb vb kb bk tv fv lv lv' (Pb.names ((gV f).take (i+1)) P).2 nb (KY P (gV f) n (i+1)) (aj (ah (az g8 0)) (i+1) c8) ((gV f).take (i+1))):=⟨S2,f9,a6⟩
   generalize(KY P (gV f) n i)[i+1]=zz at *;have ba:i+1<n+1:=bO
   apply_assumption
   go_wp2;exact⟨⟨i+1,d9,by simp,b0⟩,by simp[aG];omega⟩
  have di:=bN i al;obtain rfl:i=al:=bO
  let⟨S1,z,r⟩:=HJ.out;have Q:bB (gV f)=i:=by unfold gV;rw[eG];exact Y.out
  have eg:(gV f).take i=gV f:=eF bO;let⟨U,V,c9⟩:=dZ r.lC;subst c9;rw[eg,Q] at r;rw[eg,Q];have e0:=PZ P (gV f) n;rw[Q] at e0;rw[e0] at r;have Z:Hid (DR S G S1 wr pb vb kb bk tv fv lv z {(Pb.names (gV f) P).2 with count:=(Pb.names (gV f) P).2.count+0} nb (Mg P (gV f) n 0) (aj U i V) (gV f)):=r;have A:=bL Q;have gf:=fq (a:=i) bO
  go_wp2
  go_loopw[10] (λdb W=>∃j:Nat,i+j<=n∧db=iz ((i+1+j:Nat):Int)∧Hid (DR S G S1 W pb vb kb bk tv fv lv z {(Pb.names (gV f) P).2 with count:=(Pb.names (gV f) P).2.count+j} nb (Mg P (gV f) n j) (aj U i V) (gV f))) λdb _=>n+1-(aG db).toNat
  case atStart=>exact⟨0,by omega,by simp,Z⟩
  case round=>
   obtain⟨j,hj,rfl,HK⟩:=hrel;clear Z;by_cases T:i+j<n
   .have dj:aM (((i+1+j:Nat):Int)<=(n:Int))=aK:=cZ bO;have ei:IntKind.i64.wrap (((i+1+j:Nat):Int)+1)=((i+1+(j+1):Nat):Int):=by rw[fq bO];omega
    let⟨b1,b2,b3,b4,b5,b6⟩:=rR (gV f) P d.out.2.2.2.2.1;have ck:=d.out.2.2.2.2.2.1.2.1;rw[A.out] at b4;have r:=HK.out;have c4:=r.pm.cells.cell (i:=4) bO;have f4:=r.pm.cells.frozen 4;simp only[Ek] at c4;have fu:IntKind.i64.wrap ((((Pb.names (gV f) P).2.count+j:Nat):Int)+1)=(((Pb.names (gV f) P).2.count+(j+1):Nat):Int):=by rw[fq bO];omega
    have X:=r.step (r.pm.count ((Pb.names (gV f) P).2.count+(j+1)));have cj:∀k,S k->k≠nb:=λk F=>by have:=d.out.2.1.pm.lt k F;omega
    have c7:=Uy P (gV f) (n:=n) (j:=j) (by rw[A.out];exact T);have d8:=N7 P (gV f) (n:=n) (j:=j) (by rw[A.out];exact hj);rw[A.out] at c7;have a3:i+1+j<bB (Mg P (gV f) n j):=by rw[d8];omega
    have an:=X.name bb.1 cj (i+1+j) ((Pb.names (gV f) P).2.count+1+j);rw[c7] at an;have cn:=X.AH.cell (bP a3);have fn:=X.AH.frozen (i+1+j);have ds:=X.pm.cells.cell (i:=4) bO;simp only[Ek] at ds;generalize(Mg P (gV f) n j)[i+1+j]=zz at *;have cb:(Pb.names (gV f) P).2.count+(j+1)=(Pb.names (gV f) P).2.count+1+j:=bO
    rw[cb] at an ds fu cn fn;have HF:Hid (DR S G S1 (aW (aW wr (az pb 4) (iz (((Pb.names (gV f) P).2.count+1+j:Nat):Int))) ⟨nb,i+1+j,ai⟩ (iz (((Pb.names (gV f) P).2.count+1+j:Nat):Int))) pb vb kb bk tv fv lv z {(Pb.names (gV f) P).2 with count:=(Pb.names (gV f) P).2.count+(j+1)} nb (Mg P (gV f) n (j+1)) (aj U i V) (gV f)):=by rw[cb];exact an
    clear r X an HK b1 b2 b3 b4 b5 b6 ck c7 d8 a3 cb;have ba:i+1+j<n+1:=bO
    generalize e9:(Pb.names (gV f) P).2.count+j=cq at *;generalize eC:(Pb.names (gV f) P).2.count+1+j=cr at *;clear e9 eC;obtain⟨k,F⟩:=bJ (i+1+j);have cp:i+1+(j+1)=k+1:=bO
    have ap:=bL (b9 F (b9 cp T));rw[F] at ba dj ei cn fn HF;rw[cp] at ei;simp only[F];clear F cp T hj
    go_wp2;refine⟨⟨j+1,by have:=ap.out.2.2;omega,?_,HF⟩,?_⟩
    .rw[ap.out.2.1];simp
    have h1:=ap.out.1;have h2:=ap.out.2.2;simp[aG];omega
   have dj:aM (((i+1+j:Nat):Int)<=(n:Int))=aL:=cP bO;have co:j=n-i:=bO
   have HE:Hid (Mg P (gV f) n j=oS P f∧({(Pb.names (gV f) P).2 with count:=(Pb.names (gV f) P).2.count+j}:Pb)=P.sh f):=by
    have dN:=d.out.2.2.2.2.2.2.2.2.2;constructor
    .rw[<-Ys P f,dN,A.out,<-co]
    unfold Pb.sh;rw[dN,A.out,<-co]
   have o:Ae w S1 wr pb vb kb bk tv fv lv z (P.sh f) nb (oS P f) (aj U i V) (gV f) (aj H cl I) rs (((ui f).take 0).map (λc=>c.map (pH (oS P f)))++(ui f).drop 0) op x y (aj ka kn kc):=by
    have r:=HK.out;rw[HE.out.1,HE.out.2] at r;have L:AdF w.heap.size nb wr op x y (aj ka kn kc) (aj H cl I) rs (ui f) (aj ua i uc) (lC (oU f)):=d.out.1.keep bR.out λk h1 h2 h3=>r.kept.block k h2 λe=>e.elim (λe=>absurd (d.out.2.1.pm.L8 e) bO) h3;rw[show((ui f).take 0).map (λc=>c.map (pH (oS P f)))++(ui f).drop 0=ui f by simp];refine⟨r.pm,λj g m c hj hg=>?_,λk F e=>?_,((bW (PD pb vb kb lv) w).under b7.out).ot r.kept (λk e=>e.imp id λe=>by omega),r.AH,pB r.lC b7.out.size,L.box,L.row,L.dst,L.cls⟩
    .have T:j<bB (ui f):=by rw[<-L.dst.1];exact(bU.1 hj).1
     let⟨g2,ga,q1,q2,q3,q4⟩:=d.out.1.cls j _ (bP T);rw[hj] at q1;cases q1
     have gc:=q4.lt;obtain e|e:=r.new g hg
     .have:=d.out.2.1.pm.lt g e;omega
     omega
    have gv:=dI d.out.1.row F;obtain e1|e1:=r.at_
    .have:=d.out.2.1.pm.L8 (k:=k) (cI (cI (cI (e1▸e))));omega
    have:=e1 k e;omega
   have d5:aP z=aP lv∨∀k,aP z=ah k->w.heap.size<=k:=HK.out.at_.imp id λe k F=>bZ bO (e k F);have dk:=bL o;have dg:=bL d5;obtain⟨k,F⟩:=bJ (i+1+j);have go:aM (k<=n)=aL:=cP bO;rw[F] at dj;simp only[F];have dE:bB (oS P f)=n+1:=by rw[<-HE.out.1];exact N7 P (gV f) (by rw[A.out];exact hj)
   have a0:=bL dE;clear o d5 HE HK T hj co F dE
   go_wp2
   go_loopw[72] (λdd W=>∃q:Nat,q<=cl∧dd=iz q∧Hid (Ae w S1 W pb vb kb bk tv fv lv z (P.sh f) nb (oS P f) (aj U i V) (gV f) (aj H cl I) rs (((ui f).take q).map (λc=>c.map (pH (oS P f)))++(ui f).drop q) op x y (aj ka kn kc))) λdd _=>cl-(aG dd).toNat
   case atStart=>exact⟨0,dt _,rfl,dk⟩
   case round=>
    obtain⟨q,hq,rfl,HQ⟩:=hrel;clear dk;by_cases eb:q<cl
    .have dq:=bM q cl;have g4:=fq (a:=q) bO;have a5:q<bB (ui f):=by rw[R.out];exact eb
     have cm:=bP a5;have ea:=d.out.2.2.2.2.2.2.1 _ (dw a5);have cy:(((ui f).take q).map (λc=>c.map (pH (oS P f)))++(ui f).drop q)[q]?=ah (ui f)[q]:=by rw[dr bX,lS,eG,fB,ik bO,iN,fH];exact cm
     have ec:(((ui f).take q).map (λc=>c.map (pH (oS P f)))++(ui f).drop q).set q ((ui f)[q].map (pH (oS P f)))=((ui f).take (q+1)).map (λc=>c.map (pH (oS P f)))++(ui f).drop (q+1):=by rw[gJ _ _ bX,eG,fB,ik bO,iN,dP a5,cK,dJ,cm,fE,fZ,fW];rfl
     let⟨g,ab,p1,p2,p3,p4⟩:=HQ.out.cls q _ cy;have ag:=HQ.out.row;rw[d.out.1.dst.1,R.out] at ag;let⟨cg,gk,ez,p5⟩:=AG ag p1;cases ez
     have RN:=PG ab p4 bO nb (n+1) (oS P f) (λj m hj=>HQ.out.AH.cell hj) p3 (λx hx=>by rw[a0.out];have:=ea.2 x hx;rw[d.out.2.2.2.2.2.2.2.2.2] at this;omega) (by rw[a0.out];omega) (Mf d.out.2.2.2.2.1 f d.out.2.2.2.2.2.1.2.1 (by rw[d.out.2.2.2.2.2.2.2.2.2];omega) (by rw[A.out];omega));rw[a0.out] at RN;have eo:Hid (∀W',bI (λk=>k=g) wr W'->Rw W' g ((ui f)[q].map (pH (oS P f)))->Ae w S1 W' pb vb kb bk tv fv lv z (P.sh f) nb (oS P f) (aj U i V) (gV f) (aj (ah (az cg 0)) cl I) rs (((ui f).take (q+1)).map (λc=>c.map (pH (oS P f)))++(ui f).drop (q+1)) op x y (aj ka kn kc)):=λW' K hr=>by rw[<-ec];exact HQ.out.ren cy p1 bQ K hr
     generalize(ui f)[q]=c at *;generalize(c.map (pH (oS P f)))=c2 at *;generalize bB c=cn at *;clear HQ cm ea cy ec p1 p2 p3 p4 ag a5
     go_wp2_with(go_at_call 81;refine RN.mono ?_;rintro e w9 ⟨rfl,R9,K9⟩);exact⟨⟨q+1,eb,by simp,eo.out w9 K9 R9⟩,by simp[aG];omega⟩
    have dq:=bN q cl;obtain rfl:q=cl:=bO
    have cx:bB ((ui f).map λc=>c.map (pH (oS P f)))=q:=by rw[eG];exact R.out
    have o:Ae w S1 wr pb vb kb bk tv fv lv z (P.sh f) nb (oS P f) (aj U i V) (gV f) (.slice H (bB ((ui f).map λc=>c.map (pH (oS P f)))) I) rs ((ui f).map λc=>c.map (pH (oS P f))) op x y (aj ka kn kc):=by have:=HQ.out;rw[eF (by rw[R.out];exact bT _),sA (by rw[R.out];exact bT _),gC] at this;rw[cx];exact this
    let⟨fa,fc,eI⟩:=dZ d.out.2.1.row;subst eI;have bi:bD wr B 172 6 (aj fa (bB gs) fc) (bB gs) (gs.flatMap Ij):=eP d.out.2.1.row λb hb=>o.kept.block b (dI d.out.2.1.row hb).2 (d.out.2.1.pm.uF d.out.2.1.row bS bS hb);have c2:=o.pm.cells.cell (i:=2) bO;simp only[Ek] at c2;have et:∀O,aU (bC wr O) (az pb 2)=ah (aj fa (bB gs) fc):=λO=>fF _ c2;have k0:=o.box.cell (i:=0) bO;have k1:=o.box.cell (i:=1) bO;have k2:=o.box.cell (i:=2) bO;have k3:=o.box.cell (i:=3) bO;simp only[Zz] at k0 k1 k2 k3;have ej:=o.kept.size;have a7:=bL o;have dl:=bL cx;let⟨j0,eL,fx,fy,fz⟩:=eB YX;clear HQ o cx hq;obtain⟨gn,a2⟩:=bJ (bB gs);have aa:=bL a2;rw[a2] at eJ bi c2;simp only[a2] at et;clear a2;have gt:B<=wr.heap.size:=bZ dy ej;have em:Hid (∀(w8:ay)(v8:aA),bD w8 B 172 6 v8 (gn+1) (gs.flatMap Ij++[iz op,iz x,iz y,aj ka kn kc,aj U i V,aj H q I])->(bC wr (aq #[iz op,iz x,iz y,aj ka kn kc,aj U i V,aj H q I] 172)).drew.grownBy w8 (aP (aT fa gn fc))->(aP v8=aP (aT fa gn fc)∨∀k,aP v8=ah k->(bC wr (aq #[iz op,iz x,iz y,aj ka kn kc,aj U i V,aj H q I] 172)).drew.heap.size<=k)->
      cz w8 pb 2 (aj fa gn fc)∧bG w8 (az pb 2)=aL∧w.heap.size<=(aW w8 (az pb 2) v8).heap.size∧∃S' cd lv' ce,Np Φ B S' (aW w8 (az pb 2) v8) pb vb kb bk tv cd lv' (P.sh f) N (fs++[wS N P f]) ce):=λw8 v8 o8 g8 l8=>by
     have D:=d.out.2.1.push (W1:=(bC wr (aq #[iz op,iz x,iz y,aj ka kn kc,aj U i V,aj H q I] 172)).drew) (w8:=w8) (v8:=v8) dy d.out.2.2.1 bO d.out.2.2.2.2.2.2.2.2.1 a7.out dg.out (nK wr _) (by rw[aa.out,dl.out];exact o8) (by rw[aa.out];exact g8) (by rw[aa.out];exact l8);rw[aa.out] at D;exact⟨D.1,D.2.1,bZ ej (bZ (nK wr _).size (bZ g8.size (eH (bW _ w8) 2 v8).size)),_,_,_,_,D.2.2⟩
    clear d a7 dg bR b7 A a0 R dl aa
    go_wp2;go_region_law(first|(refine fe rfl (.tmp 84) (.tmp 89) 115 rfl B 172 j0 _ 6 96 underlying115 eL fx fy fz rfl bS (aj fa gn fc) gn (gs.flatMap Ij) iC (by exact fT bi _) (az wr.heap.size 0) 1 1 [iz op,iz x,iz y,aj ka kn kc,aj U i V,aj H q I] iC rfl (Wn wr _ _ _ _ _ _ _) cM cJ bO bX ?_;intro v8 w8 t s ad;let⟨b8,k8,fm⟩:=ownsRow_succ t;let⟨d1,d2,d3,d4⟩:=em.out w8 v8 t s ad;have HF:=bL (b9 d3 d4);subst fm;clear t s ad d3 d4));all_goals
     try simp only[aQ,cD,cw,ct,cf,cN,cK]
     go_wp2;refine⟨rfl,.tuple #[],by simp[aI,results43],rfl,HF.out.1,HF.out.2⟩
structure Tl(w W:ay)(pb vb kb:Nat)(bk tv:aA)(l:List Tm)(i:Nat):Prop where
 pm:Pm (λ_=>False) W pb vb kb bk tv (aj ai 0 0) (aj ai 0 0) nF
 ge:w.heap.size<=pb∧w.heap.size<=vb∧w.heap.size<=kb
 kB:aC w.heap.size w W
 row:∃xs,bD W w.heap.size 102 2 tv i xs∧∀(j:Nat)(t:Tm),j<i->l[j]?=ah t->xs[j*2]?=ah (.string t.name)∧∃u,xs[j*2+1]?=ah u∧Kq (λk=>k=pb∨k=vb∨k=kb∨aP tv=ah k) W λW'=>pQ W' u t.args
variable{l:List Tm}
theorem Tl.below(h:Tl w W pb vb kb bk tv l i)(b:aC W.heap.size W W'):Tl w W' pb vb kb bk tv l i:=by let⟨xs,p,q⟩:=h.row;refine⟨h.pm.below b,h.ge,h.kB.trans (b.mono h.kB.size),xs,ew p b,λj t c d=>?_⟩;let⟨f,u,m,o⟩:=q j t c d;exact⟨f,u,m,o.step ((bW _ W).under b) λk e=>cB e⟩
theorem Tl.push{t:Tm}(h:Tl w W pb vb kb bk tv l i)(ht:l[i]?=ah t)(s:aC W.heap.size W W1)(Q:bD W w.heap.size 102 2 tv i xs∧∀(j:Nat)(t:Tm),j<i->l[j]?=ah t->xs[j*2]?=ah (.string t.name)∧∃u,xs[j*2+1]?=ah u∧Kq (λk=>k=pb∨k=vb∨k=kb∨aP tv=ah k) W λW'=>pQ W' u t.args){V:Nat}(O:bD W1 V 3 1 v (bB t.args) (qZ t.args))(q:bD w8 w.heap.size 102 2 v8 (i+1) (xs++[.string t.name,v]))(d:bH W1 w8 (aP tv))(I:aP v8=aP tv∨∀k,aP v8=ah k->W1.heap.size<=k):
  cz w8 pb 1 tv∧bG w8 (az pb 1)=aL∧Tl w (aW w8 (az pb 1) v8) pb vb kb bk v8 l (i+1):=by
 have m:=h.below s;have f:=ew Q.1 s;have J:∀k,k<hz W1->aP tv≠ah k->w8.heap[k]?=W1.heap[k]?:=λk o A=>d.block k o λe=>A e.symm;have hp:aP tv≠ah pb:=dY m.pm.cells bS f;have M:bE w8 pb 118 7 (Ek bk tv (aj ai 0 0) vb 0 (aj ai 0 0) kb):=m.pm.cells.of_block (J _ m.pm.cells.lt hp);have aa:aP v8≠ah pb:=dY M bS q;have U:bI (λk=>k=pb) w8 (aW w8 (az pb 1) v8):=eY (S:=λk=>k=pb) (bW _ w8) (p:=az pb 1) rfl v8;refine⟨M.cell (i:=1) bO,M.frozen 1,?_⟩;have ab:bE (aW w8 (az pb 1) v8) pb 118 7 (Ek bk v8 (aj ai 0 0) vb 0 (aj ai 0 0) kb):=(M.set 1 v8).congr (λj hj=>by grind[Ek])
 generalize aW w8 (az pb 1) v8=G at *;have E:∀k,k<hz W1->aP tv≠ah k->k≠pb->G.heap[k]?=W1.heap[k]?:=λk o A hn=>(U.block k (cQ o d.size) hn).trans (J k o A);have F:Pm (λ_=>False) G pb vb kb bk v8 (aj ai 0 0) (aj ai 0 0) nF:=by let⟨es,ck,R⟩:=m.pm.vars.lt;let⟨Y,X,T⟩:=m.pm.known.lt;let⟨ls,r1,r2,r3⟩:=m.pm.rows;refine⟨ab,m.pm.vars.keep (E vb (bY.1 R).1 (iL f R) (iW m.pm.cells R)),m.pm.known.keep (E kb (bY.1 T).1 (iL f T) (iW m.pm.cells T)),m.pm.vk,λk o=>o.elim,ls,eP r1 (λb r=>by cases r),r2,λi c hi=>by simp[nF] at hi⟩
 have L:bD G (hz w) 102 2 v8 (i+1) (xs++[.string t.name,v]):=eP q λb r=>U.block b (dI q r).2 λe=>aa (e▸r);have KQ:bI (λk=>k=pb∨k=vb∨k=kb∨aP tv=ah k) W G:=((bW (λk=>k=pb∨k=vb∨k=kb∨aP tv=ah k) W).under s).ot (bI.ot (D:=λk=>k=pb∨k=vb∨k=kb∨aP tv=ah k) (gA (bW _ W1) d λk e=>cI (cI (cI e))) U λk o=>cB (cB o)) λk o=>cB o;have hD:∀k,(k=pb∨k=vb∨k=kb∨aP v8=ah k)->(k=pb∨k=vb∨k=kb∨aP tv=ah k)∨hz W<=k:=by
  rintro k (e|e|e|e)
  .exact cB (cB e)
  .omega
  .omega
  obtain a|a:=I
  .grind
  exact cI (bZ s.size (a k e))
 have z:=Q.1.1;have H:bz w G:=h.kB.trans (KQ.below h.kB.size (λk o=>by
  obtain e|e|e|e:=o
  .rw[e];exact h.ge.1
  .rw[e];exact h.ge.2.1
  .rw[e];exact h.ge.2.2
  exact(dI Q.1 e).1))
 refine⟨F,h.ge,H,_,L,λj t' hj C=>?_⟩;by_cases Z:j<i
 .let⟨q1,u,q2,q3⟩:=Q.2 j t' Z C;exact⟨by grind,u,by grind,q3.step KQ hD⟩
 obtain rfl:j=i:=bO
 rw[ht] at C;cases C
 refine⟨by rw[dr bO,z,iN];rfl,v,by rw[dr bO,z,Ao];rfl,λW' K'=>?_⟩;have o9:bD G V 3 1 v (bB t.args) (qZ t.args):=eP O λb r=>E b (dI O r).2 (mJ O f bS r) λe=>dY m.pm.cells bS O (e▸r);let⟨es,ck,R⟩:=F.vars.lt;let⟨Y,X,T⟩:=F.known.lt;refine pU (base:=V) (eP o9 λb r=>K'.block b (dI o9 r).2 ?_);grind[dY,iL,mJ]
theorem Tl.np(h:Tl w W pb vb kb bk tv l (bB l)):∃c d,tv=aj c (bB l) d∧Np (λW=>aC w.heap.size w W∧sR W (aj c (bB l) d) l) w.heap.size (λ_=>False) W pb vb kb bk (aj c (bB l) d) (aj ai 0 0) (aj ai 0 0) nF (bB l) [] []:=by
 let⟨xs,f,F⟩:=h.row;obtain⟨c,d,rfl⟩:=dZ f;refine⟨c,d,rfl,h.pm,?_,⟨rfl,cB ⟨rfl,rfl⟩⟩,rfl,λW' K=>⟨λn G g A=>by simp at A,?_,?_⟩⟩
 .rintro k ((e|e|e|e)|e)
  .rw[e];exact h.ge.1
  .rw[e];exact h.ge.2.1
  .rw[e];exact h.ge.2.2
  .cases e
  cases e
 .refine h.kB.trans (K.below h.kB.size ?_);rintro k ((e|e|e|e)|e)
  .rw[e];exact h.ge.1
  .rw[e];exact h.ge.2.1
  .rw[e];exact h.ge.2.2
  .cases e
  cases e
 have m:bD W' (hz w) 102 2 (aj c (bB l) d) (bB l) xs:=eP f (λb p=>K.block b (dI f p).2 λe=>e.elim (h.pm.uF f bS bS p) λe=>by cases e);refine⟨c,d,rfl,?_⟩;obtain⟨o,H⟩|⟨g,r,s,o,_⟩:=id m.2
 .grind
 cases o
 refine cI ⟨g,0,rfl,λj t q=>?_⟩;have z:=(bU.1 q).1;let⟨C,u,D,E⟩:=F j t z q;refine⟨by rw[fM,m.cellAt (j*2) bO];exact C,u,by rw[fM,m.cellAt (j*2+1) bO];exact D,E W' (K.mono λk _ e=>?_)⟩;obtain(e|e|e|e)|e:=e
 .exact cB e
 .exact cI (cB e)
 .omega
 .cases e
 cases e
def FsM(W:ay)(pa:Option aD)(fos:List Fo):Prop:=∀(i:Nat)(f:Fo),fos[i]?=ah f->∃(b off:Nat)(op x y:Int)(ka:Option aD)(kn kc:Nat),pa=ah ⟨b,off,ai⟩∧(aU W ⟨b,off+i*4,ai⟩=ah (ae af op)∧aU W ⟨b,off+i*4+1,ai⟩=ah (ae af x)∧aU W ⟨b,off+i*4+2,ai⟩=ah (ae af y)∧aU W ⟨b,off+i*4+3,ai⟩=ah (aj ka kn kc))∧Hk W (.agg #[ae af op,ae af x,ae af y,aj ka kn kc]) f
theorem uW(n):∀(r:List Fo)(P:Pb)(fs:List Fm),(Pb.iO n r P fs).2.length=bB fs+bB r
 | [],_,_=>rfl
 |f::r,P,fs=>by rw[Pb.iO,uW n r,cR];grind
structure EY(N:Nat)(fos:List Fo):Prop where
 each:∀f∈fos,Aj f∧xj f<=1000∧RF f∧∀p∈lC (oU f),(0<=p.1∧p.1<=1000000)∧0<=p.2∧p.2<=1000000
 sd:bB fos<=1000
 small:∀i,i<=bB fos->RJ (Pb.iO N (fos.take i) nF []).1∧(Pb.iO N (fos.take i) nF []).1.lemmas.length<=1000000∧(Pb.iO N (fos.take i) nF []).1.count<=100000∧(Pb.iO N (fos.take i) nF []).1.vars.length<=100000
def ZL(w:ay)(p:Nat)(l:List Tm)(fos:List Fo)(e:Ending)(w':ay):Prop:=
 ∃pb vb kb ta tc fv lv S gs,e=aw (ak (ah ⟨pb,0,ai⟩))∧Np (λW=>aC w.heap.size w W∧sR W (aj ta (bB l) tc) l) w.heap.size S w' pb vb kb (ak (ah ⟨p,0,ai⟩)) (aj ta (bB l) tc) fv lv (Pb.iO (bB l) fos nF []).1 (bB l) (Pb.iO (bB l) fos nF []).2 gs
def Np.below(h:Np Φ B S W pb vb kb bk tv fv lv P N fs gs)(b:aC W.heap.size W W'):Np Φ B S W' pb vb kb bk tv fv lv P N fs gs:=
 ⟨h.pm.below b,h.low,ew h.row b,h.len,h.parts.step ((bW _ W).under b) λ_ e=>cB e⟩
theorem Tl.start(w bk l):Tl w (bC (bC (bC w (.map #[] 0)) (.map #[] 0)) (aq #[bk,aj ai 0 0,aj ai 0 0,.map (ah w.heap.size),iz 0,aj ai 0 0,.map (ah (w.heap.size+1))] 118)) (w.heap.size+1+1) w.heap.size (w.heap.size+1) bk (aj ai 0 0) l 0:=by
 have b:bz w (bC (bC (bC w (.map #[] 0)) (.map #[] 0)) (aq #[bk,aj ai 0 0,aj ai 0 0,.map (ah (hz w)),iz 0,aj ai 0 0,.map (ah (hz w+1))] 118)):=(((cW _ _).alloc (bT _) _).alloc bQ _).alloc bX _;have k0:=ue.new (bC w (.map #[] 0));have R:=ey (bC (bC w (.map #[] 0)) (.map #[] 0)) #[bk,aj ai 0 0,aj ai 0 0,.map (ah (hz w)),iz 0,aj ai 0 0,.map (ah (hz w+1))] 118;have h:(bC w (.map #[] 0)).heap.size=hz w+1:=bQ
 have m:(bC (bC w (.map #[] 0)) (.map #[] 0)).heap.size=hz w+1+1:=bQ
 rw[h] at k0;rw[m] at R;refine⟨⟨R.congr λj d=>?_,((pO.new w).keep (jd _ _ bQ)).keep (jd _ _ bX),k0.keep (jd _ _ bQ),by omega,λk f=>f.elim,[],⟨rfl,cB ⟨rfl,rfl⟩⟩,rfl,λi c e=>by simp[nF] at e⟩,by omega,b,[],⟨rfl,cB ⟨rfl,rfl⟩⟩,λj t d=>by omega⟩;have:j=0∨j=1∨j=2∨j=3∨j=4∨j=5∨j=6:=by simp at d;omega
 obtain rfl|rfl|rfl|rfl|rfl|rfl|rfl:=this<;>rfl
theorem rZ{w}{base p}{ev}{nb fb}{l}(h:Bk w base p ev nb fb l)(hl:bB l<=1000){pa}(pc){c}(hF:FsM w pa c)(L:EY (bB l) c):
  aB prog 21 #[pz p,aj pa (bB c) pc] w (ZL w p l c):=by
 have a0:Hid _:=Tl.start w (pz p) l;have X:=bL (b9 h (b9 hF L));have q:aC w.heap.size w (bC (bC (bC w (.map #[] 0)) (.map #[] 0)) (aq #[pz p,aj ai 0 0,aj ai 0 0,.map (ah w.heap.size),iz 0,aj ai 0 0,.map (ah (w.heap.size+1))] 118)):=(((cW _ _).alloc (bT _) _).alloc bQ _).alloc bX _;have SZ:=vx _ (h.below h.low q);have a4:=L.sd;obtain⟨nf,J⟩:=bJ (bB c);have Y:=bL J;rw[J] at a4⊢;clear h hF L q J;let⟨i0,a6,bi,bj,bo⟩:=eB Ju;have a8:=@rA prog;go_enter func21,ntmps21
 go_wp2_with(go_at_call 35;refine SZ.mono ?_;rintro e w9 ⟨rfl,rfl⟩);clear SZ a8;generalize bC (bC (bC w (.map #[] 0)) (.map #[] 0)) (aq #[pz p,aj ai 0 0,aj ai 0 0,.map (ah w.heap.size),iz 0,aj ai 0 0,.map (ah (w.heap.size+1))] 118)=w1 at *;obtain⟨pb,ag⟩:=bJ (w.heap.size+1+1);obtain⟨kb,a7⟩:=bJ (w.heap.size+1);obtain⟨vb,bc⟩:=bJ w.heap.size;have a1:Hid (Tl w w1 pb vb kb (pz p) (aj ai 0 0) l 0):=cG
 simp only[ag];clear a0 ag a7 bc;obtain⟨T,A⟩:=bJ (bB l);have G:=bL A;simp only[A];rw[A] at hl;clear A
 go_loopw[18] (λM W=>∃(i:Nat)(tv:aA),i<=T∧M=iz i∧Hid (Tl w W pb vb kb (pz p) tv l i)) λM _=>T-(aG M).toNat
 case atStart=>grind
 case round=>
  obtain⟨i,tv,hi,rfl,F⟩:=hrel;clear a1;by_cases I:i<T
  .have di:=bM i T;have bR:=fq (a:=i) bO;have ht:l[i]?=ah (l[i]'(by rw[G.out];exact I)):=bP _;generalize l[i]'(by rw[G.out];exact I)=t at ht;have TS:=D7 (X.out.1.below X.out.1.low F.out.kB) i t ht;let⟨xs,hx⟩:=F.out.row;let⟨d,f,ba⟩:=dZ hx.1;subst ba;have E:Hid (∀W,aC wr.heap.size wr W->cz W pb 1 (aj d i f)):=λW hB=>by
    have:=(F.out.below hB).pm.cells.cell (i:=1) bO;exact this
   go_wp2_with(go_at_call 36;refine TS.mono ?_;rintro e C ⟨v,rfl,O5,B5⟩;refine dM ?_);delta aH;have U:aC wr.heap.size wr (bC C (aq #[.string t.name,v] 102)):=B5.trans (((cW _ _).alloc (bT _) _).mono B5.size);have T6:=F.out.below U;have c1:=E.out _ U;have O6:=ew O5 ((cW _ C).alloc (bT _) (aq #[.string t.name,v] 102));have y0:aU (bC C (aq #[.string t.name,v] 102)) (az C.heap.size 0)=ah (.string t.name):=bQ
   have y1:aU (bC C (aq #[.string t.name,v] 102)) (az C.heap.size 1)=ah v:=bQ
   have s:Hid (bD (bC C (aq #[.string t.name,v] 102)) w.heap.size 102 2 (aj d i f) i xs∧_∧_∧_):=b9 (ew hx.1 U) (b9 O6 (b9 T6 (b9 hx F.out)));let⟨m,o,be⟩:=dZ O5;subst be;clear T6 O6 O5 hx F E TS;apply_assumption
   go_wp2;have z6:=U.size;have zb:w.heap.size<=wr.heap.size:=s.out.2.2.2.2.kB.size;have V:=bL U;generalize bC C (aq #[.string t.name,aj m (bB t.args) o] 102)=R at *;have b6:∀O,aU (bC R O) (az pb 1)=ah (aj d i f):=λO=>fF _ c1;have ao:Hid (∀(w8:ay)(v8:aA),bD w8 w.heap.size 102 2 v8 (i+1) (xs++[.string t.name,aj m (bB t.args) o])->(bC R (aq #[.string t.name,aj m (bB t.args) o] 102)).drew.grownBy w8 (aP (aT d i f))->(aP v8=aP (aT d i f)∨∀k,aP v8=ah k->(bC R (aq #[.string t.name,aj m (bB t.args) o] 102)).drew.heap.size<=k)->
     cz w8 pb 1 (aj d i f)∧bG w8 (az pb 1)=aL∧Tl w (aW w8 (az pb 1) v8) pb vb kb (pz p) v8 l (i+1)):=λw8 v8 o8 g8 l8=>by
    have b7:=nK R (aq #[.string t.name,aj m (bB t.args) o] 102);exact s.out.2.2.2.2.push ht (V.out.trans (b7.mono V.out.size)) s.out.2.2.2.1 (ew s.out.2.1 b7) o8 g8 l8
   have al:=s.out.1;generalize C.heap.size=x5 at *;have cb:w.heap.size<=R.heap.size:=bO
   go_region_law(first|(refine fe rfl (.tmp 31) (.tmp 33) 59 rfl w.heap.size 102 i0 _ 2 40 underlying59 a6 bi bj bo rfl bS (aj d i f) i xs iC (by exact fT al _) (az R.heap.size 0) 1 1 [.string t.name,aj m (bB t.args) o] iC rfl (xZ R _ _ _) cM cJ bO bX ?_;intro v8 w8 r z H;let⟨b8,k8,bb⟩:=ownsRow_succ r;let⟨d1,d2,d3⟩:=ao.out w8 v8 r z H;have HF:=bL d3;subst bb));all_goals
    try simp only[aQ,cD,cw,ct,cf,cN,cK]
    go_wp2;exact⟨⟨i+1,_,I,by simp,HF⟩,by simp[aG];omega⟩
  have di:=bN i T;obtain rfl:i=T:=bO
  have hT:=F.out;rw[<-G.out] at hT;obtain⟨d,f,rfl,D⟩:=hT.np;have b0:Hid (∃(S:Nat->Prop)(fv lv:aA)(gs:List Sx),Np (λW=>aC w.heap.size w W∧sR W (aj d (bB l) f) l) w.heap.size S wr pb vb kb (pz p) (aj d (bB l) f) fv lv (Pb.iO (bB l) (c.take 0) nF []).1 (bB l) (Pb.iO (bB l) (c.take 0) nF []).2 gs):=⟨_,_,_,_,D⟩
  go_wp2
  go_loopw[40] (λQ W=>∃j:Nat,j<=nf∧Q=iz j∧Hid (∃(S:Nat->Prop)(fv lv:aA)(gs:List Sx),Np (λW=>aC w.heap.size w W∧sR W (aj d (bB l) f) l) w.heap.size S W pb vb kb (pz p) (aj d (bB l) f) fv lv (Pb.iO (bB l) (c.take j) nF []).1 (bB l) (Pb.iO (bB l) (c.take j) nF []).2 gs)) λQ _=>nf-(aG Q).toNat
  case atStart=>grind
  case round=>
   obtain⟨j,hj,rfl,HK⟩:=hrel;by_cases ad:j<nf
   .have dj:=bM j nf;have ca:=fq (a:=j) bO;let⟨S,fv,lv,gs,D⟩:=HK.out;have ac:j<bB c:=by rw[Y.out];exact ad
    have ab:=bP ac;have aa:aC w.heap.size w wr:=(D.parts wr (bW _ _)).2.1;let⟨b,cc,op,x,y,ka,kn,kc,e,⟨c0,c1,c2,c3⟩,hf⟩:=X.out.2.1 j _ ab;subst e;let⟨o1,o2,o3,o4⟩:=X.out.2.2.each _ (dw ac);have a9:Pb.iO (bB l) (c.take (j+1)) nF []=((Pb.iO (bB l) (c.take j) nF []).1.sh c[j],(Pb.iO (bB l) (c.take j) nF []).2++[wS (bB l) (Pb.iO (bB l) (c.take j) nF []).1 c[j]]):=by rw[dJ,ab,fE,sQ]
    let⟨s1,s2,s3,s4⟩:=X.out.2.2.small j bO;have q:aC wr.heap.size wr (bC wr (aq #[iz op,iz x,iz y,aj ka kn kc] 36)):=(cW _ _).alloc (bT _) _;have Z:=D.below q;have a5:bB gs<=1000000:=by rw[D.len,uW,fB];simp;omega
    have AD:=Zo Z (bZ aa.size q.size) op x y ka kn kc c[j] (λW' K=>hf.keep (Z.parts W' K).2.1) o1 o2 o3 o4 s1 ⟨s2,s3,s4⟩ a5;have g:∀{a:aD}{u:aA},aU w a=ah u->aU wr a=ah u:=λhc=>(aa.cell (cV w _ hc)).trans hc;have c0:=g c0;have c1:=g c1;have c2:=g c2;have c3:=g c3;have ap:=bL a9;have an:=bL AD
    go_wp2_with(go_at_call 43;refine jD an.out ?_;rintro e w9 ⟨rfl,z9,S9,a2,bx,a3,N9⟩);refine⟨⟨j+1,ad,by simp,?_⟩,by simp[aG];omega⟩;rw[ap.out];exact⟨S9,a2,bx,a3,N9⟩
   have dj:=bN j nf;obtain rfl:j=nf:=bO
   let⟨S,fv,lv,gs,D⟩:=HK.out;rw[eF (by rw[Y.out];exact bT _)] at D;have HN:=bL D
   go_wp2;go_ret;exact⟨pb,vb,kb,d,f,fv,lv,S,gs,rfl,HN.out⟩
end
section
def fh(q:Pr):Pr:=eT q.1 q.2
theorem xF(q):(fh q).1<=(fh q).2:=by simp[fh,eT];omega
def lG(q:Pr):Fo:=Fo.eq (q.1:Int) (q.2:Int)
theorem Wv(q):lC (oU (lG q))=[((q.1:Int),(q.2:Int))]:=by simp[lG,Fo.eq,oU,lC]
theorem OK(q):lC (oU (Fo.neg (lG q)))=[((q.1:Int),(q.2:Int))]:=by simp[lG,Fo.neg,Fo.eq,oU,lC]
theorem OM(q):gV (lG q)=[fh q]:=by simp[gV,Wv,fh]
theorem Kd(q):gV (Fo.neg (lG q))=[fh q]:=by simp[gV,OK,fh]
theorem No(q):o5 (lG q)=(1,(1,[])):=by grind[o5,lG,Fo.eq,Cn.jj,mA,Wv]
theorem Hw(q):o5 (Fo.neg (lG q))=(-1,(1,[])):=by grind[o5,lG,Fo.neg,Fo.eq,Cn.jj,mA,OK]
theorem OO(P:Pb)(q:Pr):P.sh (lG q)=(P.fD (fh q)).2:=by unfold Pb.sh;rw[OM,No];rfl
theorem yf(P:Pb)(q:Pr):P.sh (Fo.neg (lG q))=(P.fD (fh q)).2:=by unfold Pb.sh;rw[Kd,Hw];rfl
theorem Oq(n P q):wS n P (lG q)=⟨[fh q],[[((P.fD (fh q)).1:Int)]],λe=>tX n e (lG q)⟩:=by unfold wS oS;rw[OM,No];rfl
theorem CS(n P q):wS n P (Fo.neg (lG q))=⟨[fh q],[[-((P.fD (fh q)).1:Int)]],λe=>tX n e (Fo.neg (lG q))⟩:=by unfold wS oS;rw[Kd,Hw];rfl
theorem wT(n)(e:Nat->Nat->Bool)(q)(h:uf n q):tX n e (lG q)=e q.1 q.2:=by
 have c:My n (q.1:Int)=aK:=by simp[My];exact h.1
 have d:My n (q.2:Int)=aK:=by simp[My];exact h.2
 grind[lG,Fo.eq,tX,evM]
theorem Gl(n)(e:Nat->Nat->Bool)(f):tX n e (Fo.neg f)=!tX n e f:=by rw[Fo.neg,tX,evM];simp
structure Dj(n:Nat)(qs:List Pr)(P:Pb)(fs:List Fm):Prop where
 num:vd P
 pk:Pk P
 known:P.known=[]
 keys:P.vars.map (·.1)=fK [] (qs.map fh)
 len:bB fs=bB qs
 at_:∀(i:Nat)(q:Pr),qs[i]?=ah q->∃v,P.num (fh q)=ah v∧fs[i]?=ah ⟨[fh q],[[(v:Int)]],λe=>tX n e (lG q)⟩
 Dt:∀c∈P.lemmas,∃(a:Pr)(v:Nat),a.1=a.2∧P.num a=ah v∧c=[(v:Int)]
 sd:bB P.lemmas<=P.count
variable{P:Pb}
theorem Hq(h:∀c∈P.lemmas,∃(a:Pr)(v:Nat),a.1=a.2∧P.num a=ah v∧c=[(v:Int)])(p:bB P.lemmas<=P.count)(a):
  (∀c∈(P.fD a).2.lemmas,∃(d:Pr)(v:Nat),d.1=d.2∧(P.fD a).2.num d=ah v∧c=[(v:Int)])∧(P.fD a).2.lemmas.length<=(P.fD a).2.count:=by
 cases i:P.num a with
 |some x=>grind[Pb.fD]
 |none=>
  have e:(P.fD a).2={P with count:=P.count+1,vars:=P.vars++[(a,P.count+1)],lemmas:=if a.1=a.2 then P.lemmas++[[((P.count+1:Nat):Int)]] else P.lemmas}:=by unfold Pb.fD;rw[i]
  have j:(P.fD a).1=P.count+1:=by unfold Pb.fD;rw[i]
  have hl:(P.fD a).2.lemmas=if a.1=a.2 then P.lemmas++[[((P.count+1:Nat):Int)]] else P.lemmas:=by rw[e]
  have o:(P.fD a).2.count=P.count+1:=by rw[e]
  refine⟨λc f=>?_,?_⟩
  .rw[hl] at f;have hold:c∈P.lemmas->∃(d:Pr)(v:Nat),d.1=d.2∧(P.fD a).2.num d=ah v∧c=[(v:Int)]:=λm=>by
    let⟨d,v,k1,k2,k3⟩:=h c m;exact⟨d,v,k1,((P.qj a).1).num _ _ k2,k3⟩
   split at f
   .rename_i g;obtain k|k:=cU.1 f
    .exact hold k
    simp[dL] at k;refine⟨a,P.count+1,g,?_,k⟩;rw[(P.qj a).2.1,j]
   exact hold f
  grind
theorem Dj.start(n):Dj n [] nF []:=⟨⟨rfl,λi e h=>by simp[nF] at h,by simp[nF]⟩,⟨λe h=>by simp[nF] at h,λc h=>by simp[nF] at h⟩,rfl,rfl,rfl,λi q h=>by simp at h,λc h=>by simp[nF] at h,by simp[nF]⟩
variable{n a b x v V:Nat}{qs told:List Pr}{fs:List Fm}
theorem Dj.snoc(h:Dj n qs P fs)(q:Pr):Dj n (qs++[q]) (P.sh (lG q)) (fs++[wS n P (lG q)]):=by
 rw[OO,Oq];let⟨o,p⟩:=h.num.fD (fh q);let⟨k,m⟩:=Hq h.Dt h.sd (fh q);let⟨f,g,j⟩:=P.qj (fh q);refine⟨o,(h.pk.fD _).1,j.trans h.known,?_,by simp[h.len],λi r c=>?_,k,m⟩
 .rw[p,h.keys,fZ,De];rfl
 by_cases e:i<bB qs
 .rw[df e] at c;let⟨v,k1,k2⟩:=h.at_ i r c;exact⟨v,f.num _ _ k1,by grind⟩
 rw[dr bO] at c;have d:i-bB qs=0:=cG
 rw[d] at c;simp at c;subst c;exact⟨_,g,by rw[dr (by rw[h.len];omega),h.len,d];rfl⟩
theorem Dj.all(n:Nat)(qs:List Pr):∀k,k<=bB qs->Dj n (qs.take k) (Pb.iO n ((qs.take k).map lG) nF []).1 (Pb.iO n ((qs.take k).map lG) nF []).2
 |0,_=>by simpa[Pb.iO] using Dj.start n
 |k+1,h=>by
  have c:=Dj.all n qs k bO;have e:qs.take (k+1)=qs.take k++[qs[k]]:=aeA
  rw[e,fZ,iG,nZ,sQ];exact c.snoc _
def aap:=@Dj.all
def Mh{l:List Pr}(h:∀q,q∉l):l=[]:=List.eq_nil_iff_forall_not_mem.2 h
variable{l:List Tm}
theorem Db(i j):Cc.Cg l (fK [] (qs.map fh)) i j↔Cc.Cg l qs i j:=by
 have k:∀q,q∈fK [] (qs.map fh)↔∃m∈qs,fh m=q:=λq=>by let⟨o,p,r⟩:=lD (qs.map fh) [];grind
 constructor
 .refine λh=>Cc.Cg.mono (λa b d f g=>?_) h;let⟨q,s,e⟩:=(k _).1 d;simp[fh,eT,jr] at e;by_cases c:q.1<=q.2
  .rw[ik c,pV c] at e;exact Cc.Cg.told cG f g
  rw[ny bO,oq bO] at e;exact Cc.Cg.symm (Cc.Cg.told cG g f)
 refine λh=>Cc.Cg.mono (λa b d f g=>?_) h;have:=(k (fh (a,b))).2 ⟨(a,b),d,rfl⟩;simp[fh,eT] at this;by_cases c:a<=b
 .rw[ik c,pV c] at this;exact Cc.Cg.told this f g
 rw[ny bO,oq bO] at this;exact Cc.Cg.symm (Cc.Cg.told this g f)
variable{q q0:Pr}
theorem UH{t u:Tm}(j:l[a]?=ah t)(m:l[b]?=ah u)(h:q∈iZ l (eT a b)):∃k x y:Nat,t.args[k]?=ah x∧u.args[k]?=ah y∧(q=eT x y∨q=eT y x):=by
 have i:∀(c d:List Nat)(q:Pr),q∈List.zipWith eT c d->∃k x y:Nat,c[k]?=ah x∧d[k]?=ah y∧q=eT x y:=λc d q h=>by let⟨k,g,e⟩:=gY h;have f:=g;rw[List.length_zipWith] at f;refine⟨k,c[k]'bO,d[k]'bO,bP _,bP _,?_⟩;grind
 grind[ye,iZ,eT]
variable{E:iE}
theorem JX{y:Nat}(h:gO E x y)(e:q=eT x y∨q=eT y x):gO E q.1 q.2:=by
 have:q=eT x y:=by grind[vF]
 rw[this];unfold eT;by_cases c:x<=y
 .grind
 simp[ny (show y<=x by omega),oq (show y<=x by omega)];exact h.symm
theorem nX.cg{l:List Tm}(j:OZ l){told:List Pr}{P:Pf}{E:iE}(h:nX l told P E)(f:∀a∈told,a.2<bB l∧a.1<=a.2):∀(n s:Nat),s<=n->n<=bB E->∀a b,a<bB l->gO (E.take s) a b->Cc.Cg l told a b
 |0,s,hs,_,a,b,c,d=>by
  obtain rfl:s=0:=bO
  rw[sr] at d;cases d with
  |refl=>exact Cc.Cg.refl c
  |step _ k=>obtain k|k:=k<;>cases k
 |n+1,s,hs,G,a,b,c,d=>by
  by_cases m:s<=n
  .exact nX.cg j h f n s m bO a b c d
  obtain rfl:s=n+1:=bO
  have r:E.take (n+1)=E.take n++[E[n]]:=aeA
  have i:=λa b c d=>nX.cg j h f n n (bT _) bO a b c d;let⟨o,p⟩:=h.lt E[n] (dw _);have g:Cc.Cg l told (E[n]).1 (E[n]).2:=by
   obtain k|⟨t,u,t1,B,C,D,I⟩:=h.JR n bO
   .let⟨k1,k2⟩:=f _ k;unfold eT at k;by_cases e:(E[n]).1<=(E[n]).2
    .rw[ik e,pV e] at k;exact Cc.Cg.told k o p
    rw[ny bO,oq bO] at k;exact Cc.Cg.symm (Cc.Cg.told k p o)
   refine Cc.Cg.MM t1 B C D λk x y z H=>?_;have A:x<bB l:=j.lt _ t t1 x (cH z);grind
  rw[r] at d;obtain k|⟨k1,k2⟩|⟨k1,k2⟩:=(JY.1 d)
  .exact i a b c k
  .exact(i a _ c k1).trans (g.trans (i _ b p k2))
  exact(i a _ c k1).trans (g.symm.trans (i _ b o k2))
theorem AV(e:OZ l)(c:∀a∈told,a.1<=a.2∧a.2<bB l)(f:a<bB l)(j:b<bB l):zR l told a b=aK↔Cc.Cg l told a b:=by
 let⟨P,E,i,d,k⟩:=BU e c;unfold zR;rw[i];simp[jl];rw[d.conn a b f j];constructor
 .intro h;refine nX.cg e d (λq g=>⟨(c q g).2,(c q g).1⟩) (bB E) (bB E) (bT _) (bT _) a b f ?_;grind
 grind
theorem wB(val:Nat->Bool)(d:List (Pr×Nat))(am:Nat->List Pr):∀(g:List Nat)(c:List Pr),mG val d am c g=fK c ((g.flatMap am).filter λa=>val ((jX d a).getD 0-1)):=by
 have i:∀(f c:List Pr),nB val d c f=fK c (f.filter λa=>val ((jX d a).getD 0-1)):=by
  intro f
  induction f with
  |nil=>intro c;rfl
  |cons a f h=>
   intro c;have e:nB val d c (a::f)=nB val d (zx val d c a) f:=rfl;rw[e,h,zx,Xe]
   split
   .rfl
   rfl
 intro g
 induction g with
 |nil=>intro c;rfl
 |cons n g h=>grind[mG,nB,De]
theorem Hn(val:Nat->Bool)(d:List (Pr×Nat))(cq:Nat->Nat->Bool)(am:Nat->List Pr)(ok:Nat->Bool):∀(g:List Nat)(c:List Pr),jK val d cq am ok c g=fK c ((g.flatMap λn=>if ok n then[] else am n).filter λa=>cq a.1 a.2&&!val ((jX d a).getD 0-1)):=by
 have j:∀(f c:List Pr),mE val d cq c f=fK c (f.filter λa=>cq a.1 a.2&&!val ((jX d a).getD 0-1)):=by
  intro f
  induction f with
  |nil=>intro c;rfl
  |cons a f i=>
   intro c;have e:mE val d cq c (a::f)=mE val d cq (zq val d cq c a) f:=rfl;rw[e,i,zq,Xe];by_cases h:cq a.1 a.2=aK∧val ((jX d a).getD 0-1)=aL
   .rw[cY h,cY (by simp[h.1,h.2])];rfl
   grind
 intro g
 induction g with
 |nil=>intro c;rfl
 |cons n g i=>grind[jK,mE,De]
theorem qU{c:Type}(F:Fm->List c):(aO (bB fs)).flatMap (λn=>F (Fm.get fs n))=fs.flatMap F:=by
 have:(aO (bB fs)).map (Fm.get fs)=fs:=by
  refine iv λi=>?_;by_cases d:i<bB fs
  .grind[Fm.get]
  grind
 grind[List.flatMap_map]
structure RS(n:Nat)(qs:List Pr)(P:Pb)(fs:List Fm):Prop where
 num:vd P
 pk:Pk P
 known:P.known=[]
 len:bB fs=bB qs
 at_:∀(i:Nat)(q:Pr),qs[i]?=ah q->∃v,P.num (fh q)=ah v∧fs[i]?=ah ⟨[fh q],[[(v:Int)]],λe=>tX n e (lG q)⟩
 Dt:∀c∈P.lemmas,∃(a:Pr)(v:Nat),a.1=a.2∧P.num a=ah v∧c=[(v:Int)]
 sd:bB P.lemmas<=P.count
def Dj.j(h:Dj n qs P fs):RS n qs P fs:=⟨h.num,h.pk,h.known,h.len,h.at_,h.Dt,h.sd⟩
theorem RS.fD(h:RS n qs P fs)(a):RS n qs (P.fD a).2 fs:=by let⟨f,g⟩:=Hq h.Dt h.sd a;let⟨c,j,d⟩:=P.qj a;exact⟨(h.num.fD a).1,(h.pk.fD _).1,d.trans h.known,h.len,λi q e=>by let⟨v,k1,k2⟩:=h.at_ i q e;exact⟨v,c.num _ _ k1,k2⟩,f,g⟩
theorem RS.mem(h:RS n qs P fs){f:Fm}(c:f∈fs):∃q∈qs,∃v,P.num (fh q)=ah v∧f=⟨[fh q],[[(v:Int)]],λe=>tX n e (lG q)⟩:=by
 let⟨i,d,e⟩:=gY c;have g:i<bB qs:=by rw[<-h.len];exact d
 let⟨v,k1,k2⟩:=h.at_ i _ (bP g);grind
theorem RS.has(h:RS n qs P fs)(c:q∈qs):∃v,P.num (fh q)=ah v∧⟨[fh q],[[(v:Int)]],λe=>tX n e (lG q)⟩∈fs:=by let⟨i,d,e⟩:=gY c;let⟨v,k1,k2⟩:=h.at_ i q cG;grind
theorem JJ(f:Pr->Pr):∀qs:List Pr,qs.flatMap (λq=>[f q])=qs.map f
 | []=>rfl
 |q::qs=>by rw[gS,JJ f qs];rfl
theorem RS.ams(h:RS n qs P fs):fs.flatMap Fm.am=qs.map fh:=by
 have:fs.map Fm.am=qs.map λq=>[fh q]:=by
  refine iv λi=>?_;by_cases c:i<bB qs
  .let⟨v,k1,k2⟩:=h.at_ i _ (bP c);grind
  rw[gW (by simp[h.len];omega),gW bX]
 grind[JJ]
theorem RS.unit(h:RS n qs P fs){c:List Int}(d:c∈P.lemmas++fs.flatMap Fm.cs):∃(a:Pr)(v:Nat),(a.1=a.2∨∃q∈qs,fh q=a)∧P.num a=ah v∧c=[(v:Int)]:=by
 obtain k|k:=cU.1 d
 .let⟨a,v,k1,k2,k3⟩:=h.Dt c k;grind
 let⟨f,k1,k2⟩:=lI.1 k;obtain⟨q,e,v,k3,rfl⟩:=h.mem k1;grind
theorem sY(d:Pk P){a:Pr}(e:P.num a=ah v)(s)(hs:s=(v:Int)∨s=-(v:Int)):Al P.count [s]∧s≠0∧s.natAbs<=P.count:=by
 have:=d.num e;have c:s≠0∧s.natAbs<=P.count:=bO
 exact⟨⟨.inl bQ,λx f=>by grind⟩,c⟩
theorem VQ(X:OZ l)(m:∀q∈qs,uf (bB l) q)(hl:bB qs<=600)(h:Dj (bB l) qs P fs):sS l fs (aO (bB fs)) (λr _=>∃t,r=ah t) 1 P:=by
 have j:=h.j;have i:lO P fs (aO (bB fs))=P.lemmas++fs.flatMap Fm.cs:=by unfold lO;rw[qU Fm.cs]
 have R:P.count<=600:=by
  rw[h.num.lZ];have O:bB P.vars=bB (P.vars.map (·.1)):=bQ
  rw[O,h.keys];have:=mO [] (qs.map fh);simp at this;omega
 have o:∀c∈lO P fs (aO (bB fs)),∃x,c=[x]∧0<x∧Al P.count c∧x.natAbs<=P.count:=λc A=>by rw[i] at A;obtain⟨a,v,_,k2,rfl⟩:=j.unit A;have:=j.pk.num k2;exact⟨_,rfl,by omega,(sY j.pk k2 _ (.inl rfl)).1,by omega⟩
 have B:bB (lO P fs (aO (bB fs)))<=100000000:=by
  rw[i,cR,qe];have Q:=h.sd;have C:(fs.map λf=>bB f.cs).sum<=bB fs*1:=by
   have:∀u:List Fm,(∀f∈u,bB f.cs<=1)->(u.map λf=>bB f.cs).sum<=bB u*1:=by
    intro u
    induction u with
    |nil=>intro _;simp
    |cons g u Z=>intro S;have:=Z (λf G=>S f (by simp[G]));have:=S g bQ;simp at *;omega
   exact this fs λf G=>by obtain⟨q,_,v,_,rfl⟩:=j.mem G;simp
  rw[h.len] at C;omega
 let⟨N,s1,s2,s3⟩:=zB (n:=P.count) (cs:=lO P fs (aO (bB fs))) (λc A=>by let⟨x,k1,k2,k3,k4⟩:=o c A;exact⟨x,k1,by omega,k4⟩) (λx Q C=>by let⟨y,k1,k2,_⟩:=o _ Q;let⟨z,k3,k4,_⟩:=o _ C;simp at k1 k3;omega)
 refine⟨⟨by omega,B,λc A=>by let⟨x,_,_,k3,_⟩:=o c A;exact k3⟩,?_⟩;rw[s1];have s:∀q∈qs,wA N ((jX P.vars (fh q)).getD 0-1)=aK:=λq m=>by
  let⟨v,k1,k2⟩:=j.has m;have e:jX P.vars (fh q)=ah v:=k1;have hv:=j.pk.num k1;rw[e];obtain⟨M,rfl⟩:∃M,v=M+1:=⟨v-1,by omega⟩
  have:=(s3 M).1 (by rw[i];exact gm _ (lI.2 ⟨_,k2,by simp⟩));simp[wA,this]
 have p:sF fs P (aO (bB fs)) N=fK [] (qs.map fh):=by unfold sF;rw[wB,qU Fm.am,j.ams,KO.2 λa D=>by obtain⟨q,k1,rfl⟩:=gI.1 D;exact s q k1]
 have H:∀a∈fK [] (qs.map fh),a.1<=a.2∧a.2<bB l:=λa D=>by
  obtain k|k:=(lD (qs.map fh) []).2.2 a D
  .cases k
  obtain⟨q,k1,rfl⟩:=gI.1 k;exact⟨xF q,(vY (m q k1).1 (m q k1).2).2⟩
 have hw:xm l fs P (aO (bB fs)) N=[]:=by
  refine Mh λq I=>?_;unfold xm at I;rw[wz] at I;obtain k|⟨⟨n,Y,k1,k2⟩,_⟩:=I
  .cases k
  have J:n<bB fs:=by simpa using Y
  have L:n<bB qs:=by rw[<-j.len];exact J
  let⟨v,O,T⟩:=j.at_ n _ (bP L);have U:Fm.get fs n=⟨[fh qs[n]],[[(v:Int)]],λe=>tX (bB l) e (lG qs[n])⟩:=by unfold Fm.get;rw[T];rfl
  have d:qs[n]∈qs:=dw _;rw[U] at k1;simp only at k1;rw[wT _ _ _ (m _ d),p] at k1;have:=(AV X H (m _ d).1 (m _ d).2).2 ((Db _ _).2 (Cc.Cg.told d (m _ d).1 (m _ d).2));rw[k1] at this;cases this
 grind
theorem qp(c:OZ l)(p):(∀q∈iZ l p,q.1<=q.2∧q.1<bB l∧q.2<bB l)∧bB (iZ l p)<=4:=by
 have e:∀i,(∀a∈ye l i,a<bB l)∧bB (ye l i)<=4:=λi=>by
  unfold ye;cases d:l[i]? with
  |none=>simp
  |some t=>exact⟨λa h=>c.lt i t d a h,c.four i t d⟩
 grind[iZ,ye,eT,List.getElem_of_mem,List.length_zipWith,List.getElem_mem,uf.ord]
variable{F:Pf}
theorem nX.facts(f:OZ l)(h:nX l told F E):
  (∀s (hs:s<bB E),eT (E[s]).1 (E[s]).2∈told∨∀q∈iZ l (eT (E[s]).1 (E[s]).2),gO (E.take s) q.1 q.2)∧
  ∀x y,qv E x y->eT x y∉told->(∃s t:Tm,l[(eT x y).1]?=ah s∧l[(eT x y).2]?=ah t∧bB s.args=bB t.args∧bB s.args<=4)∧∀q∈iZ l (eT x y),gO E q.1 q.2∧q.1<bB l∧q.2<bB l:=by
 have d:∀s (hs:s<bB E),eT (E[s]).1 (E[s]).2∈told∨((∃m t:Tm,l[(eT (E[s]).1 (E[s]).2).1]?=ah m∧l[(eT (E[s]).1 (E[s]).2).2]?=ah t∧bB m.args=bB t.args∧bB m.args<=4)∧∀q∈iZ l (eT (E[s]).1 (E[s]).2),gO (E.take s) q.1 q.2):=λs hs=>by
  obtain k|⟨t,u,t1,o,z,p,A⟩:=h.JR s hs
  .exact .inl k
  refine .inr ⟨?_,λq i=>?_⟩
  .unfold eT;by_cases c:(E[s]).1<=(E[s]).2
   .simp only[ik c,pV c];exact⟨t,u,t1,o,p,f.four _ _ t1⟩
   simp only[ny (show(E[s]).2<=(E[s]).1 by omega),oq (show(E[s]).2<=(E[s]).1 by omega)];exact⟨u,t,o,t1,p.symm,f.four _ _ o⟩
  grind[UH,JX]
 refine⟨λs hs=>(d s hs).imp id (·.2),λx y j g=>?_⟩;have hs:∃s,∃hs:s<bB E,eT (E[s]).1 (E[s]).2=eT x y:=by
  obtain k|k:=j
  .grind[List.getElem_of_mem]
  grind[List.getElem_of_mem,vF]
 obtain⟨s,hs,e⟩:=hs;have:=d s hs;rw[e] at this;let⟨k1,k2⟩:=this.resolve_left g;exact⟨k1,λq i=>⟨(k2 q i).mono λe r=>je r,((qp f _).1 q i).2⟩⟩
variable{cs:List (List Int)}
theorem uP{x:Int}(h:[x]∈cs):mP (cs.map jq) (jQ x):=by have e:jq [x]=[jQ x]:=rfl;refine mP.OJ (c:=jq [x]) (gI.2 ⟨_,h,rfl⟩) (by rw[e];simp) λy f d=>?_;grind
theorem CJ(c:v≠0)(h:[-(v:Int)]∈cs):mP (cs.map jq) (lk (jQ (v:Int))):=by rw[xH bO];exact uP h
theorem Pb.Hr{a:Pr}(h:P.num a=ah x):P.fD a=(x,P):=by unfold Pb.fD;rw[h]
def aer:=@Pb.Hr
theorem OG(h:n<=150):2*n*(n*n)<=6750000:=by
 have c:n*n<=150*150:=sm h h;have d:2*n<=300:=bO
 exact bZ (sm d c) bS
structure FoI(l:List Tm)(qs:List Pr)(q0:Pr)(P:Pb)(V:Nat)(fs:List Fm):Prop where
 j:RS (bB l) qs P fs
 num:P.num (fh q0)=ah V
 keys:P.vars.map (·.1)=fK (fK [] (qs.map fh)) [fh q0]
 self:(fh q0).1=(fh q0).2->[(V:Int)]∈P.lemmas++fs.flatMap Fm.cs
theorem FoI.of(h:Dj (bB l) qs P fs)(q0):FoI l qs q0 (P.fD (fh q0)).2 (P.fD (fh q0)).1 fs:=by
 refine⟨h.j.fD _,(P.qj _).2.1,by rw[(h.num.fD _).2,h.keys],λhs=>?_⟩;cases d:P.num (fh q0) with
 |some x=>
  have c:fh q0∈P.vars.map (·.1):=ab3 λk=>by rw[(qm P _).2 k] at d;cases d
  rw[h.keys] at c;obtain k|k:=(lD (qs.map fh) []).2.2 _ c
  .cases k
  .let⟨q,k1,k2⟩:=gI.1 k;let⟨v,k3,k4⟩:=(h.j.fD (fh q0)).has k1;rw[k2,(P.qj _).2.1] at k3;grind
 |none=>grind[Pb.fD]
theorem FoI.last(h:FoI l qs q0 P V fs)(g:fh q0∉fK [] (qs.map fh)):V=bB (fK [] (qs.map fh))+1∧∀(n:Nat)(a:Pr),(fK [] (qs.map fh))[n]?=ah a->P.num a=ah (n+1):=by
 have j:=h.keys;simp[fK,cC g] at j;have d:∀(n:Nat)(a:Pr),(fK [] (qs.map fh)++[fh q0])[n]?=ah a->P.num a=ah (n+1):=λn a c=>by
  rw[<-j,fN] at c;cases f:P.vars[n]? with
  |none=>rw[f] at c;cases c
  |some e=>
   rw[f] at c;cases c
   exact h.j.num.aaW (i:=n) (a:=e.1) (x:=e.2) f
 refine⟨?_,λn a c=>d n a ?_⟩
 .have:=d (bB (fK [] (qs.map fh))) (fh q0) bQ;rw[h.num] at this;cases this
  rfl
 grind
theorem CQ(T:OZ l)(hl:bB l<=150)(u:∀q∈qs,uf (bB l) q)(be:bB qs<=600)(ab:uf (bB l) q0)(h:FoI l qs q0 P V fs)(a2:fh q0∉fK [] (qs.map fh))(a3:(fh q0).1≠(fh q0).2)(al:Cc.Cg l qs q0.1 q0.2)(hF:uE l (fK [] (qs.map fh))=ah F){Q:Pb}(hL:ZN l (fK [] (qs.map fh)) F P (fh q0) Q)(A d)(i:∀R:Pb,lO R d A=R.lemmas++(fs.flatMap Fm.cs++[[-(V:Int)]])):
  Kt Q d A∧mH Q.count (lO Q d A)=ah ai:=by
 have D:∀a∈fK [] (qs.map fh),∃q∈qs,fh q=a:=λa U=>by
  obtain k|k:=(lD (qs.map fh) []).2.2 a U
  .cases k
  exact gI.1 k
 have an:∀a∈fK [] (qs.map fh),a.1<=a.2∧a.2<bB l:=λa U=>by obtain⟨q,k1,rfl⟩:=D a U;exact⟨xF q,(vY (u q k1).1 (u q k1).2).2⟩
 have a4:bB (fK [] (qs.map fh))<=600:=by grind[fh,mO]
 let⟨hV,a8⟩:=h.last a2;have I:=h.j.pk;have ba:=I.num h.num;have a6:P.count<=601:=by
  rw[h.j.num.lZ];have e1:bB P.vars=bB (P.vars.map (·.1)):=bQ
  rw[e1,h.keys];have:=mO (fK [] (qs.map fh)) [fh q0];simp at this;omega
 have m:∀a∈fK [] (qs.map fh),∃v:Nat,v≠0∧P.num a=ah v∧[(v:Int)]∈fs.flatMap Fm.cs:=λa U=>by obtain⟨q,k1,rfl⟩:=D a U;let⟨v,k2,k3⟩:=h.j.has k1;have:=I.num k2;grind
 have L:∀c∈fs.flatMap Fm.cs++[[-(V:Int)]],Al P.count c:=λc C=>by
  obtain k|k:=cU.1 C
  .obtain⟨a,v,_,k2,rfl⟩:=h.j.unit (gm _ k);exact(sY I k2 _ (.inl rfl)).1
  simp[dL] at k;subst k;exact(sY I h.num _ (.inr rfl)).1
 have bb:bB (fs.flatMap Fm.cs++[[-(V:Int)]])<=601:=by
  rw[cR,qe];have:∀O:List Fm,(∀f∈O,bB f.cs<=1)->(O.map λf=>bB f.cs).sum<=bB O:=by
   intro O
   induction O with
   |nil=>intro _;simp
   |cons g O ih=>grind
  have:=this fs λf hf=>by obtain⟨q,_,v,_,rfl⟩:=h.j.mem hf;simp
  rw[h.j.len] at this;simp;omega
 have a9:=h.j.sd;have fin:Pk Q->P.count<=Q.count->Q.count<=2000->bB Q.lemmas<=90000000->mP ((lO Q d A).map jq) (jQ (V:Int))->Kt Q d A∧mH Q.count (lO Q d A)=ah ai:=λX ap H a7 hf=>by
  have B:∀c∈lO Q d A,Al Q.count c:=λc C=>by
   rw[i] at C;obtain k|k:=cU.1 C
   .exact X.Dt c k
   exact(L c k).mono ap
  refine⟨⟨H,?_,B⟩,?_⟩
  .grind
  refine Ip (λc C x N=>((B c C).2 x N).2) hf (CJ bO ?_);rw[i];simp
 let⟨F',E,p1,e,p3⟩:=BU T an;rw[hF] at p1;cases p1
 let⟨f1,f2⟩:=e.facts T;have Y:gO E (fh q0).1 (fh q0).2:=JX (p3 _ _ ((Db _ _).2 al)) (.inl rfl);have t:=vY ab.1 ab.2;obtain⟨S,hS,M,z⟩:=hL;by_cases hr:P.count+bB (oI P S [])<=2000
 .have X:=M hr;subst X;let⟨S',e1,e2⟩:=Ec e.lnk e.qR (argp:=iZ l) (told:=fK [] (qs.map fh)) (λp q u=>by rw[e.len];exact(qp T p).1 q u) f1 Y (by rw[e.len];exact t.1) (by rw[e.len];exact t.2);rw[hS] at e1;cases e1
  let⟨n1,n2,n3,n4⟩:=Bu e.lnk (argp:=iZ l) (told:=fK [] (qs.map fh)) (λp q u=>by rw[e.len];exact((qp T p).1 q u).2) (λp=>(qp T p).2) (λp q u=>((qp T p).1 q u).1) (λx y a5 hn=>by rw[e.len];exact(f2 x y a5 hn).2) Y (by rw[e.len];exact t.1) (by rw[e.len];exact t.2) (xF q0) hS;have hG:=Gr.proof P (S:=S) (told:=fK [] (qs.map fh)) (λq u=>by grind) n1 (bB S);rw[fI] at hG;rw[e.len] at n4;have n4:=bZ n4 (OG hl);have ao:yi P:=λk hk=>by rw[h.j.known] at hk;cases hk
  let⟨g1,g2,g3⟩:=aes S P ao;have r:=Pk.steps S P I;have ad:(S.foldl Pb.step P).count<=2000:=bZ hG.count hr;refine fin r hG.lZ ad (by have:=hG.Dt;omega) ?_;let⟨x,x1,x2⟩:=JB (P:=S.foldl Pb.step P) (S:=S) (told:=fK [] (qs.map fh)) (g:=fh q0) (cs:=lO (S.foldl Pb.step P) d A) g3 (λc C=>by grind)
   (λp hp=>by let⟨v,k1,k2,k3⟩:=m p hp;exact⟨v,k1,g1.num _ _ k2,by grind⟩) (λa x N=>by have:=r.num N;omega)
   (λG h1 h2 h3=>by have:=e2 G h1 h2 h3;rw[vE (xF q0)] at this;exact this) a3
  rw[g1.num _ _ h.num] at x1;cases x1
  exact x2
 let⟨o,j,X⟩:=z hr;have a0:∀n∈o,n<bB (fK [] (qs.map fh)):=λn hn=>by have:=j.lt n hn;simpa using this
 have Z:∀n∈o,∃a,(fK [] (qs.map fh))[n]?=ah a∧P.num a=ah (n+1)∧a∈fK [] (qs.map fh):=λn hn=>by grind
 have ac:∀a∈o.map λn=>(fK [] (qs.map fh))[n]?.getD (0,0),P.num a≠ai:=λa U=>by grind
 let⟨m1,m2⟩:=yQ _ P ac;have J:(Pb.names (o.map λn=>(fK [] (qs.map fh))[n]?.getD (0,0)) P).1.map (λn:Nat=>-(n:Int))=o.map λn:Nat=>-((n:Int)+1):=by grind[List.map_map,List.map_congr_left]
 have s:Q={P with lemmas:=P.lemmas++[(V:Int)::o.map λn:Nat=>-((n:Int)+1)]}:=by rw[X];unfold Pb.whole;rw[Pb.Hr h.num];simp only;rw[J,m1]
 have bc:bB o<=600:=by have h1:=sK (n:=bB (fK [] (qs.map fh))) (j.up.imp λh=>Nat.ne_of_lt h) a0;omega
 have C:Al P.count ((V:Int)::o.map λn:Nat=>-((n:Int)+1)):=by
  refine⟨.inr ⟨by simp;omega,jQ (V:Int),(o.map λn:Nat=>-((n:Int)+1)).map jQ,by simp,?_,λx N=>?_⟩,λx N=>?_⟩
  .rw[kL];refine List.pairwise_map.2 (j.up.imp λ{a b} hab=>?_);simp[Function.comp,jQ];grind
  .grind[jQ]
  grind
 have r:Pk Q:=by
  rw[s];refine⟨I.vars,λc ag=>?_⟩;obtain k|k:=cU.1 ag
  .exact I.Dt c k
  grind
 refine fin r (by rw[s];exact bT _) (by rw[s];simp only;omega) (by rw[s];simp;omega) ?_;have aa:(V:Int)::o.map (λn:Nat=>-((n:Int)+1))∈lO Q d A:=cG
 refine mP.OJ (c:=jq ((V:Int)::o.map λn:Nat=>-((n:Int)+1))) (gI.2 ⟨_,aa,rfl⟩) ((od _ _).2 ⟨_,by simp,rfl⟩) λx N a1=>?_;obtain⟨y,k1,rfl⟩:=(od _ _).1 N;obtain rfl|k1:=fA.1 k1
 .exact absurd rfl a1
 obtain⟨n,k2,rfl⟩:=gI.1 k1;rw[xH bO,Int.neg_neg];let⟨a,_,k3,k4⟩:=Z n k2;let⟨v,_,k5,k6⟩:=m a k4;rw[k3] at k5;cases k5
 exact uP (by rw[i];exact gm _ (dh _ (by simpa using k6)))
theorem Gh(hB:OZ l)(hl:bB l<=150)(B:∀q∈qs,uf (bB l) q)(ag:bB qs<=600)(i:uf (bB l) q0)(h:FoI l qs q0 P V fs):
  sS l (fs++[⟨[fh q0],[[-(V:Int)]],λe=>tX (bB l) e (Fo.neg (lG q0))⟩]) (aO (bB (fs++[(⟨[fh q0],[[-(V:Int)]],λe=>tX (bB l) e (Fo.neg (lG q0))⟩:Fm)]))) (λr _=>(r=ai↔Cc.Cg l qs q0.1 q0.2)) 2 P:=by
 obtain⟨d,z⟩:∃d,d=fs++[(⟨[fh q0],[[-(V:Int)]],λe=>tX (bB l) e (Fo.neg (lG q0))⟩:Fm)]:=⟨_,rfl⟩
 rw[<-z];have j:∀R:Pb,lO R d (aO (bB d))=R.lemmas++(fs.flatMap Fm.cs++[[-(V:Int)]]):=λR=>by unfold lO;rw[qU Fm.cs,z,mZ];rfl
 have s:=h.j;have M:=s.pk;have ao:=M.num h.num;have an:P.count<=601:=by
  rw[h.j.num.lZ];have Z:bB P.vars=bB (P.vars.map (·.1)):=bQ
  rw[Z,h.keys];have h1:=mO (fK [] (qs.map fh)) [fh q0];have h2:=mO [] (qs.map fh);simp at h1 h2;omega
 have N:∀c∈lO P d (aO (bB d)),c=[-(V:Int)]∨∃(a:Pr)(v:Nat),(a.1=a.2∨∃q∈qs,fh q=a)∧P.num a=ah v∧c=[(v:Int)]:=λc m=>by
  rw[j,<-fW] at m;obtain k|k:=cU.1 m
  .exact .inr (s.unit k)
  grind
 have al:∀c∈lO P d (aO (bB d)),∃x,c=[x]∧x≠0∧x.natAbs<=P.count∧Al P.count c:=λc m=>by
  obtain rfl|⟨a,v,_,k2,rfl⟩:=N c m
  .exact⟨_,rfl,(sY M h.num _ (.inr rfl)).2.1,(sY M h.num _ (.inr rfl)).2.2,(sY M h.num _ (.inr rfl)).1⟩
  grind[sY]
 have T:bB (lO P d (aO (bB d)))<=100000000:=by
  rw[j,cR,cR,qe];have:∀L:List Fm,(∀f∈L,bB f.cs<=1)->(L.map λf=>bB f.cs).sum<=bB L:=by
   intro L
   induction L with
   |nil=>intro _;simp
   |cons g L ih=>grind
  have:=this fs λf hf=>by obtain⟨q,_,v,_,rfl⟩:=s.mem hf;simp
  rw[s.len] at this;have:=s.sd;simp;omega
 have X:Kt P d (aO (bB d)):=⟨by omega,T,λc m=>by grind⟩
 refine⟨X,?_⟩;by_cases A:[(V:Int)]∈P.lemmas++fs.flatMap Fm.cs
 .have G:mH P.count (lO P d (aO (bB d)))=ah ai:=by
   refine Ip (l:=jQ (V:Int)) (λc m x hx=>?_) (uP ?_) (CJ bO ?_)
   .grind
   .grind
   rw[j];simp
  rw[G];refine⟨λ_=>?_,λ_=>rfl⟩;let⟨a,v,k1,k2,k3⟩:=s.unit A;have hv:V=v:=by simp at k3;omega
  have C:=s.num.inj k2 (by rw[<-hv];exact h.num);subst C;obtain k1|⟨q,k1,k4⟩:=k1
  .have:q0.1=q0.2:=by simp[fh,eT] at k1;omega
   rw[this];exact Cc.Cg.refl i.2
  refine(Db (qs:=qs) _ _).1 ?_;have U:fh q0∈fK [] (qs.map fh):=(lD _ _).2.1 _ (gI.2 ⟨q,k1,k4⟩);unfold fh eT at U;by_cases t:q0.1<=q0.2
  .rw[ik t,pV t] at U;exact Cc.Cg.told U i.1 i.2
  rw[ny bO,oq bO] at U;exact Cc.Cg.symm (Cc.Cg.told U i.2 i.1)
 have ad:(fh q0).1≠(fh q0).2:=λe=>A (h.self e);have ap:∀q∈qs,fh q≠fh q0:=λq H e=>by
  let⟨v,k1,k2⟩:=s.has H;rw[e,h.num] at k1;grind
 have G:fh q0∉fK [] (qs.map fh):=λk=>by
  obtain k|k:=(lD (qs.map fh) []).2.2 _ k
  .cases k
  grind
 let⟨Y,s1,s2,s3⟩:=zB (n:=P.count) (cs:=lO P d (aO (bB d))) (λc m=>by grind) (λx h1 h2=>by grind)
 rw[s1];have I:∀q∈qs,wA Y ((jX P.vars (fh q)).getD 0-1)=aK:=λq H=>by
  let⟨v,k1,k2⟩:=s.has H;have e:jX P.vars (fh q)=ah v:=k1;have hv:=M.num k1;rw[e];obtain⟨J,rfl⟩:∃J,v=J+1:=⟨v-1,by omega⟩
  have:=(s3 J).1 (by rw[j];exact gm _ (dh _ (lI.2 ⟨_,k2,by simp⟩)));simp[wA,this]
 have p:wA Y ((jX P.vars (fh q0)).getD 0-1)=aL:=by
  have e:jX P.vars (fh q0)=ah V:=h.num;rw[e];obtain⟨J,rfl⟩:∃J,V=J+1:=⟨V-1,by omega⟩
  have:=(s3 J).2 (by rw[j];simp);simp[wA,this]
 have O:d.flatMap Fm.am=qs.map fh++[fh q0]:=by rw[z,mZ,s.ams];rfl
 have o:sF d P (aO (bB d)) Y=fK [] (qs.map fh):=by unfold sF;rw[wB,qU Fm.am,O,Nl,KO.2 λa C=>by obtain⟨q,k1,rfl⟩:=gI.1 C;exact I q k1];simp[p]
 have ac:∀a∈fK [] (qs.map fh),a.1<=a.2∧a.2<bB l:=λa C=>by
  obtain k|k:=(lD (qs.map fh) []).2.2 a C
  .cases k
  obtain⟨q,k1,rfl⟩:=gI.1 k;exact⟨xF q,(vY (B q k1).1 (B q k1).2).2⟩
 have y:=λa b (C:a<bB l) (hb:b<bB l)=>AV hB ac C hb;have a0:∀f∈fs,f.ev (zR l (fK [] (qs.map fh)))=aK:=λf hf=>by obtain⟨q,k1,v,k2,rfl⟩:=s.mem hf;simp only;rw[wT _ _ _ (B q k1)];exact(y _ _ (B q k1).1 (B q k1).2).2 ((Db _ _).2 (Cc.Cg.told k1 (B q k1).1 (B q k1).2))
 have D:(d.flatMap λf=>if f.ev (zR l (fK [] (qs.map fh))) then[] else f.am)=if zR l (fK [] (qs.map fh)) q0.1 q0.2 then[fh q0] else[]:=by
  rw[z,mZ];have Z:(fs.flatMap λf=>if f.ev (zR l (fK [] (qs.map fh))) then[] else f.am)=[]:=aeA
  rw[Z];simp[gS,List.flatMap_nil,gC,ff,Gl,wT _ _ _ i];cases zR l (fK [] (qs.map fh)) q0.1 q0.2<;>rfl
 have u:xm l d P (aO (bB d)) Y=if zR l (fK [] (qs.map fh)) q0.1 q0.2 then[fh q0] else[]:=by
  unfold xm;rw[o,Hn];have e:=qU (fs:=d) λf:Fm=>if f.ev (zR l (fK [] (qs.map fh))) then[] else f.am;rw[e,D];cases m:zR l (fK [] (qs.map fh)) q0.1 q0.2
  .rfl
  have aa:zR l (fK [] (qs.map fh)) (fh q0).1 (fh q0).2=aK:=by
   have S:=vY i.1 i.2;refine(y (fh q0).1 (fh q0).2 S.1 S.2).2 ?_;rw[y _ _ i.1 i.2] at m;unfold fh eT;by_cases t:q0.1<=q0.2
   .simp[ik t,pV t];exact m
   simp[ny (show q0.2<=q0.1 by omega),oq (show q0.2<=q0.1 by omega)];exact m.symm
  simp[aa,p,fK]
 have ab:zR l (fK [] (qs.map fh)) q0.1 q0.2=aK↔Cc.Cg l qs q0.1 q0.2:=(y _ _ i.1 i.2).trans (Db _ _);refine⟨λhw=>⟨λe=>by simp at e,λm=>?_⟩,λhw=>⟨⟨by rw[u];split<;>simp,bT _⟩,λF Q hF hL=>?_⟩⟩
 .grind
 have m:zR l (fK [] (qs.map fh)) q0.1 q0.2=aK:=by
  cases m:zR l (fK [] (qs.map fh)) q0.1 q0.2
  .rw[u,m] at hw;exact absurd rfl hw
  rfl
 rw[o] at hF;rw[u,cY m,o] at hL;obtain⟨P1,hK,rfl⟩:=hL;let⟨r1,r2⟩:=CQ hB hl B ag i h G ad (ab.1 m) hF hK (aO (bB d)) d j;refine⟨r1,?_⟩;grind
theorem JS{w}{pb c}{f:List (Pr×Nat)}(c3:cz w pb 3 (.map (ah c)))(j:pO w c f)(a)(o:rI a){x}(r:jX f a=ah x):
  aB prog 80 #[pz pb,.agg #[iz a.1,iz a.2]] w λe s=>e=aw (iz x)∧aC w.heap.size w s:=by
 have d:Hid (∀m,bz w (bF (bC w (aq #[iz a.1,iz a.2] 34)) m)):=λm=>((cW (hz w) w).alloc (bT _) _).trans ⟨rfl,rfl,rfl,bT _,λ_ _=>rfl⟩;have g:=ey w #[iz a.1,iz a.2] 34;have u:=g.cell (i:=0) bQ;have y:=g.cell (i:=1) bQ;have k:aU (bC w (aq #[iz a.1,iz a.2] 34)) (az pb 3)=ah (.map (ah c)):=((d.out 0).cell (cV w _ c3)).trans c3;have h:∀m,_:=λm=>(show pO (bF (bC w (aq #[iz a.1,iz a.2] 34)) m) c f from j.keep (by let⟨es,t,p⟩:=j.lt;exact(d.out m).block c (bY.1 p).1)).look o
 rw[r] at h;simp[eQ,iM] at h;go_enter func80,ntmps80
 go_wp2;go_quiet(fail)
 go_wp2;go_ret;exact⟨rfl,d.out _⟩
variable{w W:ay}
def dG.kB{c:ay}(h:dG w c):aC w.heap.size w c:=⟨h.os,h.tape,h.output,h.size,λk d=>h.block k d λe=>e⟩
theorem mB.prw{a:Option aD}{c:Nat}{l:List Pr}(h:mB W (aj a (bB l) c) l):Xn W a (l.map wI):=by
 intro k x g;rw[fN] at g;cases d:l[k]? with
 |none=>rw[d] at g;cases g
 |some q=>
  rw[d] at g;cases g
  obtain⟨j,m,e,f⟩:=h;cases e
  obtain e|⟨b,i,rfl,f⟩:=f
  .rw[e] at d;simp at d
  exact⟨b,i,rfl,cV W _ (f k q d).1,(f k q d).1,(f k q d).2⟩
theorem JI{c e:Type}(f g:c->Option e):∀l:List c,(∀x∈l,f x=g x)->l.filterMap f=l.filterMap g
 | [],_=>rfl
 |a::l,h=>by rw[List.filterMap_cons,List.filterMap_cons,h a bQ,JI f g l λx d=>h x (by simp[d])]
theorem Yh{N:Nat}{l:List Pr}(h:∀q∈l,q.1<N∧q.2<N):Wm.nE N (l.map wI) (aO (bB (l.map wI)))=l:=by
 have d:∀q∈l,Wm.vU N (wI q)=ah q:=λq e=>by grind[mD,Wm.vU,wI]
 unfold Wm.nE;refine iv λi=>?_;have g:∀(l:List Pr),(∀q∈l,Wm.vU N (wI q)=ah q)->(aO (bB (l.map wI))).filterMap (λn=>((l.map wI)[n]?).bind (Wm.vU N))=l:=by
  intro l;refine Ax (P:=λl=>(∀q∈l,Wm.vU N (wI q)=ah q)->(aO (bB (l.map wI))).filterMap (λn=>((l.map wI)[n]?).bind (Wm.vU N))=l) (λ_=>rfl) (λl q c e=>?_) l;have c:=c (λq f=>e q (by simp[f]));rw[eG,cR,eD,qH,kG];rw[eG] at c;have j:(aO (bB l)).filterMap (λn=>(((l++[q]).map wI)[n]?).bind (Wm.vU N))=(aO (bB l)).filterMap (λn=>((l.map wI)[n]?).bind (Wm.vU N)):=by grind[JI,List.getElem?_append_left]
  rw[j,c];congr 1;simp[e q bQ]
 rw[g l d]
structure LwI(w W:ay)(lits:List Int)(v:aA)(ns:List Nat)(nv:aA):Prop where
 row:bD W w.heap.size 3 1 v (bB lits) (lits.map λx=>Value.int .i64 x)
 lF:bD W w.heap.size 3 1 nv (bB ns) (gq ns)
 sep:∀b,aP v=ah b->aP nv≠ah b
 kB:aC w.heap.size w W
def LwI.below{W':ay}{lits:List Int}{v:aA}{d:List Nat}{nv:aA}(h:LwI w W lits v d nv)(c:aC W.heap.size W W'):LwI w W' lits v d nv:=⟨ew h.row c,ew h.lF c,h.sep,h.kB.trans (c.mono h.kB.size)⟩
def yU(vs:List (Pr×Nat))(told:List Pr)(n:Nat):Int:=-(((jX vs (told[n]?.getD (0,0))).getD 0:Nat):Int)
theorem DB{S}{w}{pb vb kb}(tv){fv lv}{P}{base p}{ev}{nb fb}{l}(h:Pm S w pb vb kb (pz p) tv fv lv P)(hB:Bk w base p ev nb fb l)(t:Cc.Bd l)(hl:bB l<=150){da}(dc){told}(hD:mB w (aj da (bB told) dc) told)(a2:bB told<=1000)(b7:∀q∈told,q.1<bB l∧q.2<bB l)(b8:∀q∈told,∃x,jX P.vars q=ah x∧x<=100000)(a)(be:a.1<bB l∧a.2<bB l){V}(bi:jX P.vars a=ah V)(cp:Cc.Cg l told a.1 a.2)(bb:bB P.lemmas<=1000000000):
  aB prog 95 #[pz pb,aj da (bB told) dc,.agg #[iz a.1,iz a.2]] w λe w'=>e=aw (.tuple #[])∧∃c S' cd,Fits l (told.map wI) (a.1:Int) (a.2:Int) c∧pY S w S' w' pb vb kb (pz p) tv fv lv cd (P.whole a (c.map λn=>told[n]?.getD (0,0))):=by
 have ac:aC w.heap.size w (bC w (aq #[iz a.1,iz a.2] 34)):=(cW _ _).alloc (bT _) _;have c0:aU (bC w (aq #[iz a.1,iz a.2] 34)) (az pb 0)=ah (pz p):=(h.below ac).cells.cell (i:=0) bO;have N:aC w.heap.size w (bC w (aq #[iz a.1,iz a.2] 34)).drew:=ac.trans ⟨rfl,rfl,rfl,bT _,λ_ _=>rfl⟩;have J:=bL N;have WY:=aat (bC w (aq #[iz a.1,iz a.2] 34)).drew (hB.below hB.low N) t hl dc (told.map wI) (hD.below N).prw (by rw[eG];omega) (a.1:Int) (a.2:Int);rw[eG] at WY;have a3:tC l (Wm.nE (bB l) (told.map wI) (aO (bB (told.map wI)))) (a.1:Int) (a.2:Int)=aK:=by grind[tC,mD,Yh]
 have y1:aU (bC w (aq #[iz a.1,iz a.2] 34)) (az w.heap.size 0)=ah (iz a.1):=bQ
 have y2:aU (bC w (aq #[iz a.1,iz a.2] 34)) (az w.heap.size 1)=ah (iz a.2):=bQ
 have HY:=bL a3;have r:=bL (b9 h (b9 hD (b9 b7 (b9 b8 (b9 bi be)))));obtain⟨tn,f⟩:=bJ (bB told);have ab:=bL f;rw[f] at WY a2⊢;have a7:aB prog 143 #[pz p,aj da tn dc,iz a.1,iz a.2] (bC w (aq #[iz a.1,iz a.2] 34)).drew λe w'=>∃(c:List Nat)(m:Option aD)(g:Nat),e=aw (.tuple #[aj m (bB c) g,.bool aK])∧Hid (Fits l (told.map wI) (a.1:Int) (a.2:Int) c∧bB c<=tn∧bD w' w.heap.size 3 1 (aj m (bB c) g) (bB c) (gq c)∧aC w.heap.size w w'∧aU w' (az w.heap.size 0)=ah (iz a.1)∧aU w' (az w.heap.size 1)=ah (iz a.2)):=by
  refine WY.mono ?_;rintro e w2 ⟨K2,⟨b0,_⟩|⟨_,c,v,rfl,G,al,a1⟩⟩
  .exact absurd (b0.symm.trans HY.out) bS
  obtain⟨m,g,rfl⟩:=dZ G;rw[eG,ab.out] at a1;exact⟨c,m,g,rfl,al,a1,pB G J.out.size,J.out.trans (K2.kB.mono J.out.size),(K2.kB.cell bQ).trans y1,(K2.kB.cell bQ).trans y2⟩
 go_enter func95,ntmps95
 go_wp2
 go_cut[6,7] from 11 to 24 λt6 t7 wx=>∃(c:List Nat)(m:Option aD)(g:Nat),t6=aj m (bB c) g∧Hid (Fits l (told.map wI) (a.1:Int) (a.2:Int) c∧bB c<=tn∧bD wx w.heap.size 3 1 (aj m (bB c) g) (bB c) (gq c)∧aC w.heap.size w wx∧aU wx (az w.heap.size 0)=ah (iz a.1)∧aU wx (az w.heap.size 1)=ah (iz a.2))
 case first=>
  go_region_law(first|(go_simp;go_at_call 143;refine a7.mono ?_;rintro e w2 ⟨c,m,g,rfl,o⟩));all_goals
   try simp only[aQ,cD,cw,ct,cf,cN,cK]
   go_wp2;go_meet
   case rel=>exact⟨c,m,g,rfl,o⟩
 case rest=>
  obtain⟨c,m,g,rfl,o⟩:=hcut;have s:=r.out.1.below o.out.2.2.2.1;have z1:=o.out.2.2.2.2.1;have z2:=o.out.2.2.2.2.2;have VA:=JS (s.cells.cell (i:=3) bO) s.vars a ⟨by have:=r.out.2.2.2.2.2.1;omega,by have:=r.out.2.2.2.2.2.2;omega⟩ r.out.2.2.2.2.1;apply_assumption
  go_wp2_with(go_at_call 80;refine VA.mono ?_;rintro e A ⟨rfl,B3⟩;refine dM ?_);delta aH;have L:Hid (LwI w (bC A (aq #[iz V] 3)) ((V:Int)::(c.take 0).map (yU P.vars told)) (aj (ah (az A.heap.size 0)) 1 1) c (aj m (bB c) g)):=by
   have B4:aC A.heap.size A (bC A (aq #[iz V] 3)):=(cW _ _).alloc (bT _) _;have O:aC w.heap.size w A:=o.out.2.2.2.1.trans (B3.mono o.out.2.2.2.1.size);refine⟨⟨rfl,cI ⟨A.heap.size,1,#[iz V],rfl,O.size,eW _ _,bT _,by unfold aY;omega,rfl,rfl⟩⟩,ew (ew o.out.2.2.1 B3) B4,λb t e=>?_,O.trans (B4.mono O.size)⟩;have h1:=(dI (ew o.out.2.2.1 B3) e).2;have Z:A.heap.size=b:=by simpa[aP] using t
   omega
  have B:=bL (b9 o.out.1 o.out.2.1);obtain⟨nn,R⟩:=bJ (bB c);have aa:=bL R;have cj:nn<=1000:=by rw[<-R];exact bZ B.out.2 a2
  rw[R] at L⊢;apply_assumption
  go_wp2;generalize bC A (aq #[iz V] 3)=w4 at *;obtain⟨lb,ao⟩:=bJ A.heap.size;rw[ao] at L;simp only[ao];let⟨i0,bx,ca,cb,cc⟩:=eB qQ
  go_loopw[8,30] (λt8 X W=>∃i:Nat,i<=nn∧X=iz i∧Hid (LwI w W ((V:Int)::(c.take i).map (yU P.vars told)) t8 c (aj m nn g))) λ_ X _=>nn-(aG X).toNat
  case atStart=>exact⟨0,dt _,rfl,L⟩
  case round=>
   obtain⟨i,hi,rfl,z⟩:=hrel;let⟨va,vc,bR⟩:=dZ z.out.row;subst bR;by_cases a0:i<nn
   .have di:=bM i nn;have cv:=fq (a:=i) bO;have u:i<bB c:=by rw[aa.out];exact a0
    have Q:bB ((V:Int)::(c.take i).map (yU P.vars told))=i+1:=bX
    have H:(V:Int)::(c.take (i+1)).map (yU P.vars told)=((V:Int)::(c.take i).map (yU P.vars told))++[yU P.vars told c[i]]:=by rw[dJ,bP u,fE,fZ];rfl
    obtain⟨y,rfl,cn⟩:∃y,m=ah (az y 0)∧aU wr (az y i)=ah (iz (c[i]:Int)):=by
     have hr:=z.out.lF;obtain⟨e,h0⟩|⟨g',ch,cm,e,_⟩:=hr.2
     .rw[h0] at u;cases u
     cases e
     refine⟨g',rfl,?_⟩;have:=hr;rw[this.cellAt i bO];unfold gq;rw[fN,bP u];rfl
    have d:c[i]<bB told:=by have:=B.out.1.lt c[i] (dw u);simpa using this
    generalize c[i]=n at *;have f:=bP d;let⟨x,hx,cx⟩:=r.out.2.2.2.1 _ (dw d);have cr:=r.out.2.2.1 _ (dw d);obtain⟨db,co,ba,C⟩:∃b U,da=ah (az b U)∧∀(j:Nat)(p:Pr),told[j]?=ah p->aU w ⟨b,U+j*2,ai⟩=ah (iz p.1)∧aU w ⟨b,U+j*2+1,ai⟩=ah (iz p.2):=by
     let⟨a',c',e,Z⟩:=r.out.2.1;cases e
     obtain Z|Z:=Z
     .rw[Z] at d;cases d
     exact Z
    subst ba;have ap:yU P.vars told n=-(x:Int):=by unfold yU;rw[f,eQ,hx];rfl
    have d1:=(z.out.kB.cell (cV w _ (C n _ f).1)).trans (C n _ f).1;have d2:=(z.out.kB.cell (cV w _ (C n _ f).2)).trans (C n _ f).2;generalize told[n]=q at *;have s:=r.out.1.below z.out.kB;have VA:=JS (s.cells.cell (i:=3) bO) s.vars q ⟨by omega,by omega⟩ hx;have ci:IntKind.i64.wrap (-(x:Int))=-(x:Int):=aew
    have ck:n<tn:=by rw[<-ab.out];exact d
    have HR:Hid (∀I,aC wr.heap.size wr I->LwI w I ((V:Int)::(c.take i).map (yU P.vars told)) (.slice va (bB ((V:Int)::(c.take i).map (yU P.vars told))) vc) c (aj (ah (az y 0)) nn g)):=λI h5=>z.out.below h5;rw[ap] at H;have a4:=bL H;rw[Q] at HR⊢
    go_wp2_with(go_at_call 80;refine VA.mono ?_;rintro e I ⟨rfl,B5⟩;refine dM ?_);delta aH;have M:Hid _:=HR.out I B5;have r5:=M.out.row;rw[Q] at r5;have bj:=M.out.kB.size;apply_assumption
    go_wp2_with(first|(at_builtin;refine dM ?_));delta aH;refine fX _ rfl _ _ 39 rfl w.heap.size 3 i0 _ 1 8 underlying39 bx ca cb cc rfl bS _ _ _ rfl (r5.alloc _) (az _ 0) 1 1 [iz (-(x:Int))] rfl rfl (ph I _ _) cM cJ bO bX ?_;intro v8 w8 T D _ ag;have HF:Hid (LwI w w8 ((V:Int)::(c.take (i+1)).map (yU P.vars told)) v8 c (aj (ah (az y 0)) nn g)):=by
     have K8:bI (λk=>aP (aT va (i+1) vc)=ah k) I w8:=gA ((bW _ I).alloc _) D λk e=>e;have Y:=M.out;rw[a4.out];refine⟨?_,mg Y.lF λb t=>K8.block b (dI Y.lF t).2 λe=>Y.sep b e t,λb t e=>?_,Y.kB.trans (K8.below bj λq hq=>(dI r5 hq).1)⟩
     .rw[cR,eD,Q,fZ];exact T
     obtain e8|e8:=ag
     .rw[e8] at t;exact Y.sep b t e
     rw[e8] at t;have h1:=(dI Y.lF e).2;simp at t;omega
    go_wp2;exact⟨⟨i+1,a0,by simp,HF⟩,by simp[aG];omega⟩
   have di:=bN i nn;obtain rfl:i=nn:=bO
   have b6:c.take i=c:=eF (by rw[aa.out];exact bT _);rw[b6] at z⊢;let⟨gb,gc,an,ad⟩:=Rw.Uw (pB z.out.row (dt _)) bQ;have X0:=(An r.out.1).below z.out.kB;have a6:=Gs wr X0.is bb gb gc _ ad;have bo:w.heap.size<=gb:=(dI z.out.row (b:=gb) (by rw[an];rfl)).1;have bc:=X0.wider (S2:=λk=>S k∨k=gb) (λ_=>cB) (λk hk=>hk.elim cB λe=>by rw[e];exact cI bo) (λk hk=>hk.elim (λe=>X0.is.lt k e) λe=>by rw[e];exact ad.lt);have HF:Hid ({P with lemmas:=P.lemmas++[(V:Int)::c.map (yU P.vars told)]}=P.whole a (c.map λn=>told[n]?.getD (0,0))):=by
    show _=_;unfold Pb.whole;rw[aer (show P.num a=ah V from r.out.2.2.2.2.1)];let⟨m1,m2⟩:=yQ (c.map λn=>told[n]?.getD (0,0)) P (λq hq=>by
     obtain⟨n,hn,rfl⟩:=gI.1 hq;have d:n<bB told:=by have:=B.out.1.lt n hn;simpa using this
     let⟨x,hx,_⟩:=r.out.2.2.2.1 _ (dw d);rw[bP d,eQ,show P.num told[n]=ah x from hx];simp)
    simp only;rw[m1,m2,kL,kL];rfl
   have a5:=bL bc;rw[an];generalize bB ((V:Int)::c.map (yU P.vars told))=gl at *
   go_wp2_with(go_at_call 122;refine a6.mono ?_;rintro e w9 ⟨rfl,ce,X9,a9,a8⟩);refine⟨rfl,.tuple #[],by simp[aI,results95],rfl,c,λk=>S k∨k=gb,ce,B.out.1,?_⟩;rw[<-HF.out];exact a5.out.trans ⟨X9,λ_=>cB,a9,a8⟩
end
section
variable{W W':ay}{n pb vb kb qb:Nat}{v bk tv fv lv dv:aA}{xs:List aA}{P:Pb}{S:Nat->Prop}
theorem TG{base:Nat}(h:bD W base 206 10 v n xs){f:aA}{g:Pb}{i:Nat->Prop}(d:Pm S W pb vb kb bk tv fv lv P)(o:pY S W i W' pb vb kb bk tv fv lv f g):bD W' base 206 10 v n xs:=by
 let⟨es,q,k⟩:=d.vars.lt;let⟨m,j,l⟩:=d.known.lt;let⟨r,p,_⟩:=d.rows;refine eP h λb c=>o.kept.block b (dI h c).2 ?_;rintro(e|e|e|e)
 .exact dY d.cells bS h (e▸c)
 .exact iL h k (e▸c)
 .exact iL h l (e▸c)
 exact kz h p bS c e
theorem AY.kD:∀(r:List Pr)(P:Pb),AY P->AY (Pb.kD r P).2
 | [],_,h=>h
 |a::r,P,h=>by
  rw[Pb.kD]
  split
  .exact AY.kD r P h
  exact AY.kD r _ (h.fD a).1
def aen:=@AY.kD
theorem AY.step(h:AY P)(st:rl):AY (P.step st):=by
 unfold Pb.step
 split
 .exact h
 have b:AY {P with known:=P.known++[(st.1,nH st.2)]}:=h;exact AY.kD (nH st.2) _ (b.fD st.1).1
theorem AY.steps:∀(S:List rl)(P:Pb),AY P->AY (S.foldl Pb.step P)
 | [],_,h=>h
 |st::S,_,h=>AY.steps S _ (h.step st)
structure PrM(W:ay)(qb:Nat)(tv dv:aA)(n:Nat)(L:List (List Nat)):Prop where
 x1:aU W ⟨qb,1,ai⟩=ah tv
 x2:aU W ⟨qb,2,ai⟩=ah dv
 x3:∃lv,aU W ⟨qb,3,ai⟩=ah lv∧zW W lv L
 len:bB L=n
 sd:∀r∈L,bB r<=1048576
variable{L:List (List Nat)}
theorem PrM.of{B sp nb:Nat}{jv:aA}{g:Uf.G}{t:List Uf.Rec}{lv:Nat->aA}(h:sU W B qb sp nb kb tv dv jv n g t L lv)(hs:DO L t)(m:n<=1000):PrM W qb tv dv n L:=by
 have c1:=h.cells.cell (i:=1) bO;have c2:=h.cells.cell (i:=2) bO;have c3:=h.cells.cell (i:=3) bO;have c:cz W qb 3 (aj (ah (az kb 0)) n n):=c3;refine⟨c1,c2,⟨_,c,⟨ah (az kb 0),n,by rw[h.len],?_⟩⟩,h.len,λr f=>?_⟩
 .cases d:L with
  |nil=>exact cB rfl
  |cons a r=>
   rw[<-d];refine cI ⟨kb,0,rfl,λj r e=>?_⟩;have b:j<n:=by rw[<-h.len];exact(bU.1 e).1
   refine⟨lv j,by rw[fM];exact h.outer.cell (i:=j) b,?_⟩;have:=h.rows j b;grind[pQ.tm]
 have k:=hs r f;have l:=h.ie.ok.num;omega
theorem PrM.below(h:PrM W qb tv dv n L)(c:aC W.heap.size W W'):PrM W' qb tv dv n L:=by have b:=iS c;let⟨lv,d,e⟩:=h.x3;exact⟨b _ _ h.x1,b _ _ h.x2,⟨lv,b _ _ d,e.mono b⟩,h.len,h.sd⟩
theorem UX{S}{w}{pb vb kb}{fv lv}{P}{base p}{ev}{nb fb}{l}{G}(D)(h:Pm S w pb vb kb (pz p) (aj G (bB l) D) fv lv P)(hB:Bk w base p ev nb fb l)(hb:Cc.Bd l)(hl:bB l<=150)(hT:sR w (aj G (bB l) D) l){da}(dc){told}(hD:mB w (aj da (bB told) dc) told)(bb:bB told<=1000)(T:∀q∈told,q.1<=q.2∧q.2<bB l)(b6:∀q∈told,∃x,jX P.vars q=ah x∧x<=100000)(a)(B:a.1<=a.2∧a.2<bB l){V}(bo:jX P.vars a=ah V)(a5:Cc.Cg l told a.1 a.2){pa}(pc)(hP:mB w (aj pa 1 pc) [a])(ch:bB P.lemmas<=100000)(cd:P.count<=2000)(ci:bB P.vars<=2000)(ce:bB P.known<=100000)(b7:AY P):
  aB prog 49 #[pz pb,aj da (bB told) dc,aj pa 1 pc] w λe w'=>e=aw (.tuple #[])∧∃F Q I d,uE l told=ah F∧GU l told F [a] P Q∧pY S w I w' pb vb kb (pz p) (aj G (bB l) D) fv lv d Q:=by
 have A:OZ l:=⟨λi t Z=>hb.four t (cH Z),λi t Z=>hb.args i t Z,λi j t u Z hu=>hb.one t (cH Z) u (cH hu)⟩
 let⟨F,E,p1,C,p3⟩:=BU A T;let⟨f1,f2⟩:=C.facts A;have m:a.1<bB l:=bO
 have ad:gO E a.1 a.2:=p3 _ _ a5;let⟨c,e1,_⟩:=Ec C.lnk C.qR (argp:=iZ l) (told:=told) (λp q r=>by rw[C.len];exact(qp A p).1 q r) f1 ad (by rw[C.len];exact m) (by rw[C.len];exact B.2);let⟨n1,n2,n3,n4⟩:=Bu C.lnk (argp:=iZ l) (told:=told) (λp q r=>by rw[C.len];exact((qp A p).1 q r).2) (λp=>(qp A p).2) (λp q r=>((qp A p).1 q r).1) (λx y b8 hn=>by rw[C.len];exact(f2 x y b8 hn).2) ad (by rw[C.len];exact m) (by rw[C.len];exact B.2) B.1 e1;rw[C.len] at n4 n2;have n4:=bZ n4 (OG hl);have c1:cz w pb 1 (aj G (bB l) D):=h.cells.cell (i:=1) bO;have NP:=I5 bO (λt Z=>⟨hB.yr t Z,λx hx=>by let⟨i,hi,e⟩:=gY Z;exact hb.args i t cG x hx⟩) D hT dc hD bO (λq r=>⟨by have:=T q r;omega,(T q r).2⟩) p1;have ac:aB prog 92 #[aj G (bB l) D,aj da (bB told) dc] w λe w'=>∃qb,e=aw (pz qb)∧Hid (PrM w' qb (aj G (bB l) D) (aj da (bB told) dc) (bB l) F.L∧bz w w'):=by refine NP.mono ?_;rintro e w1 ⟨qb,sp,cm,ck,jv,t,d,rfl,hM,hR,bi⟩;exact⟨qb,rfl,PrM.of hM hR bO,bi⟩
 have o:=bL (b9 h (b9 hB (b9 hT (b9 hD (b9 T (b9 b6 (b9 hP (b9 bo a5))))))));have HE:=bL (b9 p1 (b9 C.lnk (b9 f2 (b9 ad e1))));have HN:=bL (b9 n1 (b9 n2 (b9 n3 n4)));obtain⟨tn,bc⟩:=bJ (bB told);have M:=bL bc;obtain⟨ln,a9⟩:=bJ (bB l);have f:=bL a9;rw[bc] at ac bb⊢;rw[a9] at ac c1 hl B m;go_enter func49,ntmps49
 go_wp2_with(go_at_call 92;refine ac.mono ?_;rintro e w1 ⟨qb,rfl,H1⟩)
 go_loopw[20] (λU W=>(U=iz 0∧W=w1)∨(U=iz 1∧Hid (∃Q I d,GU l told F [a] P Q∧pY S w I W pb vb kb (pz p) (aj G ln D) fv lv d Q))) λU _=>1-(aG U).toNat
 case atStart=>exact cB ⟨rfl,rfl⟩
 case round=>
  obtain⟨rfl,rfl⟩|⟨rfl,HQ⟩:=hrel
  .obtain⟨gb,go,rfl,O⟩:∃b J,pa=ah (az b J)∧(cz w b J (iz a.1)∧cz w b (J+1) (iz a.2)):=by
    let⟨a',c',e,N⟩:=o.out.2.2.2.2.2.2.1;cases e
    obtain N|⟨b,J,rfl,N⟩:=N
    .cases N
    have:=N 0 a rfl;simp only[Nat.zero_mul,fH] at this;exact⟨b,J,rfl,this⟩
   have q1:=(H1.out.2.cell (cV w _ O.1)).trans O.1;have q2:=(H1.out.2.cell (cV w _ O.2)).trans O.2;have Ba:bz wr (bC wr (aq #[iz a.1,iz a.2] 34)):=(cW _ _).alloc (bT _) _;have Bw:bz w (bC wr (aq #[iz a.1,iz a.2] 34)):=H1.out.2.trans (Ba.mono H1.out.2.size);have X:=H1.out.1.below Ba;rw[<-f.out,<-M.out] at X;let⟨bR,m3,mN⟩:=X.x3;have ST:=Q8 (bC wr (aq #[iz a.1,iz a.2] 34)) qb G D (aj da (bB told) dc) bR l told F.L (bB l) X.len rfl (by rw[f.out];omega) X.sd (by rw[X.len];exact X.x1) X.x2 m3 (by rw[X.len];exact o.out.2.2.1.mono (iS Bw)) (o.out.2.2.2.1.below Bw) (by rw[M.out];omega) mN E HE.out.2.1 HE.out.2.2.1 a ⟨HE.out.2.2.2.1,by rw[f.out];exact m,by rw[f.out];exact B.2⟩ c HE.out.2.2.2.2;have a0:=bL Bw;have z1:aU (bC wr (aq #[iz a.1,iz a.2] 34)) (az (hz wr) 0)=ah (iz a.1):=bQ
   have z2:aU (bC wr (aq #[iz a.1,iz a.2] 34)) (az (hz wr) 1)=ah (iz a.2):=bQ
   go_wp2_with(go_at_call 93;refine ST.mono ?_;rintro e w3 ⟨v3,rfl,R3,B3⟩;refine dM ?_);delta aH;have H:Hid (bz w w3):=a0.out.trans (B3.mono a0.out.size);have y1:=(B3.cell (cV _ _ z1)).trans z1;have y2:=(B3.cell (cV _ _ z2)).trans z2;have a4:=o.out.1.below H.out;have bj:bB c<=6750000:=HN.out.2.2.2;have Y:∀s∈c,DM s:=λst al=>by let⟨o1,o2⟩:=HN.out.2.1 st al;rw[f.out] at o1 o2;exact⟨⟨by have:=o1.1;omega,by have:=o1.2;omega⟩,λq r=>⟨by have:=(o2 q r).1;omega,by have:=(o2 q r).2;omega⟩⟩
   have RM:=MC a4 bO _ v3 c R3 bO λst al=>(Y st al).1;let⟨va,vc,an⟩:=dZ R3;subst an;have a2:=bL (b9 R3 Y);obtain⟨sn,ba⟩:=bJ (bB c);have aa:=bL ba;rw[ba] at bj RM⊢;by_cases k:P.count+bB (oI P c [])<=2000
   .rw[cZ k] at RM;apply_assumption
    go_wp2_with(go_at_call 94;refine RM.mono ?_;rintro e w4 ⟨rfl,B4⟩);have z:Hid (bz w w4):=H.out.trans (B4.mono H.out.size);have a1:Hid (∃I d,pY S w I w4 pb vb kb (pz p) (aj G (bB l) D) fv lv d ((c.take 0).foldl Pb.step P)∧bD w4 0 206 10 (aj va (bB c) vc) (bB c) (oC c)):=⟨S,lv,(An o.out.1).below z.out,ew (pB a2.out.1 (dt _)) B4⟩
    have HG:Hid (∀j,(((c.take j).foldl Pb.step P).lemmas.length<=10000000∧((c.take j).foldl Pb.step P).count<100000∧((c.take j).foldl Pb.step P).vars.length<100000∧((c.take j).foldl Pb.step P).known.length<1000000000∧AY ((c.take j).foldl Pb.step P))):=λj=>by
     have hG:=Gr.proof P (S:=c) (told:=told) (λq r=>by let⟨x,hx,_⟩:=o.out.2.2.2.2.2.1 q r;rw[show P.num q=ah x from hx];simp) HN.out.1 j;have h0:bB c<=6750000:=HN.out.2.2.2;have ag:bB (c.take j)<=6750000:=aeF
     have h1:=hG.lZ;have N:=hG.count;have h3:=hG.vars;have h4:=hG.Dt;have h5:=hG.kn;exact⟨by omega,by omega,by omega,by omega,AY.steps _ P b7⟩
    rw[aa.out] at a1
    go_loopw[37] (λap W=>∃j:Nat,j<=sn∧ap=iz j∧Hid (∃I d,pY S w I W pb vb kb (pz p) (aj G (bB l) D) fv lv d ((c.take j).foldl Pb.step P)∧bD W 0 206 10 (aj va sn vc) sn (oC c))) λap _=>sn-(aG ap).toNat
    case atStart=>exact⟨0,dt _,rfl,a1⟩
    case round=>
     obtain⟨j,hj,rfl,HJ⟩:=hrel;let⟨Sj,ca,Xj,Rj⟩:=HJ.out;by_cases R:j<sn
     .have dj:=bM j sn;have cj:IntKind.i64.wrap ((j:Int)+1)=(j:Int)+1:=by rw[cX];omega
      have ag:j<bB c:=by rw[aa.out];exact R
      have a8:=bP ag;have bx:=a2.out.2 _ (dw ag);have b0:(c.take (j+1)).foldl Pb.step P=((c.take j).foldl Pb.step P).step c[j]:=by rw[dJ,a8,fE,j7];rfl
      generalize c[j]=st at *;let⟨x0,x1,x2,x3,x4,x5,x6,x7,x8,x9,a7⟩:=sO st.1 st.2;obtain⟨a3,an⟩:∃g,va=ah (az g 0):=by
       obtain⟨e,h0⟩|⟨g,cb,cc,e,_⟩:=Rj.2
       .rw[h0] at R;exact absurd R (iR _)
       cases e;exact⟨g,rfl⟩
      subst an;have fS:∀(t u:Nat),[x0,x1,x2,x3,x4,x5,x6,x7,x8,x9][t]?=ah u->aU wr ⟨a3,j*10+t,ai⟩=ah (iz u):=λt u hu=>by have:=Rj.cells (g:=a3) rfl _ _ (yG a8 a7 t u hu);rw[j9,fM] at this;exact this
      have y0:=fS 0 x0 rfl;rw[fH] at y0;have y1:=fS 1 x1 rfl;have y2:=fS 2 x2 rfl;have y3:=fS 3 x3 rfl;have y4:=fS 4 x4 rfl;have y5:=fS 5 x5 rfl;have y6:=fS 6 x6 rfl;have y7:=fS 7 x7 rfl;have y8:=fS 8 x8 rfl;have y9:=fS 9 x9 rfl;have Bx:bz wr (bC wr (aq #[iz x0,iz x1,iz x2,iz x3,iz x4,iz x5,iz x6,iz x7,iz x8,iz x9] 206)):=(cW _ _).alloc (bT _) _;have X2:=Xj.below Bx;let⟨g1,g2,g3,g4,g5⟩:=HG.out j;have LS:=Gc X2.is bx g1 g2 g3 g4 g5;rw[Ti a7] at LS;have ab:=bL (b9 X2 (ew Rj Bx));have be:=bL b0
      go_wp2_with(go_at_call 96;refine LS.mono ?_;rintro e w5 ⟨rfl,S5,ao,X5⟩);refine⟨⟨j+1,R,by simp,?_⟩,by simp[aG];omega⟩;rw[be.out];exact⟨S5,ao,ab.out.1.trans X5,TG ab.out.2 ab.out.1.is X5⟩
     have dj:=bN j sn;obtain rfl:j=sn:=bO
     have HF:Hid (∃Q I d,GU l told F [a] P Q∧pY S w I wr pb vb kb (pz p) (aj G ln D) fv lv d Q):=by rw[eF (by rw[aa.out];exact bT _),f.out] at Xj;exact⟨_,Sj,ca,⟨_,⟨c,HE.out.2.2.2.2,λ_=>rfl,λhr=>absurd k hr⟩,rfl⟩,Xj⟩
     go_wp2;exact⟨cI ⟨rfl,HF⟩,by simp[aG]⟩
   rw[cP k] at RM;apply_assumption
   go_wp2_with(go_at_call 94;refine RM.mono ?_;rintro e w4 ⟨rfl,B4⟩;refine dM ?_);delta aH;have z:Hid (bz w w4):=H.out.trans (B4.mono H.out.size);have x1:=(B4.cell (cV w3 _ y1)).trans y1;have x2:=(B4.cell (cV w3 _ y2)).trans y2;have LW:=DB (aj G (bB l) D) (o.out.1.below z.out) (o.out.2.1.below o.out.2.1.low z.out) hb (by rw[f.out];exact hl) dc (o.out.2.2.2.1.below z.out) (by rw[M.out];exact bb) (λq r=>by have:=o.out.2.2.2.2.1 q r;omega) o.out.2.2.2.2.2.1 a ⟨by rw[f.out];exact m,by rw[f.out];exact B.2⟩ o.out.2.2.2.2.2.2.2.1 o.out.2.2.2.2.2.2.2.2 bO;rw[M.out] at LW;apply_assumption
   go_wp2_with(go_at_call 95;refine LW.mono ?_;rintro e w5 ⟨rfl,ns,S5,ao,a6,X5⟩);refine⟨cI ⟨rfl,_,S5,ao,⟨_,⟨c,HE.out.2.2.2.2,λhr=>absurd hr k,λ_=>⟨ns,a6,rfl⟩⟩,rfl⟩,?_⟩,by simp[aG]⟩;rw[<-f.out];exact((An o.out.1).below z.out).trans X5
  go_wp2;refine⟨rfl,.tuple #[],by simp[aI,results49],rfl,F,?_⟩;let⟨Q,I,d,h1,N⟩:=HQ.out;rw[<-f.out] at N;exact⟨Q,I,d,HE.out.1,h1,N⟩
def EZ(W:ay)(xs:List aA)(css:List (List Int)):Prop:=bB xs=bB css∧∀(i:Nat)(c:List Int),css[i]?=ah c->∃ra rc,xs[i]?=ah (aj ra (bB c) rc)∧oY W ra c
variable{cs:List (List Int)}
theorem EZ.app{e:List aA}{d:List (List Int)}(h:EZ W xs cs)(k:EZ W e d):EZ W (xs++e) (cs++d):=by
 refine⟨by simp[h.1,k.1],λi c b=>?_⟩;by_cases hl:i<bB cs
 .rw[df hl] at b;rw[df (by rw[h.1];exact hl)];exact h.2 i c b
 rw[dr bO] at b;rw[dr (by rw[h.1];omega),h.1];exact k.2 _ c b
theorem EZ.mono(f:nj W W')(h:EZ W xs cs):EZ W' xs cs:=by refine⟨h.1,λi c e=>?_⟩;let⟨g,j,b,d⟩:=h.2 i c e;exact⟨g,j,b,d.mono f⟩
theorem EZ.one(h:EZ W xs cs):∀v∈xs,v.oneCell'=aK:=λv d=>by
 let⟨i,c,e⟩:=gY d;let⟨f,g,b,_⟩:=h.2 i _ (bP (by rw[<-h.1];exact c));rw[bP c,e] at b;cases b
 rfl
theorem oX.part{g:Option aD}{cc:Nat}(h:oX W g cs):∃xs,ni 1 W (aj g (bB cs) cc) (bB cs) xs∧EZ W xs cs:=by
 obtain e|⟨b,d,rfl,h⟩:=h
 .subst e;exact⟨[],⟨g,cc,rfl,rfl,by simp,cB rfl⟩,rfl,λi c f=>by simp at f⟩
 refine⟨(aO (bB cs)).map λi=>(aU W ⟨b,d+i,ai⟩).getD aF,?_⟩;have m:EZ W ((aO (bB cs)).map λi=>(aU W ⟨b,d+i,ai⟩).getD aF) cs:=by
  refine⟨by simp,λi c f=>?_⟩;have hl:=(bU.1 f).1;let⟨o,p,k,q⟩:=h i c f;refine⟨o,p,?_,q⟩;rw[fN,vS hl,kY,k];rfl
 refine⟨⟨_,cc,rfl,by simp,m.one,cI ⟨b,d,rfl,λj v l=>?_⟩⟩,m⟩;have hl:j<bB cs:=by have:=(bU.1 l).1;simpa using this
 rw[fN,vS hl,kY] at l;let⟨o,p,k,_⟩:=h j _ (bP hl);grind
theorem Pm.part(h:Pm S W pb vb kb bk tv fv lv P):∃a c xs,lv=aj a (bB P.lemmas) c∧ni 1 W lv (bB P.lemmas) xs∧EZ W xs P.lemmas:=by
 let⟨m,f,d,u⟩:=h.rows;obtain⟨a,c,rfl⟩:=dZ f;have l:EZ W m P.lemmas:=⟨d,λi q r=>by let⟨g,b,s,_,t⟩:=u i q r;exact⟨_,b,s,t.cls⟩⟩
 refine⟨a,c,m,by rw[d],⟨a,c,by rw[d],by rw[d,iq],l.one,?_⟩,l⟩;obtain⟨e,w⟩|⟨g,b,o,e,_⟩:=id f.2
 .left;omega
 cases e
 refine cI ⟨g,0,rfl,λj v k=>?_⟩;have p:=(bU.1 k).1;rw[fM,f.cellAt j bO];exact k
def YY:(prog.info? 116).map (λi=>(i.zero,i.size,i.bytes))=ah (ah (aj ai 0 0),1,24):=bV
def FG(P:Pb)(fs:List Fm)(lx:List aA)(X:Nat->List aA)(ns:List Nat):List (Nat×List aA):=(bB P.lemmas,lx)::ns.map λn=>((Fm.get fs n).cs.length,X n)
variable{fs:List Fm}
theorem Yg{d:List aA}{X:Nat->List aA}(hl:EZ W d P.lemmas):∀(b:List Nat),(∀n∈b,EZ W (X n) (Fm.get fs n).cs)->EZ W (qY (FG P fs d X b)) (lO P fs b)∧lA (FG P fs d X b)=bB (lO P fs b):=by
 intro b h;have f:qY (FG P fs d X b)=d++b.flatMap X:=by simp[qY,FG,List.flatMap_map]
 have e:∀b:List Nat,(∀n∈b,EZ W (X n) (Fm.get fs n).cs)->EZ W (b.flatMap X) (b.flatMap λn=>(Fm.get fs n).cs):=by
  intro b
  induction b with
  |nil=>intro _;exact⟨rfl,λi c j=>by simp at j⟩
  |cons a r l=>intro h;rw[gS,gS];exact(h a bQ).app (l λn k=>h n (by simp[k]))
 have g:EZ W (qY (FG P fs d X b)) (lO P fs b):=by rw[f];exact hl.app (e b h)
 refine⟨g,?_⟩;simp[lA,FG,lO,qe,kL,Function.comp_def]
theorem Gz{S}{w}{pb vb kb}{bk tv fv lv}{P}(h:Pm S w pb vb kb bk tv fv lv P){N}{fs}(ha:ve w N fv fs){xa}(xc){o}(hx:pQ w (aj xa (bB o) xc) o)(a5:∀n∈o,n<bB fs)(a4:bB o<=100000)(an:bB (lO P fs o)<=100000000):
  aB prog 45 #[pz pb,aj xa (bB o) xc] w λe w'=>∃s cc,e=aw (.slice s (bB (lO P fs o)) cc)∧oX w' s (lO P fs o)∧aC w.heap.size w w':=by
 let⟨O,Q,E,a3,a2,a1⟩:=h.part;subst a3;have c5:cz w pb 5 (aj O (bB P.lemmas) Q):=h.cells.cell (i:=5) bO;obtain⟨fa,fc,ap,ha⟩:=ha;subst ap;have c2:cz w pb 2 (aj fa (bB fs) fc):=h.cells.cell (i:=2) bO;have hX:∀n:Nat,∃X:List aA,∀M:n<bB fs,∃b C s cc,fa=ah (az b C)∧aU w ⟨b,C+n*6+5,ai⟩=ah (.slice s (Fm.get fs n).cs.length cc)∧ni 1 w (.slice s (Fm.get fs n).cs.length cc) (Fm.get fs n).cs.length X∧EZ w X (Fm.get fs n).cs:=λn=>by
  by_cases M:n<bB fs
  .have e:=bP M;obtain⟨b,C,h3,op,x,y,ka,kn,kc,au,cu,f,⟨_,_,_,_,_,c5⟩,_,_,_,_,s,cc,rfl,ao⟩:=ha n _ e;let⟨xs,x1,x2⟩:=ao.part (cc:=cc);exact⟨xs,λ_=>⟨b,C,s,cc,h3,by rw[tL e];exact c5,by rw[tL e];exact x1,by rw[tL e];exact x2⟩⟩
  exact⟨[],λh=>absurd h M⟩
 let⟨X,hX⟩:=Classical.axiomOfChoice hX;obtain⟨n,M⟩:=bJ (bB o);have HN:=bL M;rw[M] at a4⊢;have D:=bL (b9 hX (b9 hx (b9 a5 (b9 a2 (b9 a1 an)))));have ac:Hid (∃A:List aA,bD (bC w (aq #[aj O (bB P.lemmas) Q] 116)) w.heap.size 116 1 (aj (ah (az w.heap.size 0)) 1 1) (0+1) A∧aC w.heap.size w (bC w (aq #[aj O (bB P.lemmas) Q] 116))∧∀(j:Nat)(q:Nat×List aA),(FG P fs E X (o.take 0))[j]?=ah q->∃u,A[j]?=ah u∧ni 1 w u q.1 q.2):=by
  refine⟨[aj O (bB P.lemmas) Q],⟨rfl,cI ⟨w.heap.size,1,#[aj O (bB P.lemmas) Q],rfl,bT _,eW _ _,bT _,by unfold aY;omega,rfl,rfl⟩⟩,(cW _ _).alloc (bT _) _,λj q p=>?_⟩
  match j,p with
  |0,p=>simp[FG] at p;subst p;exact⟨_,rfl,D.out.2.2.2.1⟩
  |j+1,p=>simp[FG] at p
 go_enter func45,ntmps45
 go_wp2;generalize bC w (aq #[aj O (bB P.lemmas) Q] 116)=w1 at *;obtain⟨g0,U⟩:=bJ w.heap.size;have R:=bL U;simp only[U] at ac⊢;let⟨i0,a0,a9,ba,bb⟩:=eB YY
 go_loopw[5,15] (λt5 I W=>∃i:Nat,i<=n∧I=iz i∧Hid (∃A:List aA,bD W g0 116 1 t5 (i+1) A∧aC g0 w W∧∀(j:Nat)(q:Nat×List aA),(FG P fs E X (o.take i))[j]?=ah q->∃u,A[j]?=ah u∧ni 1 w u q.1 q.2)) λ_ I _=>n-(aG I).toNat
 case atStart=>grind
 case round=>
  obtain⟨i,hi,rfl,HJ⟩:=hrel;let⟨A,l,d,z⟩:=HJ.out;let⟨va,vc,a6⟩:=dZ l;subst a6;rw[<-R.out] at d l;by_cases Z:i<n
  .have di:=bM i n;have bj:=fq (a:=i) bO;have V:i<bB o:=by rw[HN.out];exact Z
   let⟨xb,xo,bo,ex,qx⟩:=D.out.2.1.get (bP V);cases ex
   have a8:=D.out.2.2.1 _ (dw V);have H:FG P fs E X (o.take (i+1))=FG P fs E X (o.take i)++[((Fm.get fs o[i]).cs.length,X o[i])]:=by grind[FG,List.take_add_one,List.getElem?_eq_getElem,Option.toList_some]
   have r:bB (FG P fs E X (o.take i))=i+1:=by simp[FG];omega
   generalize o[i]=x at *;obtain⟨fb,fo,s,cc,rfl,q5,G,_⟩:=D.out.1 x a8;have t:∀{a:aD}{u:aA},aU w a=ah u->aU wr a=ah u:=λhc=>(d.cell (cV w _ hc)).trans hc;have qx:=t qx;have q5:=t q5;have c2:=t c2;have al:=d.size;have a7:bB A=i+1:=by have:=l.1;omega
   have ab:=bL (b9 d (b9 z (b9 G (b9 H r))));generalize(Fm.get fs x).cs.length=cl at *;generalize bB fs=fl at *
   go_wp2_with(first|(at_builtin;refine dM ?_));delta aH;refine fX _ rfl _ _ 194 rfl w.heap.size 116 i0 _ 1 24 underlying194 a0 a9 ba bb rfl bS _ _ _ rfl (l.alloc _) (az _ 0) 1 1 [aj s cl cc] rfl rfl (ph wr _ _) cM cJ bO bX ?_;intro v8 w8 F B _ bc;have K8:bI (λk=>aP (aT va (i+1) vc)=ah k) wr w8:=gA ((bW _ wr).alloc _) B λk e=>e;have J:Hid (∃A:List aA,bD w8 g0 116 1 v8 (i+1+1) A∧aC g0 w w8∧∀(j:Nat)(q:Nat×List aA),(FG P fs E X (o.take (i+1)))[j]?=ah q->∃u,A[j]?=ah u∧ni 1 w u q.1 q.2):=by
    let⟨d,z,G,H,r⟩:=ab.out;rw[<-R.out,H];refine⟨_,F,d.trans (K8.below al λq p=>(dI l p).1),λj q p=>?_⟩;by_cases hj:j<i+1
    .rw[df (by rw[r];exact hj)] at p;let⟨u,u1,u2⟩:=z j q p;exact⟨u,by rw[df bO];exact u1,u2⟩
    rw[dr (by rw[r];omega),r] at p;have Y:j-(i+1)=0:=by
     have:=(bU.1 p).1;simp at this;omega
    rw[Y] at p;simp at p;subst p;exact⟨_,by rw[dr bO,a7,Y];rfl,G⟩
   go_wp2;exact⟨⟨i+1,Z,by simp,J⟩,by simp[aG];omega⟩
  have di:=bN i n;obtain rfl:i=n:=bO
  rw[eF (by rw[HN.out];exact bT _)] at z;let⟨z1,z2⟩:=Yg (fs:=fs) (X:=X) D.out.2.2.2.2.1 o (λm hm=>by let⟨_,_,_,_,_,_,_,e⟩:=D.out.1 m (D.out.2.2.1 m hm);exact e);have r:bB (FG P fs E X o)=i+1:=by simp[FG,HN.out]
  have CA:=Zx wr va vc (FG P fs E X o) (λj q p=>by
   let⟨u,u1,u2⟩:=z j q p;have be:=(bU.1 u1).1;obtain⟨e,h0⟩|⟨g,ad,ag,e,_⟩:=id l.2
   .cases h0
   cases e
   exact⟨g,0,u,rfl,by rw[fM,l.cellAt j (by have:=l.1;omega)];exact u1,u2.below d⟩) (by rw[z2];have:=D.out.2.2.2.2.2;omega) bO
  rw[r,z2] at CA;have J:=bL (b9 d z1);obtain⟨tl,aa⟩:=bK (bB (lO P fs o));rw[<-aa] at CA;have T:=bL aa
  go_wp2_with(go_at_call 88;refine CA.mono ?_;rintro e w3 ⟨v3,rfl,R3,B3⟩);go_ret;obtain⟨s,cc,rfl⟩:=dZ R3;refine⟨s,cc,by rw[T.out];rfl,?_,J.out.1.trans (B3.mono J.out.1.size)⟩;have hv:=J.out.2.mono ((iS J.out.1).trans (iS B3));obtain⟨e,h0⟩|⟨g,ad,ag,e,_⟩:=id R3.2
  .exact cB (eE (by rw[<-T.out,h0]))
  cases e
  refine cI ⟨g,0,rfl,λk c hk=>?_⟩;let⟨ra,rc,h1,h2⟩:=hv.2 k c hk;have bi:=(bU.1 h1).1;exact⟨ra,rc,by rw[fM,R3.cellAt k (by have:=R3.1;omega)];exact h1,h2⟩
def GN:Prop:=∀(w:ay)(n:Nat),n<=2000->∀(ca:Option aD)(css:List (List Int))(cc:Nat),oX w ca css->bB css<=100000000->(∀c∈css,Al n c)->∀(r:Option (List Bool)),mH n css=ah r->aB prog 44 #[ae af n,aj ca (bB css) cc] w (zj w n r)
def nN(P:Pb):Prop:=∀e∈P.vars,1<=e.2∧e.2<=P.count
def nN.s(h:nN P):AY P:=λe b=>(h e b).2
variable{a:Pr}
theorem nN.num(h:nN P){x:Nat}(b:jX P.vars a=ah x):1<=x∧x<=P.count:=by
 unfold jX at b;cases c:P.vars.find? λe=>decide (e.1=a) with
 |none=>rw[c] at b;cases b
 |some e=>
  rw[c] at b;cases b
  exact h e (mx c)
theorem nN.fD(h:nN P)(a):nN (P.fD a).2:=by
 unfold Pb.fD;cases c:P.num a with
 |some x=>exact h
 |none=>
  intro e b;obtain b|b:=cU.1 b
  .exact⟨(h e b).1,iU (h e b).2⟩
  grind
theorem nN.kD:∀(r:List Pr)(P:Pb),nN P->nN (Pb.kD r P).2
 | [],_,h=>h
 |a::r,P,h=>by
  rw[Pb.kD]
  split
  .exact nN.kD r P h
  exact nN.kD r _ (h.fD a)
def aeo:=@nN.kD
theorem nN.step(h:nN P)(st:rl):nN (P.step st):=by
 unfold Pb.step
 split
 .exact h
 have b:nN {P with known:=P.known++[(st.1,nH st.2)]}:=h;exact nN.kD (nH st.2) _ (b.fD st.1)
theorem nN.steps:∀(S:List rl)(P:Pb),nN P->nN (S.foldl Pb.step P)
 | [],_,h=>h
 |st::S,_,h=>nN.steps S _ (h.step st)
theorem nN.names:∀(r:List Pr)(P:Pb),nN P->nN (Pb.names r P).2
 | [],_,h=>h
 |a::r,_,h=>nN.names r _ (h.fD a)
theorem Lz(P:Pb)(st:rl)(b:Pr)(h:P.num b≠ai):(P.step st).num b≠ai:=by
 unfold Pb.step
 split
 .exact h
 exact th _ _ b (mF _ _ _ h)
theorem Bt:∀(S:List rl)(P:Pb)(b:Pr),P.num b≠ai->(S.foldl Pb.step P).num b≠ai
 | [],_,_,h=>h
 |st::S,P,b,h=>Bt S _ b (Lz P st b h)
theorem Ch:∀(r:List Pr)(P:Pb)(b:Pr),P.num b≠ai->(Pb.names r P).2.num b≠ai
 | [],_,_,h=>h
 |a::r,P,b,h=>Ch r _ b (mF P a b h)
theorem ZN.keeps{l:List Tm}{told:List Pr}{F:Pf}{Q:Pb}(h:ZN l told F P a Q)(f:nN P):nN Q∧∀b,P.num b≠ai->Q.num b≠ai:=by
 obtain⟨S,_,g,c⟩:=h;by_cases e:P.count+bB (oI P S [])<=2000
 .grind[nN.steps,Bt]
 obtain⟨i,_,rfl⟩:=c e;exact⟨nN.names _ _ (f.fD a),λb d=>Ch _ _ b (mF P a b d)⟩
theorem GU.keeps{l:List Tm}{told:List Pr}{F:Pf}:∀{xs:List Pr}{P Q:Pb},GU l told F xs P Q->nN P->nN Q∧∀b,P.num b≠ai->Q.num b≠ai
 | [],P,Q,h,c=>by
  cases(show Q=P from h)
  exact⟨c,λ_ h=>h⟩
 |a::r,P,Q,⟨g,d,e⟩,c=>by let⟨k1,k2⟩:=d.keeps c;let⟨k3,k4⟩:=GU.keeps e k1;exact⟨k3,λb f=>k4 b (k2 b f)⟩
structure Env(W:ay)(base p:Nat)(ev:aA)(nb fb:Nat)(l:List Tm)(ta:Option aD)(tc:Nat)(fv:aA)(fs:List Fm)(xa:Option aD)(xc:Nat)(ns:List Nat):Prop where
 kE:Bk W base p ev nb fb l
 kN:sR W (aj ta (bB l) tc) l
 fms:ve W (bB l) fv fs
 lF:pQ W (aj xa (bB ns) xc) ns
structure RQ(N:Nat)(fs:List Fm)(ns:List Nat):Prop where
 lt:∀n∈ns,n<bB fs
 sd:bB ns<=1000
 am:∀n,n<bB fs->(Fm.get fs n).am.length<=1000∧∀a∈(Fm.get fs n).am,a.1<=a.2∧a.2<N
 all:bB (ns.flatMap λn=>(Fm.get fs n).am)<=1000
def nr(fs:List Fm)(P:Pb):Prop:=∀n,n<bB fs->∀a∈(Fm.get fs n).am,P.num a≠ai
theorem XD{N:Nat}{c:List Nat}(h:RQ N fs c)(k:nr fs P)(j:nN P)(m:P.count<=2000)(d):bB (sF fs P c d)<=1000∧(∀q∈sF fs P c d,q.1<=q.2∧q.2<N)∧∀q∈sF fs P c d,∃x,jX P.vars q=ah x∧x<=100000:=by
 have g:∀q∈sF fs P c d,∃n∈c,q∈(Fm.get fs n).am:=λq e=>by grind[sF,D6]
 refine⟨?_,λq e=>?_,λq e=>?_⟩
 .unfold sF;rw[wB];refine bZ (mO _ _) ?_;have l:=List.length_filter_le (λa=>wA d ((jX P.vars a).getD 0-1)) (c.flatMap λn=>(Fm.get fs n).am);have:=h.all;simp;omega
 .let⟨n,f,b⟩:=g q e;exact(h.am n (h.lt n f)).2 q b
 let⟨n,f,b⟩:=g q e;cases i:jX P.vars q with
 |none=>exact absurd i (k n (h.lt n f) q b)
 |some x=>exact⟨x,rfl,by have:=j.num i;omega⟩
theorem LG{b:List Bool}(h:mH n cs=ah (ah b)):bB b=n:=by grind[mH]
theorem RZ.below{k:Nat}{val:Nat->Bool}(h:RZ W v k val)(i:aC W.heap.size W W'):RZ W' v k val:=by obtain⟨b,d,c,e,f⟩:=h;exact⟨b,d,c,e,λn g=>(i.cell (cV W _ (f n g))).trans (f n g)⟩
def WT(w:ay)(l:List Tm)(r:Option (List Pr))(e:Ending)(w':ay):Prop:=
 (r=ai->e=aw (.tuple #[aj ai 0 0,.bool aL]))∧∀told,r=ah told->∃(cb:Nat)(g:Nat->Nat),e=aw (.tuple #[aj (ah ⟨cb,0,ai⟩) (bB l) (bB l),.bool aK])∧w.heap.size<=cb∧bE w' cb 3 (bB l) (λi=>ae af (g i:Int))∧∀i j,i<bB l->j<bB l->aM (g i=g j)=zR l told i j
def GS(S:Nat->Prop)(w:ay)(pb vb kb:Nat)(bk tv fv lv:aA)(l:List Tm)(fs:List Fm)(Post:Option (List Pr)->Pb->Prop)(e:Ending)(w':ay):Prop:=
 ∃r Q S' lv',Post r Q∧pY S w S' w' pb vb kb bk tv fv lv lv' Q∧nN Q∧nr fs Q∧WT w l r e w'
theorem Ci(hS:GN){S}{w}{pb vb kb}{fv lv}{P}(base p ev nb fb l){ta}(tc)(h:Pm S w pb vb kb (pz p) (aj ta (bB l) tc) fv lv P)(hb:Cc.Bd l)(hl:bB l<=150){fs}(xa xc y)(hE:∀W,bI (PD pb vb kb lv) w W->Env W base p ev nb fb l ta tc fv fs xa xc y)(ch:RQ (bB l) fs y)(hv:nr fs P)(hr:nN P)(U:bB P.lemmas<=100000∧bB P.vars<=2000∧bB P.known<=100000)(d:Option (List Pr)->Pb->Prop)(f)(hf:f<=2)(hM:sS l fs y d f P):
  aB prog 22 #[pz pb,aj xa (bB y) xc] w (GS S w pb vb kb (pz p) (aj ta (bB l) tc) fv lv l fs d):=by
 have b7:OZ l:=⟨λi t ht=>hb.four t (cH ht),λi t ht=>hb.args i t ht,λi j t u ht hu=>hb.one t (cH ht) u (cH hu)⟩
 have bi:Hid (∃Q S' bc,pY S w S' w pb vb kb (pz p) (aj ta (bB l) tc) fv lv bc Q∧sS l fs y d f Q∧nN Q∧nr fs Q∧(f=2->bB Q.lemmas<=100000∧bB Q.vars<=2000∧bB Q.known<=100000)):=⟨P,S,lv,An h,hM,hr,hv,λ_=>U⟩
 have I:=bL (b9 hE ch);have HS:Hid GN:=hS;clear h hE ch hv hr U hM hS;obtain⟨n,hn⟩:=bJ (bB y);have HN:=bL hn;rw[hn];clear hn;go_enter func22,ntmps22
 go_wp2
 go_loopg[6] f λk _ W=>Hid (k<=2∧∃Q S' bc,pY S w S' W pb vb kb (pz p) (aj ta (bB l) tc) fv lv bc Q∧sS l fs y d k Q∧nN Q∧nr fs Q∧(k=2->bB Q.lemmas<=100000∧bB Q.vars<=2000∧bB Q.known<=100000))
 case atStart=>exact⟨hf,bi.out⟩
 case round=>
  clear bi;let⟨db,Q,S1,cr,X1,s,T,bR,U⟩:=hrel.out;cases gk with
  |zero=>exact absurd s (by simp[sS])
  |succ k=>
  obtain⟨R,s⟩:=s;have ab:∀W',aC wr.heap.size wr W'->Env W' base p ev nb fb l ta tc fv fs xa xc y:=λW' hB=>I.out.1 W' (X1.below hB).kept;have Bd:aC wr.heap.size wr wr.drew:=⟨rfl,rfl,rfl,bT _,λ_ _=>rfl⟩
  have bx:=X1.below Bd;have CL:=Gz bx.is (ab _ Bd).fms xc (ab _ Bd).lF I.out.2.lt (by have:=I.out.2.sd;omega) R.2.1;have c4:cz wr pb 4 (iz Q.count):=X1.is.cells.cell (i:=4) bO;rw[HN.out] at CL;obtain⟨cn,a6⟩:=bK (bB (lO Q fs y));have cy:=bL a6;rw[<-a6] at CL;have c:=bL (b9 X1 (b9 T (b9 bR (b9 U (b9 R (b9 ab db))))));have Z:aB prog 45 #[pz pb,aj xa n xc] wr.drew λe w'=>∃N cc,e=aw (aj N cn cc)∧cz w' pb 4 (iz Q.count)∧Hid (oX w' N (lO Q fs y)∧aC wr.heap.size wr w'):=by refine CL.mono ?_;rintro e o ⟨N,cc,rfl,h1,h2⟩;have G:aC wr.heap.size wr o:=Bd.trans h2;exact⟨N,cc,rfl,(G.cell (cV wr _ c4)).trans c4,h1,G⟩
  cases ad:mH Q.count (lO Q fs y) with
  |none=>rw[ad] at s;exact absurd s bQ
  |some r=>
  rw[ad] at s;have bo:=bL ad;have aa:=bL s;clear hrel CL Bd X1 bx T bR U R s ad a6 ab;obtain⟨qc,a9⟩:=bK Q.count;have M:=bL a9;rw[<-a9] at Z c4;clear a9;have SV:Hid (∀(o:ay)(N:Option aD)(cc:Nat),oX o N (lO Q fs y)->aB prog 44 #[iz qc,aj N cn cc] o (zj o qc r)):=λo N cc c9=>by have h5:=c.out.2.2.2.2.1;rw[M.out,cy.out];exact HS.out o Q.count h5.1 N _ cc c9 h5.2.1 h5.2.2 r bo.out
  go_wp2
  go_cut[6,7,8] from 12 to 24 λt6 t7 _ wx=>(r=ai->t7=.bool aL)∧(∀A,r=ah A->t7=.bool aK∧Hid (RZ wx t6 qc (wA A)))∧Hid (aC wr.heap.size wr wx)
  case first=>
   cases r with
   |none=>
    go_region_law(first|(go_simp;go_at_call 44;refine(SV.out _ _ _ H2.out.1).mono ?_;rintro e w3 ⟨B3,h3,_⟩;obtain rfl:=h3 rfl)|(go_simp;go_at_call 45;refine Z.mono ?_;rintro e o ⟨N,cc,rfl,c7,H2⟩));all_goals
     try simp only[aQ,cD,cw,ct,cf,cN,cK]
     go_wp2;go_meet
     case rel=>exact⟨λ_=>rfl,λA e=>(by cases e),H2.out.2.trans (B3.mono H2.out.2.size)⟩
   |some A=>
    go_region_law(first|(go_simp;go_at_call 44;refine(SV.out _ _ _ H2.out.1).mono ?_;rintro e w3 ⟨B3,_,h3⟩;obtain⟨g3,rfl,ds,ba⟩:=h3 A rfl)|(go_simp;go_at_call 45;refine Z.mono ?_;rintro e o ⟨N,cc,rfl,c7,H2⟩));all_goals
     try simp only[aQ,cD,cw,ct,cf,cN,cK]
     go_wp2;go_meet
     case rel=>
      refine⟨λe=>(by cases e),λdz e=>?_,H2.out.2.trans (B3.mono H2.out.2.size)⟩;cases e
      refine⟨rfl,g3,0,_,rfl,λk hk=>?_⟩;have de:bB A=qc:=by rw[M.out];exact LG bo.out
      have dd:k<bB A:=by rw[de];exact hk
      rw[fM];simp only[aU,ba];simp[dd,wA]
  case rest=>
   obtain⟨co,cp,J⟩:=hcut;cases r with
   |none=>
    obtain rfl:=co rfl;have HF:Hid (GS S w pb vb kb (pz p) (aj ta (bB l) tc) fv lv l fs d (aw (.tuple #[aj ai 0 0,.bool aL])) wc):=⟨ai,Q,S1,cr,aa.out,c.out.1.below J.out,c.out.2.1,c.out.2.2.1,λ_=>rfl,λ_ e=>(by cases e)⟩
    clear Z SV c4 co cp;apply_assumption
    go_wp2;exact⟨rfl,.tuple #[aj ai 0 0,.bool aL],by simp[aI,results22],HF.out⟩
   |some A=>
    obtain⟨rfl,be⟩:=cp A rfl;have X2:=c.out.1.below J.out;have E2:=c.out.2.2.2.2.2.1 wc J.out;have T:=c.out.2.1;have an:Q.count<=2000:=c.out.2.2.2.2.1.1;have ac:∀n,n<bB fs->(Fm.get fs n).am.length<=1000000∧∀a∈(Fm.get fs n).am,rI a∧(a.1<bB l∧a.2<bB l)∧∃z,jX Q.vars a=ah z∧1<=z∧z<=qc:=λm hm=>by
     let⟨a1,a2⟩:=I.out.2.am m hm;refine⟨by omega,λa ha=>?_⟩;let⟨b1,b2⟩:=a2 a ha;refine⟨⟨by omega,by omega⟩,⟨by omega,b2⟩,?_⟩;cases hx:jX Q.vars a with
     |none=>exact absurd hx (c.out.2.2.1 m hm a ha)
     |some z=>exact⟨z,rfl,by rw[M.out];exact T.num hx⟩
    have TO:=XC X2.is (bB fs) _ E2.fms.am (wA A) be.out xc E2.lF I.out.2.lt (by have:=I.out.2.sd;omega) (λm hm=>⟨(ac m hm).1,λa ha=>⟨((ac m hm).2 a ha).1,((ac m hm).2 a ha).2.2⟩⟩) (by rw[M.out];omega);let⟨t1,t2,t3⟩:=XD I.out.2 c.out.2.2.1 T an A;obtain⟨told,C⟩:=bK (sF fs Q y A);rw[show mG (wA A) Q.vars (λn=>(Fm.get fs n).am) [] y=told from C.symm,HN.out] at TO;rw[<-C] at t1 t2 t3;have Y:=bL (b9 C (b9 t1 (b9 t2 t3)));have HP:=bL (b9 ac (b9 X2 E2));apply_assumption
    go_wp2_with(go_at_call 46;refine TO.mono ?_;rintro e o ⟨dy,rfl,RT,BT⟩;refine dM ?_);delta aH;let⟨da,dc,cE⟩:=dZ RT;subst cE;have G:aC wr.heap.size wr o:=J.out.trans (BT.mono J.out.size);have E2:=c.out.2.2.2.2.2.1 o G;have X2:=c.out.1.below G;have c0:cz o pb 0 (pz p):=X2.is.cells.cell (i:=0) bO;have cx:=Rp E2.kE hb hl c0 dc (nQ RT) (λq hq=>by have:=Y.out.2.2.1 q hq;omega) (by have:=Y.out.2.1;omega);have ag:aB prog 47 #[pz pb,aj da (bB told) dc] o λe w'=>∃b,e=aw (aj (ah (az b 0)) (bB l) (bB l))∧Hid (∃g:Nat->Nat,o.heap.size<=b∧bE w' b 3 (bB l) (λi=>iz (g i:Int))∧(∀i j,i<bB l->j<bB l->aM (g i=g j)=zR l told i j)∧aC o.heap.size o w'):=by
     refine cx.mono ?_;rintro e w3 ⟨g,b,rfl,h1,h2,h3,h4⟩;refine⟨b,rfl,g,h1,h2,λi j hi hj=>?_,h4⟩;have hc:=AV b7 Y.out.2.2.1 hi hj;have hg:=h3 i j hi hj;cases a5:zR l told i j
     .refine cP λe=>?_;rw[hc.2 (hg.1 e)] at a5;cases a5
     exact cZ (hg.2 (hc.1 a5))
    have D:=bL (b9 RT (b9 G BT));obtain⟨tn,bb⟩:=bJ (bB told);have c6:=bL bb;obtain⟨ln,cj⟩:=bJ (bB l);have a0:=bL cj;rw[bb,cj] at ag;rw[bb];apply_assumption
    go_wp2_with(go_at_call 47;refine ag.mono ?_;rintro e w3 ⟨cb,rfl,H3⟩;refine dM ?_);delta aH;let⟨g,c8,hg,a7,a3⟩:=H3.out;rw[<-a0.out] at hg a7;have O:aC wr.heap.size wr w3:=D.out.2.1.trans (a3.mono D.out.2.1.size);have E3:=c.out.2.2.2.2.2.1 w3 O;have X3:=c.out.1.below O;have b6:aC wc.heap.size wc w3:=D.out.2.2.trans (a3.mono D.out.2.2.size);have WR:=Sr X3.is E3.fms (wA A) (be.out.below b6) cb g hg (zR l told) a7 xc E3.lF I.out.2.lt (by have:=I.out.2.sd;omega) HP.out.1 (by rw[M.out];omega) bO;obtain⟨H,ap⟩:=bK (xm l fs Q y A);have b0:jK (wA A) Q.vars (zR l told) (λn=>(Fm.get fs n).am) (λn=>(Fm.get fs n).ev (zR l told)) [] y=H:=by rw[ap,Y.out.1];rfl
    rw[b0,HN.out,a0.out] at WR;have E:=bL (b9 ap b0);have B:=bL (b9 c8 (b9 hg (b9 a7 (b9 a3 O))));apply_assumption
    go_wp2_with(go_at_call 48;refine WR.mono ?_;rintro e w4 ⟨wv,rfl,R4,B4⟩;refine dM ?_);delta aH;have a4:aC wr.heap.size wr w4:=B.out.2.2.2.2.trans (B4.mono B.out.2.2.2.2.size);let⟨wa,cv,dg⟩:=dZ R4;subst dg;by_cases X:H=[]
    .have HF:Hid (GS S w pb vb kb (pz p) (aj ta (bB l) tc) fv lv l fs d (aw (.tuple #[aj (ah (az cb 0)) ln ln,.bool aK])) w4):=by
      refine⟨ah told,Q,S1,cr,?_,c.out.1.below a4,c.out.2.1,c.out.2.2.1,λe=>(by cases e),λt e=>?_⟩
      .have:=aa.out.1 (by rw[<-E.out.1];exact X);rw[Y.out.1];exact this
      cases e
      refine⟨cb,g,by rw[a0.out],?_,?_,B.out.2.2.1⟩
      .have h1:=B.out.1;have h2:=D.out.2.1.size;have h3:=c.out.1.kept.size;omega
      have h1:=B.out.2.1;exact du h1 (B4.block cb h1.lt)
     have di:bB H=0:=by rw[X];rfl
     rw[di];apply_assumption
     go_wp2;exact⟨rfl,.tuple #[aj (ah (az cb 0)) ln ln,.bool aK],by simp[aI,results22],HF.out⟩
    let⟨a8,x⟩:=aa.out.2 (by rw[<-E.out.1];exact X);rw[<-E.out.1] at a8 x;obtain⟨a,ha⟩:∃a,H=[a]:=by
     match H,X,a8 with
     | [],h,_=>exact absurd rfl h
     | [a],_,_=>exact⟨a,rfl⟩
     |_::_::_,_,h=>simp at h
    have ao:a∈H:=by rw[ha];simp
    rw[<-E.out.2,wz] at ao;let⟨⟨m,cm,_,ck⟩,ce,_⟩:=ao.resolve_left bQ;have al:=(I.out.2.am m (I.out.2.lt m cm)).2 a ck;obtain⟨V,hV⟩:∃V,jX Q.vars a=ah V:=by
     cases hx:jX Q.vars a with
     |none=>exact absurd hx (c.out.2.2.1 m (I.out.2.lt m cm) a ck)
     |some z=>exact⟨z,rfl⟩
    let⟨⟨a8,dx⟩,x⟩:=aa.out.2 (by rw[<-E.out.1];exact X);rw[<-E.out.1,<-Y.out.1] at x;have ci:k=1:=by have:=c.out.2.2.2.2.2.2;omega
    subst ci;let⟨dk,dl,dm⟩:=c.out.2.2.2.1 rfl;have b8:aC o.heap.size o w4:=B.out.2.2.2.1.trans (B4.mono B.out.2.2.2.1.size);have E4:=c.out.2.2.2.2.2.1 w4 a4;have X4:=c.out.1.below a4;rw[ha] at R4;have LN:=UX tc X4.is E4.kE hb hl E4.kN dc ((nQ D.out.1).below b8) Y.out.2.1 Y.out.2.2.1 Y.out.2.2.2 a al hV ((AV b7 Y.out.2.2.1 bO al.2).1 ce) cv (nQ R4) dk an dl dm c.out.2.1.s;rw[c6.out] at LN;rw[ha] at x⊢;have bj:=bL (b9 x X4);apply_assumption
    go_wp2_with(go_at_call 49;refine LN.mono ?_;rintro e w5 ⟨rfl,F,Q5,S5,dj,hF,cd,X5⟩)
    go_roundg 1
    case measure=>omega
    case rel=>let⟨k3,k4⟩:=cd.keeps c.out.2.1;exact⟨by omega,Q5,S5,dj,bj.out.2.trans X5,bj.out.1 F Q5 hF cd,k3,λm hm b hb=>k4 b (c.out.2.2.1 m hm b hb),λe=>by omega⟩
def Fq:GN:=λw n g j e d h hl f r i=>WM g d h hl (λc b=>f c b) i
end
section
inductive wm (N:Nat):Fo->Prop where
 |eq (x y:Int) (hx:0<=x∧x<N) (hy:0<=y∧y<N):wm N (.mk 0 x y [])
 |neg (f:Fo):wm N f->wm N (.mk 1 0 0 [f])
 |two (o:Int) (f g:Fo):(o=2∨o=3∨o=4)->wm N f->wm N g->wm N (.mk o 0 0 [f,g])
variable{N x B pb vb kb base nb g n cb i cap m j:Nat}{op y:Int}
theorem wm.whq{x:Int}{ks:List Fo}(h:wm N (.mk op x y ks)):p8 op x y (bB ks) N=aK:=by
 cases h with
 |eq _ _ b c=>simp[p8];omega
 |neg f h=>simp[p8]
 |two o f g a h k=>grind[p8]
theorem wm.He{x:Int}{ks:List Fo}(h:wm N (.mk op x y ks)):∀k∈ks,wm N k:=by
 cases h with
 |eq=>simp
 |neg f h=>simpa using h
 |two o f g a h k=>grind
variable{f:Fo}
theorem wm.wf(h:wm N f):Aj f:=by
 induction h with
 |eq x y e l=>exact .eq x y
 |neg f _ d=>exact .neg f d
 |two o f g c _ _ a b=>exact .two o f g c a b
def cF:Fo->Nat
 | .mk _ _ _ kids=>1+(kids.map cF).sum
def cS(ks:List Lf):Nat:=1+(ks.map λk=>cF k.er).sum
theorem GI(t:Lf):cS t.kids=cF t.er:=by
 cases t with
 |mk b o op x y kv kids=>simp[cS,Lf.kids,Lf.er,cF,kL,Function.comp_def]
def cT(ts:List (List Lf)):Nat:=(ts.map cS).sum
theorem GH(ts:List (List Lf))(ks):cT (ts++[ks])=cT ts+cS ks:=by simp[cT]
theorem Mq(ts:List (List Lf)):bB ts<=cT ts:=by
 induction ts with
 |nil=>simp
 |cons a r b=>grind[cT,cS]
def xl(w:ay)(N:Nat)(v:aA)(ks:List Lf):Prop:=nk v ks∧∀k∈ks,jS w k∧wm N k.er
variable{w W W':ay}{v bk fv lv:aA}{ks:List Lf}{k:Lf}
theorem xl.He(h:xl w N v ks)(d:k∈ks):xl w N k.kv k.kids:=by
 let⟨a,c⟩:=h.2 k d;refine⟨a.tw,λz hz=>⟨a.He hz,?_⟩⟩;cases k with
 |mk b o op x y kv kids=>rw[Lf.er] at c;exact c.He _ (gI.2 ⟨z,hz,rfl⟩)
theorem xl.pt(h:xl w N v ks)(b:k∈ks):wZ w (ak (ah (az k.b k.o))):=by obtain⟨c,d,a,_,_,_,_,rfl⟩:=(h.2 k b).1.cells;exact⟨k.b,k.o,c,36,rfl,a⟩
structure Sp(w W:ay)(N mb:Nat)(v:aA)(vs:List aA)(ts:List (List Lf)):Prop where
 row:bD W w.heap.size 30 1 v (bB vs) vs
 len:bB vs=bB ts
 at_:∀(i:Nat)(u:aA),vs[i]?=ah u->∃ks,ts[i]?=ah ks∧xl w N u ks
 set:qi w W mb
 kB:aC w.heap.size w W
variable{vs:List aA}{ts:List (List Lf)}
theorem Sp.below{mb:Nat}(h:Sp w W N mb v vs ts)(a:aC W.heap.size W W'):Sp w W' N mb v vs ts:=by refine⟨ew h.row a,h.len,h.at_,h.set.keep (a.block mb ?_),h.kB.trans (a.mono h.kB.size)⟩;let⟨es,b,e,_⟩:=h.set;grind
def Vm:(prog.info? 30).map (λi=>(i.zero,i.size,i.bytes))=ah (ah (aj ai 0 0),1,24):=bV
theorem Bo(ks:List Lf):bB ks<=(ks.map λk=>cF k.er).sum:=by
 induction ks with
 |nil=>simp
 |cons a r c=>
  have:1<=cF a.er:=by
   cases a with
   |mk b o op x y kv kids=>rw[Lf.er,cF];omega
  grind
theorem rh{w}{base p}{ev}{nb fb}{l}(h:Bk w base p ev nb fb l){ka}(kn kc){ks}(hk:xl w (bB l) (aj ka kn kc) ks)(hc:cS ks<=1000000):
  aB prog 41 #[pz p,aj ka kn kc] w λe w'=>e=aw (.bool aK)∧aC w.heap.size w w':=by
 have cv:=@rA prog;have be:Hid (∃vs ts,bB vs=1∧cT ts<=cS ks∧Sp w (bC (bC w (.map #[] 0)) (aq #[aj ka kn kc] 30)) (bB l) w.heap.size (aj (ah ⟨w.heap.size+1,0,ai⟩) 1 1) vs ts):=by
  have B1:aC w.heap.size w (bC w (.map #[] 0)):=(cW _ _).alloc (bT _) _;have B2:aC w.heap.size w (bC (bC w (.map #[] 0)) (aq #[aj ka kn kc] 30)):=B1.alloc B1.size _;refine⟨[aj ka kn kc],[ks],rfl,by simp[cT],⟨rfl,cI ⟨w.heap.size+1,1,#[aj ka kn kc],rfl,iD _,?_,bT _,by unfold aY;omega,rfl,rfl⟩⟩,rfl,λi u Y=>?_,(qi.new w w).keep (jd _ _ bQ),B2⟩
  .have:=eW (bC w (.map #[] 0)) (aq #[aj ka kn kc] 30);simpa using this
  grind
 have bc:Hid (Bk w base p ev nb fb l):=h;have HC:Hid (cS ks<=1000000):=hc;clear h hk hc;go_enter func41,ntmps41
 go_wp2;generalize bC (bC w (.map #[] 0)) (aq #[aj ka kn kc] 30)=w1 at *;obtain⟨mb,a8⟩:=bJ w.heap.size;have ci:=bL a8;simp only[a8] at be⊢;clear a8 cv
 go_loopg[6] (cS ks) λk t6 W=>∃n cap a,t6=aj a n cap∧Hid (∃vs ts,bB vs=n∧cT ts<=k∧k<=cS ks∧Sp w W (bB l) mb t6 vs ts)
 case atStart=>grind
 case round=>
  obtain⟨n,cap,a,rfl,HJ⟩:=hrel;clear be;by_cases cx:n=0
  .subst cx;have HF:Hid (aC w.heap.size w wr):=by obtain⟨vs,ts,_,_,_,h⟩:=HJ.out;exact h.kB
   clear HJ
   go_wp2;go_ret;exact⟨rfl,HF.out⟩
  obtain⟨m,rfl⟩:∃m,n=m+1:=⟨n-1,by omega⟩
  obtain⟨vs,ts,H,a6,de,O⟩:=HJ.out;have cc:m<bB vs:=bO
  obtain⟨c,ad,hS⟩:=O.at_ m _ (bP cc);obtain⟨rb,rfl⟩:∃rb,a=ah (az rb 0):=by
   obtain⟨e,h0⟩|⟨rb,F,a3,e,_⟩:=O.row.2
   .rw[H] at h0;cases h0
   rw[H] at e;cases e;exact⟨rb,rfl⟩
  have cm:aU wr (az rb m)=ah vs[m]:=by have:=O.row;rw[H] at this;rw[this.cellAt m bO];exact bP cc
  obtain⟨fa,fc,b7,dd,cn⟩:=hS.1;have al:=hS;rw[b7] at cm al;have di:m<=1000000:=by have h1:=Mq ts;have h2:=O.len;have h3:=HC.out;omega
  have dm:wrap64 (m:Int)=m:=A8 bO;have cj:bB c<=1000000:=by
   have h1:=Bo c;have h2:cS c<=cT ts:=by
    have:∀ts:List (List Lf),c∈ts->cS c<=cT ts:=by
     intro ts
     induction ts with
     |nil=>intro h;cases h
     |cons a r ih=>
      intro h;have e:cT (a::r)=cS a+cT r:=by simp[cT]
      obtain rfl|h:=fA.1 h
      .omega
      have:=ih h;omega
    exact this ts (cH ad)
   have h3:=HC.out;unfold cS at h2;omega
  have da:IntKind.i64.wrap (m:Int)=m:=sD bO;have dj:m+1<=cap:=by
   obtain⟨e,h0⟩|⟨ds,F,a3,e,_,_,e3,_⟩:=O.row.2
   .rw[H] at h0;cases h0
   rw[H] at e e3;cases e;omega
  obtain⟨fn,ao⟩:=bJ (bB c);rw[ao] at cm cj;have HT:=bL (b9 O (b9 al (b9 ao (b9 a6 (b9 H ad)))));clear HJ O hS al cn b7 ao a6 ad
  go_wp2;have bi:Hid (∃vs ts,bB vs=m∧cT ts+((c.drop 0).map λk=>cF k.er).sum+1<=gk∧Sp w wr (bB l) mb (aj (ah (az rb 0)) m cap) vs ts):=by
   obtain⟨O,al,ao,a6,H,ad⟩:=HT.out;have hr:=O.row;rw[H] at hr;refine⟨vs.take m,ts.take m,by simp;omega,?_,?_,by have:=O.len;simp;omega,λi u Y=>?_,O.set,O.kB⟩
   .have e:ts=ts.take m++[c]:=by
     have hl:=O.len;refine iv λi=>?_;by_cases hi:i<m
     .rw[df bX,qz hi]
     by_cases cr:i=m
     .subst cr;rw[ad,dr aeF,fB,ik bO,iN];rfl
     rw[gW bO,gW bX]
    have e2:cT ts=cT (ts.take m)+cS c:=by conv=>lhs;rw[e,GH]
    rw[lT];unfold cS at e2;omega
   .have:=tj hr (iD m);have e3:bB (vs.take m)=m:=bX
    rw[e3];exact this
   have b8:i<m:=by
    have:=(bU.1 Y).1;simp at this;omega
   rw[qz b8] at Y;obtain⟨c9,q1,q2⟩:=O.at_ i u Y;exact⟨c9,by rw[qz b8];exact q1,q2⟩
  have HS:Hid (xl w (bB l) (aj fa (bB c) fc) c∧bB c=fn):=⟨HT.out.2.1,HT.out.2.2.1⟩
  clear HT cm
  go_loopw[6,31] (λt6 ba W=>∃(i n cap:Nat)(a:Option aD),i<=fn∧ba=iz i∧t6=aj a n cap∧Hid (∃vs ts,bB vs=n∧cT ts+((c.drop i).map λk=>cF k.er).sum+1<=gk∧Sp w W (bB l) mb (aj a n cap) vs ts)) λ_ ba _=>fn-(aG ba).toNat
  case atStart=>exact⟨0,m,cap,_,dt _,rfl,rfl,bi⟩
  case round=>
   obtain⟨i,n,s,a2,hi,rfl,rfl,HK⟩:=hrel;clear bi;by_cases a7:i<fn
   .have aa:i<bB c:=by rw[HS.out.2];exact a7
    obtain⟨kb,ko,rfl,bR⟩:∃kb ko,fa=ah (az kb ko)∧∀(j:Nat)(t:Lf),c[j]?=ah t->t.b=kb∧t.o=ko+j*4:=by
     obtain⟨a',c',e,_,h2⟩:=HS.out.1.1;cases e
     obtain h2|⟨kb,ko,h2,h3⟩:=h2
     .rw[h2] at aa;cases aa
     exact⟨kb,ko,h2,h3⟩
    have J:=dw aa;obtain⟨U,X⟩:=bR i _ (bP aa);have M:=HS.out.1.pt J;obtain⟨E,V⟩:=HS.out.1.2 _ J;rw[U,X] at M;obtain⟨C,d,ap,an,I⟩:=HK.out;obtain⟨r,LK⟩:=I.set.look I.kB M;have A:Hid (bB C=n∧cT d+((c.drop i).map λk=>cF k.er).sum+1<=gk∧Sp w wr (bB l) mb (aj a2 n s) C d):=⟨ap,an,I⟩
    have HH:Hid _:=b9 M (b9 J (b9 U (b9 X (b9 E V))));clear HK ap an I M J U X E V bR;have dl:=fq (a:=i) bO;have a4:aC wr.heap.size wr (bC wr (aq #[] 162)):=(cW _ _).alloc (bT _) _;have ag:Hid (aC w.heap.size w (bC wr (aq #[] 162))):=A.out.2.2.kB.trans (a4.mono A.out.2.2.kB.size);have bj:Hid (Sp w (bC wr (aq #[] 162)) (bB l) mb (aj a2 n s) C d):=A.out.2.2.below a4;have b0:((c.drop i).map λk=>cF k.er).sum=cF c[i].er+((c.drop (i+1)).map λk=>cF k.er).sum:=by rw[dP aa,iG,tU]
    have HD:=bL b0;clear a4 b0;cases r
    .obtain⟨M,J,U,X,E,V⟩:=HH.out;generalize c[i]=k at *;have SZ:=vx (bC wr (aq #[] 162)) (bc.out.below bc.out.low ag.out);have G:∀{a:aD}{u:aA},aU w a=ah u->aU (bC wr (aq #[] 162)) a=ah u:=λhc=>(ag.out.cell (cV w _ hc)).trans hc;have f0:=E.cells.c0;have f1:=E.cells.c1;have f2:=E.cells.c2;have f3:=E.cells.c3;obtain⟨ga,gc,ca,co,_⟩:=E.tw;have a5:=HS.out.1.He J;rw[ca] at f3 a5;rw[U,X] at f0 f1 f2 f3;have WH:=Re (bC wr (aq #[] 162)) (ko+i*4) k.op k.x k.y gc (bB l) (G f0) (G f1) (G f2) (G f3);have ce:p8 k.op k.x k.y (bB k.kids) (bB l)=aK:=by
      cases k with
      |mk b o op x y kv kids=>rw[Lf.er] at V;have:=V.whq;rw[eG] at this;exact this
     rw[ce] at WH;have bx:cS k.kids=cF k.er:=GI k;have HQ:Hid _:=b9 f3 (b9 M (b9 a5 bx));obtain⟨a9,a1⟩:=bJ (bB k.kids);clear M J U X E V f0 f1 f2 f3 G ca a5 bx ce co HH
     go_wp2_with(first|(go_at_call 76;refine WH.mono ?_;rintro e w4 ⟨rfl,B4⟩;refine dM ?_)|(go_at_call 35;refine SZ.mono ?_;rintro e w9 ⟨rfl,rfl⟩));delta aH;have bb:Hid (aC w.heap.size w w4):=ag.out.trans (B4.mono ag.out.size);have D:Hid _:=bj.out.below B4;obtain⟨w5,r1,r2,r3⟩:=D.out.set.store D.out.kB HQ.out.2.1;have cE:w.heap.size<=mb:=by rw[ci.out];exact bT _
     obtain⟨dc,db,b6,_⟩:=D.out.set;have T:Hid (Sp w w5 (bB l) mb (aj a2 n s) C d):=by
      refine⟨mg D.out.row λb hb=>r3.block b (dI D.out.row hb).2 λe=>?_,D.out.len,D.out.at_,r2,?_⟩
      .subst e;obtain⟨e,_⟩|⟨g',F,a3,e,_,e2,_⟩:=D.out.row.2
       .rw[e] at hb;simp[aP] at hb
       rw[e] at hb;simp[aP] at hb;subst hb;rw[b6] at e2;cases e2
      have b4:=bb.out;exact⟨r3.os.trans b4.os,r3.tape.trans b4.tape,r3.output.trans b4.output,bZ b4.size r3.size,λj hj=>(r3.block j (cQ hj b4.size) bO).trans (b4.block j hj)⟩
     have f3:aU w5 ⟨kb,ko+i*4+3,ai⟩=ah (aj ga (bB k.kids) gc):=(T.out.kB.cell (cV w _ HQ.out.1)).trans HQ.out.1;obtain⟨i0,cp,c6,c7,c8⟩:=eB Vm;have dk:n<=1000000:=by have h1:=Mq d;have h2:=T.out.len;have h3:=HC.out;have h4:=A.out.1;have h5:=A.out.2.1;omega
     have ab:=T.out.row;rw[A.out.1] at ab;rw[a1] at f3;have ac:=ab.alloc (aq #[aj ga a9 gc] 30);have ch:=T.out.kB.size;clear r2 r3 b6 D bb B4 ab;apply_assumption
     go_wp2_with(first|(at_builtin;refine dM ?_));delta aH;refine fX _ rfl _ _ 130 rfl w.heap.size 30 i0 _ 1 24 underlying130 cp c6 c7 c8 rfl bS _ _ _ rfl ac (az _ 0) 1 1 [aj ga a9 gc] rfl rfl (ph w5 _ _) cM cJ bO bX ?_;intro v8 w8 L Q _ bo;obtain⟨g8,a0,cy⟩:=ownsRow_succ L;subst cy;have K8:bI (λk=>aP (aT a2 n s)=ah k) w5 w8:=gA ((bW _ w5).alloc _) Q λk e=>e;have HF:Hid (∃vs ts,bB vs=n+1∧cT ts+((c.drop (i+1)).map λk=>cF k.er).sum+1<=gk∧Sp w w8 (bB l) mb (aj (ah (az g8 0)) (n+1) a0) vs ts):=by
      have hv:=A.out.1;have Z:=T.out;refine⟨C++[aj ga a9 gc],d++[k.kids],by simp[hv],?_,?_,by simp[Z.len],λq u Y=>?_,Z.set.keep (K8.block mb ?_ ?_),Z.kB.trans (K8.below ch λq hq=>(dI Z.row hq).1)⟩
      .rw[GH,HQ.out.2.2.2];have h1:=A.out.2.1;have h2:=HD.out;omega
      .rw[cR,eD,hv];exact L
      .by_cases hq:q<bB C
       .rw[df hq] at Y;obtain⟨z,z1,z2⟩:=Z.at_ q u Y;exact⟨z,by rw[df (by rw[<-Z.len];exact hq)];exact z1,z2⟩
       rw[dr bO] at Y;have cd:q-bB C=0:=by
        have:=(bU.1 Y).1;simp at this;omega
       rw[cd] at Y;simp at Y;subst Y;refine⟨k.kids,by rw[dr (by rw[<-Z.len];omega),<-Z.len,cd];rfl,?_⟩;have:=HQ.out.2.2.1;rw[a1] at this;exact this
      .obtain⟨es,ck,e,_⟩:=Z.set;exact(bY.1 e).1
      intro e;obtain⟨es,ck,e',_⟩:=Z.set;obtain⟨e1,_⟩|⟨g',F,a3,e1,_,e2,_⟩:=Z.row.2
      .rw[e1] at e;simp[aP] at e
      rw[e1] at e;simp[aP] at e;subst e;rw[e'] at e2;cases e2
     clear L Q bo K8 T ac f3
     go_wp2;exact⟨⟨i+1,n+1,a0,ah (az g8 0),a7,by simp,rfl,HF⟩,by simp[aG];omega⟩
    go_wp2;refine⟨⟨i+1,n,s,a2,a7,by simp,rfl,C,d,A.out.1,?_,bj.out⟩,by simp[aG];omega⟩;have h1:=A.out.2.1;have h2:=HD.out;omega
   obtain⟨C,d,ap,an,I⟩:=HK.out;have dg:cT d+1<=gk:=bO
   have HF:Hid (∃n' F a',aT a2 n s=aj a' n' F∧Hid (∃vs ts,bB vs=n'∧cT ts<=cT d∧cT d<=cS ks∧Sp w wr (bB l) mb (aj a2 n s) vs ts)):=⟨n,s,a2,rfl,C,d,ap,bT _,by omega,I⟩
   clear HK an I
   go_wp2
   go_roundg (cT d)
   case measure=>omega
   case rel=>exact HF.out
def dS(ks:List Lf):Nat:=(ks.map λk=>cF k.er-1).sum
def dT(ts:List (List Lf)):Nat:=(ts.map dS).sum
theorem Zp(ts:List (List Lf))(ks):dT (ts++[ks])=dT ts+dS ks:=by simp[dT]
theorem V2(ks):bB ks+dS ks=(ks.map λk=>cF k.er).sum:=by
 induction ks with
 |nil=>rfl
 |cons a r c=>
  have:1<=cF a.er:=by
   cases a with
   |mk b o op x y kv kids=>rw[Lf.er,cF];omega
  grind[dS]
theorem Zq(t:Lf):bB t.kids+dS t.kids=cF t.er-1:=by grind[cS,V2,GI]
structure Xm(w W:ay)(N:Nat)(v:aA)(vs:List aA)(ts:List (List Lf)):Prop where
 win:kH W w.heap.size 30 v vs
 len:bB vs=bB ts
 at_:∀(i:Nat)(u:aA),vs[i]?=ah u->∃ks,ts[i]?=ah ks∧xl w N u ks
 kB:aC w.heap.size w W
def Xm.below(h:Xm w W N v vs ts)(a:aC W.heap.size W W'):Xm w W' N v vs ts:=
 ⟨h.win.keep λg b=>a.block g (h.win.lt b).2,h.len,h.at_,h.kB.trans (a.mono h.kB.size)⟩
theorem wW(w N ka kc ks)(hk:xl w N (aj ka (bB ks) kc) ks)(hc:cS ks<=601):
  aB prog 42 #[aj ka (bB ks) kc] w λe w'=>e=aw (.bool aL)∧aC w.heap.size w w':=by
 obtain⟨kn,ba⟩:=bJ (bB ks);have b6:Hid (∃vs ts,bB vs=1∧cT ts<=cS ks∧kn+dT ts<=600∧Xm w (bC w (aq #[aj ka kn kc] 30)) N (.slice (ah (az (hz w) 0)) 1 1) vs ts):=by
  rw[ba] at hk;refine⟨[aj ka kn kc],[ks],rfl,by simp[cT],?_,kH.one w _ _ _ (bT _),rfl,λi u hu=>?_,(cW _ _).alloc (bT _) _⟩
  .grind[dT,dS,cS,V2]
  grind
 have HC:Hid (cS ks<=601):=hc;rw[ba];go_enter func42,ntmps42
 go_wp2;generalize bC w (aq #[aj ka kn kc] 30)=w1 at *;obtain⟨g0,bR⟩:=bJ (hz w);simp only[bR] at b6⊢
 go_loopg[3,4] (cS ks) λk t3 t4 W=>∃(c n cap g p:Nat),t3=iz c∧t4=aj (ah (az g p)) n cap∧Hid (∃vs ts,bB vs=n∧cT ts<=k∧k<=cS ks∧c+dT ts<=600∧Xm w W N (aj (ah (az g p)) n cap) vs ts)
 case atStart=>grind
 case round=>
  obtain⟨c,n,cap,g,p,rfl,rfl,HJ⟩:=hrel;have cp:c<=600:=by let⟨vs,ts,_,_,_,h,_⟩:=HJ.out;omega
  have dc:aM ((c:Int)<=600)=aK:=cZ bO;by_cases cd:n=0
  .subst cd;have HF:Hid (bz w wr):=by let⟨vs,ts,_,_,_,_,h⟩:=HJ.out;exact h.kB
   have dg:aM ((600:Int)<c)=aL:=cP bO
   go_wp2;go_ret;exact⟨rfl,HF.out⟩
  obtain⟨m,rfl⟩:∃m,n=m+1:=⟨n-1,by omega⟩
  let⟨vs,ts,a0,T,cy,a8,hT⟩:=HJ.out;obtain⟨u,J,rfl⟩:∃u J,vs=u::J:=by
   cases vs with
   |nil=>cases a0
   |cons u J=>exact⟨u,J,rfl⟩
  let⟨b,bx,hS⟩:=hT.at_ 0 u rfl;obtain⟨tr,rfl⟩:∃tr,ts=b::tr:=by
   cases ts with
   |nil=>cases bx
   |cons t tr=>grind
  let⟨fa,fc,an,cv,b8⟩:=hS.1;have ab:=hS;rw[an] at ab;have cm:cz wr g p (aj fa (bB b) fc):=by
   let⟨g',co,ck,e,_,_,h4⟩:=hT.win.get;cases e
   have:=h4 0 u rfl;rw[an] at this;exact this
  have e1:cT (b::tr)=cS b+cT tr:=by simp[cT]
  have e2:dT (b::tr)=dS b+dT tr:=by simp[dT]
  rw[e1] at T;rw[e2] at a8;have b7:bB b<=601:=by have h1:=Bo b;have h3:=HC.out;unfold cS at T;omega
  obtain⟨fn,al⟩:=bJ (bB b);rw[al] at cm b7;have a4:Hid (∃vs l,bB vs=m+1∧cT l+((b.drop 0).map λk=>cF k.er).sum+1<=gk∧c+dT l+dS (b.drop 0)<=600∧Xm w wr N (aj (ah (az g p)) (m+1) cap) vs (b::l)):=⟨u::J,tr,a0,by unfold cS at T;rw[lT];omega,by rw[lT];omega,hT⟩
  have HS:Hid (xl w N (aj fa (bB b) fc) b∧bB b=fn):=⟨ab,al⟩
  clear HJ hT hS ab b8 an al T bx e1 e2 a8 a0
  go_wp2
  go_loopw[3,4,24] (λt3 t4 a3 W=>∃(i c n cap g p:Nat),i<=fn∧a3=iz i∧t3=iz c∧t4=aj (ah (az g p)) (n+1) cap∧Hid (∃vs l,bB vs=n+1∧cT l+((b.drop i).map λk=>cF k.er).sum+1<=gk∧c+dT l+dS (b.drop i)<=600∧Xm w W N (aj (ah (az g p)) (n+1) cap) vs (b::l))) λ_ _ a3 _=>fn-(aG a3).toNat
  case atStart=>exact⟨0,c,m,cap,g,p,dt _,rfl,rfl,rfl,a4⟩
  case round=>
   obtain⟨i,c2,n,s,g2,F,hi,rfl,rfl,rfl,HK⟩:=hrel;clear a4 cm;let⟨C,r,X,ac,U,o⟩:=HK.out;by_cases bi:i<fn
   .have di:=bM i fn;have I:i<bB b:=by rw[HS.out.2];exact bi
    obtain⟨kb,ko,rfl,bc⟩:∃kb ko,fa=ah (az kb ko)∧∀(j:Nat)(t:Lf),b[j]?=ah t->t.b=kb∧t.o=ko+j*4:=by
     let⟨a',c',e,_,h2⟩:=HS.out.1.1;cases e
     obtain h2|⟨kb,ko,h2,h3⟩:=h2
     .rw[h2] at I;cases I
     exact⟨kb,ko,h2,h3⟩
    have ao:=dw I;let⟨a7,bj⟩:=bc i _ (bP I);let⟨H,ca⟩:=HS.out.1.2 _ ao;have ag:((b.drop i).map λk=>cF k.er).sum=cF b[i].er+((b.drop (i+1)).map λk=>cF k.er).sum:=by rw[dP I,iG,tU]
    have ad:dS (b.drop i)=(cF b[i].er-1)+dS (b.drop (i+1)):=by unfold dS;rw[dP I,iG,tU]
    generalize b[i]=k at *;have A:∀{a:aD}{u:aA},aU w a=ah u->aU wr a=ah u:=λhc=>(o.kB.cell (cV w _ hc)).trans hc;have f0:=A H.cells.c0;have f1:=A H.cells.c1;have f2:=A H.cells.c2;have f3:=A H.cells.c3;let⟨O,Q,be,cx,_⟩:=H.tw;have G:=HS.out.1.He ao;rw[be] at f3 G;rw[a7,bj] at f0 f1 f2 f3;have M:cS k.kids=cF k.er:=GI k;have V:=Zq k;have cr:1<=cF k.er:=by rw[<-M];unfold cS;omega
    obtain⟨d,bb⟩:=bJ (bB k.kids);rw[bb] at f3 G V;have c9:=fq (a:=i) bO;have c8:IntKind.i64.wrap ((c2:Int)+d)=(c2:Int)+d:=aew
    have a5:bz wr (bC wr (aq #[iz k.op,iz k.x,iz k.y,aj O d Q] 36)):=(cW _ _).alloc (bT _) _;have T3:=o.below a5;have HQ:=bL (b9 G (b9 M (b9 V (b9 ag (b9 ad T3)))));clear a7 bj H ca A be G M V ag ad T3 o HK bc ao a5
    go_wp2_with(first|(at_builtin;refine dM ?_));delta aH;obtain⟨w5,a2⟩:=bK (bC (bC wr (aq #[iz k.op,iz k.x,iz k.y,aj O d Q] 36)) (aq #[aj O d Q] 30));have L:Xm w w5 N (aj (ah (az g2 F)) (n+1) s) C (b::r):=by rw[a2];exact HQ.out.2.2.2.2.2.below ((cW _ _).alloc (bT _) _)
    have cu:aU w5 ⟨hz wr+1,0,ai⟩=ah (aj O d Q):=by rw[a2];have:=ph (bC wr (aq #[iz k.op,iz k.x,iz k.y,aj O d Q] 36)) (aj O d Q) 30 0 _ rfl;simp at this;exact this
    have Z:=L.kB.size;rw[<-a2];let⟨i0,cc,ch,ci,cj⟩:=eB Vm;have c7:n+1<=1000:=by have h1:=Mq r;have h2:=L.len;have h3:=HC.out;simp only[ed] at h2;omega
    refine rL rfl _ _ 130 rfl (hz w) 30 i0 _ 24 underlying130 cc ch ci cj rfl _ C rfl L.win (az _ 0) 1 (aj O d Q) rfl cu cM cJ bO Z ?_;intro v8 w8 D E a6;let⟨g8,aa,Y,b0,_⟩:=D.get;have ap:bB (C++[aT O d Q])=n+1+1:=by simp[X]
    rw[ap] at b0;subst b0;have HF:Hid (∃vs l,bB vs=n+1+1∧cT l+((b.drop (i+1)).map λk=>cF k.er).sum+1<=gk∧(c2+d)+dT l+dS (b.drop (i+1))<=600∧Xm w w8 N (aj (ah (az g8 aa)) (n+1+1) Y) vs (b::l)):=by
     let⟨G,M,V,ag,ad,_⟩:=HQ.out;refine⟨C++[aj O d Q],r++[k.kids],ap,?_,?_,D,?_,λq u hu=>?_,?_⟩
     .rw[GH,M];omega
     .rw[Zp];omega
     .have:=L.len;simp at this⊢;omega
     .by_cases hq:q<bB C
      .rw[df hq] at hu;let⟨z,z1,z2⟩:=L.at_ q u hu;refine⟨z,?_,z2⟩;rw[<-eU,df (by rw[<-L.len];exact hq)];exact z1
      rw[dr bO] at hu;have bo:q-bB C=0:=by
       have:=(bU.1 hu).1;simp at this;omega
      rw[bo] at hu;simp at hu;subst hu;refine⟨k.kids,?_,G⟩;rw[<-eU,dr (by rw[<-L.len];omega),<-L.len,bo];rfl
     have K8:bI (λk=>zZ (aj (ah (az g2 F)) (n+1) s)=ah k) w5 w8:=gA (bW _ w5) E λk e=>e;exact L.kB.trans (K8.below Z λq hq=>(L.win.lt hq).1)
    clear D E a6 L cu HQ ap
    go_wp2;exact⟨⟨i+1,c2+d,n+1,Y,g8,aa,bi,by simp,by simp,rfl,HF⟩,by simp[aG];omega⟩
   have di:=bN i fn;obtain rfl:i=fn:=bO
   have a9:b.drop i=[]:=by rw[<-HS.out.2];exact nz
   rw[a9] at U ac;obtain⟨u,J,rfl⟩:∃u J,C=u::J:=by
    cases C with
    |nil=>cases X
    |cons u J=>exact⟨u,J,rfl⟩
   have a1:bB J=n:=by simpa using X
   have cn:n+1<=s:=by
    let⟨_,_,_,e8,h8,_⟩:=o.win.get;cases e8
    simpa using h8
   have c6:cT r+1<=gk:=by simpa using ac
   have HF:Hid (∀v,kH wr (hz w) 30 v J->∃vs ts,bB vs=n∧cT ts<=cT r∧cT r<=cS ks∧c2+dT ts<=600∧Xm w wr N v vs ts):=λv hv=>by
    refine⟨J,r,a1,bT _,by omega,by simp[dS] at U;exact U,hv,?_,λq z hz=>?_,o.kB⟩
    .have:=o.len;simp at this;exact this
    let⟨y,y1,y2⟩:=o.at_ (q+1) z (by simpa using hz);exact⟨y,by simpa using y1,y2⟩
   have HW:=bL o.win;clear HK ac U o a9 X;by_cases ce:s=1
   .subst ce;obtain rfl:n=0:=bO
    go_wp2
    go_roundg (cT r)
    case measure=>omega
    case rel=>refine⟨c2,0,0,g2,F,rfl,rfl,HF.out _ ?_⟩;have:=aem HW.out;rw[a1] at this;exact this
   go_wp2
   go_roundg (cT r)
   case measure=>omega
   case rel=>refine⟨c2,n,s-1,g2,F+1,rfl,rfl,HF.out _ ?_⟩;have:=kH.tail HW.out;rw[a1] at this;exact this
variable{S:Nat->Prop}{P:Pb}{fs:List Fm}{gs:List Sx}
theorem Np.step{p:ay->Prop}{d:Nat->Prop}{tv c:aA}{Q:Pb}(h:Np p B S W pb vb kb bk tv fv lv P N fs gs)(q:B<=W.heap.size)(x:pY S W d W' pb vb kb bk tv fv lv c Q):Np p B d W' pb vb kb bk tv fv c Q N fs gs:=by
 have l:∀k,Dq pb vb kb c fv k->Dq pb vb kb lv fv k∨hz W<=k:=by
  rintro k ((e|e|e|e)|e)
  .exact cB (cB (cB e))
  .exact cB (cB (cI (cB e)))
  .exact cB (cB (cI (cI (cB e))))
  .obtain a|a:=x.at_
   .exact cB (cB (cI (cI (cI (a▸e)))))
   exact cI (a k e)
  exact cB (cI e)
 exact⟨x.is,λk r=>(l k r).elim (h.low k) λe=>bZ q e,eP h.row λb o=>x.kept.block b (dI h.row o).2 (h.pm.uF h.row bS bS o),h.len,h.parts.step (x.kept.mono λk _ e=>cB e) l⟩
variable{ns R:List Nat}
theorem Np.env{o:ay}{l:List Tm}{c:Option aD}{d:Nat}(h:Np (λW=>aC o.heap.size o W∧sR W (aj c (bB l) d) l) B S W pb vb kb bk (aj c (bB l) d) fv lv P (bB l) fs gs){p:Nat}{ev:aA}{q:Nat}(r:Bk o base p ev nb q l){z:Nat}{t:Option aD}{u:Nat}(a:bD W z 3 1 (aj t (bB ns) u) (bB ns) (ns.map i64)):∀W',bI (PD pb vb kb lv) W W'->Env W' base p ev nb q l c d fv fs t u ns:=by intro W' K;let⟨D,A,C⟩:=h.parts W' (K.mono λk _ e=>cB e);exact⟨r.below r.low A,C,h.fms W' K,pU (eP a λb s=>K.block b (dI a s).2 (h.pm.uF a bS bS s))⟩
theorem oN.own{a:List Nat}(h:oN W g a)(hl:bB a<=1000000):bD W 0 3 1 (aj (ah (az g 0)) (bB a) (bB a)) (bB a) (a.map i64):=by exact⟨by simp,cI ⟨g,bB a,_,rfl,dt _,h,bT _,by unfold aY;omega,by simp,by simp only[iq];exact eF bQ⟩⟩
theorem xl.fsm{D:Option aD}{pc:Nat}(h:xl w N (aj D n pc) ks):FsM w D (ks.map Lf.er):=by
 intro i f p;rw[fN] at p;cases l:ks[i]? with
 |none=>rw[l] at p;cases p
 |some k=>
  rw[l] at p;cases p
  let⟨a,cap,e,_,hz⟩:=h.1;cases e
  obtain e|⟨kb,C,rfl,hz⟩:=hz
  .rw[e] at l;cases l
  let⟨E,F⟩:=hz i k l;let⟨H,_⟩:=h.2 k (cH l);obtain⟨b,o,op,x,y,kv,kids⟩:=k;cases H with
  |mk U G z d=>
   obtain⟨ka,kc,A,s,t⟩:=z;subst A;have q:b=kb:=E;have r:o=C+i*4:=F;subst q r;obtain⟨c,T,J,L,M,O,Q,rfl⟩:=G;have g:∀j u,c[j]?=ah u->aU w (az b j)=ah u:=λj u I=>by simp[aU,J,I]
   exact⟨b,C,op,x,y,ka,bB kids,kc,rfl,⟨g _ _ L,g _ _ M,g _ _ O,g _ _ Q⟩,op,x,y,_,kids,rfl,⟨ka,kc,rfl,s,t⟩,d,by rw[Lf.er]⟩
def xl.below{c:ay}(h:xl w N v ks)(d:aC w.heap.size w c):xl c N v ks:=
 ⟨h.1,λk b=>⟨(h.2 k b).1.keep λi _ _ _ a=>(d.block i (bY.1 a).1).trans a,(h.2 k b).2⟩⟩
structure Kz(w:ay)(l:List Tm)(pa:Option aD)(pc:Nat)(ks:List Lf)(P:Pb)(fs:List Fm):Prop where
 sl:xl w (bB l) (aj pa (bB ks) pc) ks
 cost:cS ks<=601
 ok:EY (bB l) (ks.map Lf.er)
 iO:Pb.iO (bB l) (ks.map Lf.er) nF []=(P,fs)
 fso:RQ (bB l) fs (aO (bB fs))
 has:nr fs P
 vrp:nN P
 sd:bB P.lemmas<=100000∧bB P.vars<=2000∧bB P.known<=100000
theorem C5{w}(base){p}{ev}{nb fb}{l}(Z:Bk w base p ev nb fb l)(hb:Cc.Bd l)(hl:bB l<=150)(pa){pc}{ks}{P}(fs)(z:Kz w l pa pc ks P fs){f}(hf:f<=2)(hM:sS l fs (aO (bB fs)) (λr _=>∃t,r=ah t) f P):
  aB prog 8 #[pz p,aj pa (bB ks) pc] w λe I=>∃ca cn cc,e=aw (.tuple #[.agg #[.bool aK,aj ca cn cc,aj ai 0 0],iz 0])∧aC w.heap.size w I:=by
 have b:bz w (bC w (aq #[.bool aL,aj ai 0 0,aj ai 0 0] 41)):=(cW _ _).alloc (bT _) _;have CK:=Da (bC w (aq #[.bool aL,aj ai 0 0,aj ai 0 0] 41)) (pz p) (bB ks) pc aK aL (rh (Z.below Z.low b) (bB ks) pc (z.sl.below b) (by have:=z.cost;omega)) λW hW=>wW W (bB l) pa pc ks ((z.sl.below b).below hW) z.cost;have a:=bL (b9 Z (b9 z hM));have A:=bL b;have ab:=ey w #[.bool aL,aj ai 0 0,aj ai 0 0] 41;have T:=bL ab;have ag:bB ks<=600:=by have h1:=Bo ks;have h2:=z.cost;unfold cS at h2;omega
 go_enter func8,ntmps8
 go_wp2_with(go_at_call 20;refine CK.mono ?_;rintro e w1 ⟨rfl,B1⟩;refine dM ?_);delta aH;have u:bz w w1:=A.out.trans (B1.mono A.out.size);have d:=a.out.1.below a.out.1.low u;have NW:=rZ d bO pc ((a.out.2.1.sl.below u).fsm) a.out.2.1.ok;rw[eG] at NW;have Y:Zv aK aL=0:=rfl;have aa:=du T.out (B1.block _ bQ);have C:=bL aa;have q:=bL (b9 u d);have O:=bL NW;simp only[Y];apply_assumption
 go_wp2_with(go_at_call 21;refine jD O.out ?_;rintro e J ⟨pb,vb,kb,ta,tc,fv,lv,S,gs,rfl,D⟩;refine dM ?_);delta aH;rw[a.out.2.1.iO] at D;obtain⟨fa,fc,rfl⟩:=dZ D.row;have ad:bB gs=bB fs:=D.len;have c2:cz J pb 2 (aj fa (bB gs) fc):=D.pm.cells.cell (i:=2) bO;have G:bB gs=bB ks:=by rw[ad];have:=uW (bB l) (ks.map Lf.er) nF [];rw[a.out.2.1.iO,eG] at this;simpa using this
 rw[G] at c2;have AL:=Gt J pb fa (bB ks) fc bO c2;have ac:bB fs=bB ks:=bO
 have s:=bL (b9 D (b9 G ac));apply_assumption
 go_wp2_with(go_at_call 23;refine AL.mono ?_;rintro e L ⟨rfl,R3,B3⟩;refine dM ?_);delta aH;have H:=s.out.1.below B3;have V:=R3.own (by rw[iu];omega);have hE:=H.env q.out.2 V;rw[iu] at hE;have MD:=Ci Fq base p ev nb fb l tc H.pm hb hl (ah (az (hz J) 0)) (bB ks) (aO (bB ks)) hE (by rw[<-s.out.2.2];exact a.out.2.1.fso) a.out.2.1.has a.out.2.1.vrp a.out.2.1.sd (λr _=>∃t,r=ah t) f hf (by rw[<-s.out.2.2];exact a.out.2.2);rw[iu] at MD;have U:aB prog 22 #[pz pb,.slice (ah (az (hz J) 0)) (bB ks) (bB ks)] L λe I=>∃cb,e=aw (.tuple #[aj (ah (az cb 0)) (bB l) (bB l),.bool aK])∧Hid (bz w I∧bE I (hz w) 41 3 λi=>(#[.bool aL,aj ai 0 0,aj ai 0 0]:Array aA)[i]?.getD aF):=by refine MD.mono ?_;rintro e M ⟨r,Q,S',al,⟨t,rfl⟩,X4,_,_,_,E⟩;obtain⟨cb,g,rfl,_⟩:=E t rfl;have o:bz w1 L:=(H.parts L (bW _ _)).2.1;have F:aC (hz w1) L M:=X4.kept.below o.size λk hk=>H.low k (cB hk);have h:=o.trans F;refine⟨cb,rfl,q.out.1.trans (h.mono q.out.1.size),du C.out (h.block _ (dO C.out))⟩
 apply_assumption
 go_wp2_with(go_at_call 22;refine U.mono ?_;rintro e M ⟨cb,rfl,c⟩;refine dM ?_);delta aH;have a0:=c.out.2.cell (i:=0) bO;have a1:=c.out.2.cell (i:=1) bO;have a2:=c.out.2.cell (i:=2) bO;have f0:=c.out.2.frozen 0;have f1:=c.out.2.frozen 1;have f2:=c.out.2.frozen 2;simp only[kF,jI,rE,eQ] at a0 a1 a2;apply_assumption
 go_wp2;have X:=((c.out.2.set 0 (.bool aK)).set 1 (aj (ah (az cb 0)) (bB l) (bB l))).set 2 (aj ai 0 0);have B9:bz w (aW (aW (aW M (az (hz w) 0) (.bool aK)) (az (hz w) 1) (aj (ah (az cb 0)) (bB l) (bB l))) (az (hz w) 2) (aj ai 0 0)):=((c.out.1.setCell (p:=(az (hz w) 0)) (bT _) _).setCell (p:=(az (hz w) 1)) (bT _) _).setCell (p:=(az (hz w) 2)) (bT _) _;generalize(aW (aW (aW M (az (hz w) 0) (.bool aK)) (az (hz w) 1) (aj (ah (az cb 0)) (bB l) (bB l))) (az (hz w) 2) (aj ai 0 0))=w9 at *;have b0:cz w9 (hz w) 0 (.bool aK):=X.cell (i:=0) bO;have b1:cz w9 (hz w) 1 (aj (ah (az cb 0)) (bB l) (bB l)):=X.cell (i:=1) bO;have b2:cz w9 (hz w) 2 (aj ai 0 0):=X.cell (i:=2) bO;exact⟨rfl,.tuple #[.agg #[.bool aK,aj (ah (az cb 0)) (bB l) (bB l),aj ai 0 0],iz 0],by simp[aI,results8,go_sem,b0,b1,b2],_,_,_,rfl,B9⟩
structure Xp(W:ay)(cb N:Nat)(cq:Nat->Nat->Bool):Prop where
 row:∃g:Nat->Nat,bE W cb 3 N (λi=>ae af (g i:Int))∧∀i j,i<N->j<N->aM (g i=g j)=cq i j
variable{cq:Nat->Nat->Bool}
theorem Xp.below(h:Xp W cb N cq)(c:aC W.heap.size W W'):Xp W' cb N cq:=by let⟨g,a,b⟩:=h.row;exact⟨g,a.of_block (c.block _ a.lt),b⟩
theorem Xp.eval(h:Xp w cb N cq)(A:N<=1000000)(r:Hk w v f)(hs:xj f<=1048576)(q:RF f):
  aB prog 91 #[v,aj (ah (az cb 0)) N N] w λe s=>e=aw (.bool (tX N cq f))∧aC w.heap.size w s:=by
 let⟨g,p,u⟩:=h.row;have o:=JM w v r (ah (az cb 0)) N N ((aO N).map λt=>(g t:Int)) bQ (by
  by_cases d:N=0
  .left;rw[d];rfl
  refine cI ⟨cb,0,rfl,λj z l=>?_⟩;have c:j<N:=cG
  rw[fN,vS c] at l;cases l
  rw[fM];exact p.cell (i:=j) c) bO bO q
 rwa[VL (n:=N) bQ (e:=cq) λa b C D=>by grind[aO,yd]] at o
theorem QV{w}{cb N}(h:Xp w cb N cq)(q:N<=1000000)(d)(l:aU w (az d 0)=ah (aj (ah (az cb 0)) N N))(op x y){ka}{kn}(kc au cu){f}(u:Hk w (.agg #[iz op,iz x,iz y,aj ka kn kc]) f)(hs:xj f<=1048576)(s:RF f):
  aB prog 147 #[.agg #[iz op,iz x,iz y,aj ka kn kc,au,cu],pz d] w λe z=>e=aw (.bool (!tX N cq f))∧aC w.heap.size w z:=by
 have a:aC (hz w) w (bC w (aq #[iz op,iz x,iz y,aj ka kn kc,au,cu] 172)):=(cW _ _).alloc (bT _) _;have p:=(h.below a).eval q (u.keep a) hs s;have c:=ey w #[iz op,iz x,iz y,aj ka kn kc,au,cu] 172;have C:=c.cell (i:=0) bQ;have D:=c.cell (i:=1) bQ;have E:=c.cell (i:=2) bQ;have F:=c.cell (i:=3) bQ;have t:=(a.cell (cV w _ l)).trans l;have b:=bL a;generalize tX N cq f=r at *;go_enter func147,ntmps147
 go_wp2_with(go_at_call 91;refine p.mono ?_;rintro e A ⟨rfl,o⟩);go_ret;exact⟨rfl,b.out.trans (o.mono b.out.size)⟩
theorem Y6(w){cb N}(h:Xp w cb N cq)(hN:N<=1000000)(E)(hb:aU w (az E 0)=ah (aj (ah (az cb 0)) N N)){O}(Q){fs}(I:ve w N (aj O (bB fs) Q) fs)(hl:bB fs<=1000000)(hx:(fs.findIdx λf=>!f.ev cq)<bB fs):
  aB prog 146 #[aj O (bB fs) Q,.func (.func 147) #[] #[pz E]] w λe w'=>e=aw (iz ((fs.findIdx λf=>!f.ev cq:Nat):Int))∧aC w.heap.size w w':=by
 have d:=bL (b9 h (b9 hb (b9 I hx)));obtain⟨n,U⟩:=bJ (bB fs);have q:=bL U;rw[U] at hl⊢;have H:Hid (aC (hz w) w w):=cW _ _;go_enter func146,ntmps146
 go_wp2
 go_loopw[8] (λL W=>∃i:Nat,i<=n∧L=iz i∧Hid (aC (hz w) w W)∧Hid (∀j f,j<i->fs[j]?=ah f->f.ev cq=aK)) λL _=>n-(aG L).toNat
 case atStart=>exact⟨0,dt _,rfl,H,λj f T=>absurd T (iR _)⟩
 case round=>
  obtain⟨i,hi,rfl,l,C⟩:=hrel;have s:i<bB fs:=by
   by_cases o:i<bB fs
   .exact o
   exfalso;have G:=List.findIdx_getElem (xs:=fs) (p:=λf=>!f.ev cq) (w:=d.out.2.2.2);have F:=C.out _ _ (cQ d.out.2.2.2 bO) (bP d.out.2.2.2);simp[F] at G
  have o:i<n:=by rw[<-q.out];exact s
  have di:=bM i n;have ab:=fq (a:=i) bO;have J:=bP s;let⟨a2,c2,M,hF⟩:=d.out.2.2.1.below l.out;obtain⟨b,ac,Z,op,x,y,ka,kn,kc,au,cu,f,⟨q0,q1,q2,q3,q4,q5⟩,r1,V,r3,⟨ua,uc,rfl,r4⟩,X,Y,rfl,r5⟩:=hF i _ J;rw[q.out] at M;cases M
  subst Z;have u:=QV (d.out.1.below l.out) hN E ((l.out.cell (cV w _ d.out.2.1)).trans d.out.2.1) op x y kc (.slice ua fs[i].am.length uc) (.slice X fs[i].cs.length Y) r1 V.1 V.2;rw[<-r3 cq] at u;have D:Hid (fs[i].ev cq=aK->∀j f,j<i+1->fs[j]?=ah f->f.ev cq=aK):=λhe j f T I=>by
   by_cases e:j<i
   .exact C.out j f e I
   grind
  have A:Hid (fs[i].ev cq=aL->(fs.findIdx λf=>!f.ev cq)=i):=λhe=>by
   obtain h|h|h:=Nat.lt_trichotomy (fs.findIdx λf=>!f.ev cq) i
   .exfalso;have G:=List.findIdx_getElem (xs:=fs) (p:=λf=>!f.ev cq) (w:=d.out.2.2.2);have F:=C.out _ _ h (bP d.out.2.2.2);simp[F] at G
   .exact h
   grind
  generalize fs[i].am.length=al at *;generalize fs[i].cs.length=cl at *;generalize aa:fs[i].ev cq=r at *;cases r with
  |true=>
   have z:Hid _:=D.out rfl
   go_wp2_with(go_at_call 147;refine u.mono ?_;rintro e w5 ⟨rfl,t⟩);exact⟨⟨i+1,o,by simp,l.out.trans (t.mono l.out.size),z⟩,by simp[aG];omega⟩
  |false=>
   have z:Hid _:=A.out rfl
   go_wp2_with(go_at_call 147;refine u.mono ?_;rintro e w5 ⟨rfl,t⟩);go_ret;exact⟨by rw[z.out];rfl,l.out.trans (t.mono l.out.size)⟩
theorem DH{w}(pb){cb N}(cq:Nat->Nat->Bool)(h:Xp w cb N cq)(r:N<=1000000){d}(c){fs}(c2:aU w ⟨pb,2,ai⟩=ah (aj d (bB fs) c))(s:ve w N (aj d (bB fs) c) fs)(hl:bB fs<=1000000)(t:(fs.findIdx λf=>!f.ev cq)<bB fs):
  aB prog 98 #[ak (ah ⟨pb,0,ai⟩),aj (ah ⟨cb,0,ai⟩) N N] w λe u=>e=aw (ae af ((fs.findIdx λf=>!f.ev cq:Nat):Int))∧aC w.heap.size w u:=by
 have a:aC (hz w) w (bC w (aq #[aj (ah ⟨cb,0,ai⟩) N N] 39)):=(cW _ _).alloc (bT _) _;have o:=Y6 (bC w (aq #[aj (ah ⟨cb,0,ai⟩) N N] 39)) (h.below a) r (hz w) bQ c (s.below a) hl t;have p:=(a.cell (cV w _ c2)).trans c2;have b:=bL a;generalize(fs.findIdx λf=>!f.ev cq)=q at *;generalize bB fs=n at *;go_enter func98,ntmps98
 go_wp2_with(go_at_call 146;refine o.mono ?_;rintro e z ⟨rfl,l⟩);go_ret;exact⟨rfl,b.out.trans (l.mono b.out.size)⟩
def abq(w a n c):Sem.run prog (binOp BinOp.eql 39 (aj (ah a) n c) (aj ai 0 0)) w=.ok (.bool aL) w:=bV
theorem AI{l:List Nat}(h:l[i]?=ah x):(gq l)[i]?=ah (iz x):=by grind[gq]
theorem J0(w M v ns)(s:bD w M 3 1 v (bB ns) (gq ns))(T:0<bB ns)(U:bB ns<=1000000):
  aB prog 51 #[v] w λe G=>∃F,e=aw F∧bD G w.heap.size 3 1 F (bB ns) (gq ns)∧aC w.heap.size w G:=by
 obtain⟨_,Y⟩|⟨g,cap,O,rfl,_⟩:=id s.2
 .omega
 let⟨V,p,t,z,A⟩:=eB qQ;have o:∀j u,(gq ns)[j]?=ah u->aU (bC w (aq #[] 3)) ((az g 0:aD).add j)=ah u:=λj u D=>by rw[j9,fM];have q:=(bU.1 D).1;rw[xO] at q;exact fF _ (by rw[s.cellAt j bO];exact D)
 have L:=bL o;have h:∀u∈gq ns,u.oneCell'=aK:=λu E=>by unfold gq at E;obtain⟨x,_,rfl⟩:=gI.1 E;rfl
 have b:=xO ns;obtain⟨n,r⟩:=bJ (bB ns);have l:bD (bC w (aq #[] 3)) (hz w) 3 1 (.slice (ah (az (hz w) 0)) 0 0) 0 []:=⟨rfl,cI ⟨hz w,0,#[],rfl,bT _,eW _ _,bT _,dt _,rfl,rfl⟩⟩
 rw[r] at s T U b⊢;have I:=bL b;have J:=bL h;have Q:=abq w (az g 0) n cap;go_enter func51,ntmps51
 go_wp2_with(first|(at_builtin;refine dM ?_));delta aH;refine fX _ rfl _ _ 39 rfl (hz w) 3 V _ 1 8 underlying39 p t z A rfl bS _ _ _ rfl l (az g 0) n cap (gq ns) rfl (by rw[I.out,iq]) L.out J.out cJ bO bQ ?_;intro Z X c a _ C;have H:bz w X:=(gA ((bW (λk=>k=hz w) w).alloc _) a λk e=>by cases e;rfl).below (bT _) (λk e=>by rw[e];exact bT _);have d:=bL (b9 c H)
 go_wp2;go_ret;refine⟨_,rfl,?_,d.out.2⟩;have:=d.out.1;simp_all
theorem Hp(x:Nat)(h:cz w nb 0 (iz x))(m:Nat):
  aB prog 100 #[iz m,pz nb] w λe a=>e=aw (.bool (aM (m=x)))∧w=a:=by
 go_enter func100,ntmps100
 go_wp2;go_ret;exact⟨fr (yd m x),rfl⟩
def QG(ns:List Nat)(x:Nat):Int:=if ns.idxOf x<bB ns then(ns.idxOf x:Int) else -1
theorem Y0(O:Nat)(I:Option aD)(J:Nat)(ns:List Nat)(Z:bD w O 3 1 (aj I (bB ns) J) (bB ns) (gq ns))(V:bB ns<=1000000)(x:Nat)(h:cz w nb 0 (iz x)):
  aB prog 148 #[aj I (bB ns) J,.func (.func 100) #[] #[pz nb]] w λe w'=>e=aw (iz (QG ns x))∧w=w':=by
 have H:=bL Z;obtain⟨n,s⟩:=bJ (bB ns);have G:=bL s;rw[s] at V⊢;go_enter func148,ntmps148
 go_wp2
 go_loopw[8] (λF W=>∃i:Nat,i<=n∧F=iz i∧W=w∧Hid (∀j,j<i->ns[j]?≠ah x)) λF _=>n-(aG F).toNat
 case atStart=>exact⟨0,dt _,rfl,rfl,λj M=>absurd M (iR _)⟩
 case round=>
  obtain⟨i,hi,rfl,rfl,t⟩:=hrel;by_cases o:i<n
  .have Q:=bM i n;have Y:=fq (a:=i) bO;have l:i<bB ns:=by rw[G.out];exact o
   have E:=bP l;let⟨g,c,T,q1⟩:=AG H.out (AI E);cases T
   have u:=Hp x h ns[i];have D:Hid (ns[i]≠x->∀j,j<i+1->ns[j]?≠ah x):=λX j M=>by
    by_cases e:j<i
    .exact t.out j e
    grind
   have z:Hid (ns[i]=x->QG ns x=(i:Int)):=λL=>by
    have h1:ns.idxOf x=i:=by
     have r:x∈ns:=L▸dw l;have b:ns.idxOf x<bB ns:=aan r;have d:ns[ns.idxOf x]?=ah x:=by rw[bP b,List.getElem_idxOf]
     obtain h|h|h:=Nat.lt_trichotomy (ns.idxOf x) i
     .exact absurd d (t.out _ h)
     .exact h
     have U:=List.not_of_lt_findIdx (p:=(·==x)) (xs:=ns) h;simp[L] at U
    grind[QG]
   generalize ns[i]=m at *;by_cases q:m=x
   .rw[cZ q] at u;have A:Hid _:=z.out q;clear q
    go_wp2_with(go_at_call 100;refine u.mono ?_;rintro e w5 ⟨rfl,rfl⟩);go_ret;exact⟨by rw[A.out];rfl,rfl⟩
   rw[cP q] at u
   go_wp2_with(go_at_call 100;refine u.mono ?_;rintro e w5 ⟨rfl,rfl⟩);refine⟨⟨i+1,o,?_,?_,D.out q⟩,by simp[aG];omega⟩<;>simp
  have Q:=bN i n;obtain rfl:i=n:=bO
  have C:Hid (QG ns x=-1):=by
   show _=_;unfold QG;rw[cC];intro b;have d:ns[ns.idxOf x]?=ah x:=cG
   exact t.out _ (by rw[<-G.out];exact b) d
  clear t H
  go_wp2;go_ret;exact⟨by rw[C.out];rfl,rfl⟩
def Xt(w):(zeroValue 3).run prog w=.ok (iz 0) w:=bV
theorem MO{a:Nat}{d:List aA}(h:bD W base 3 1 (aj (ah (az a 0)) n cap) n d)(o:m<n)(c:aE):
  ∃W',(Builtin.clear_ #[39] c #[aj (ah (az a m)) (n-m) (cap-m)]).run prog W=.ok (.tuple #[]) W'∧bD W' base 3 1 (aj (ah (az a 0)) m cap) m (d.take m)∧dV a W W':=by
 have b:=pJ h rfl (ir o);rw[iq] at b;have fS:∀j,j<n-m->(aU W ⟨a,m+j,ai⟩).isSome=aK:=λj q=>by rw[h.cellAt (m+j) bO,bP (by rw[h.1];omega)];rfl
 have p:=Lib.run_clear_slice (P:=prog) W 39 3 c (iz 0) underlying39 Xt rfl rfl a m (n-m) (cap-m) bO fS λj _=>h.frozenAt (m+j);let⟨e,l⟩:=qN (aN (n-m) (iz 0)) m W (bT _) b;exact⟨_,p,e,l⟩
def rH(x:Nat)(l:List Nat):List Nat:=l.filter λm=>!aM (m=x)
theorem uL(x l m):rH x (l++[m])=if m=x then rH x l else rH x l++[m]:=by grind[rH]
structure DQ(w W:ay)(base g cap:Nat)(ns:List Nat)(x i j:Nat)(R:List Nat):Prop where
 row:bD W base 3 1 (aj (ah ⟨g,0,ai⟩) (bB ns) cap) (bB ns) (gq R)
 kept:bI (λk=>k=g) w W
 le:i<=j
 head:R.take i=rH x (ns.take j)
 tail:R.drop j=ns.drop j
 len:bB R=bB ns
 il:i=bB (rH x (ns.take j))
 lt:i<bB ns
theorem DQ.skip(h:DQ w W base g cap ns x i j R)(b:ns[j]?=ah m)(a:m=x):DQ w W base g cap ns x i (j+1) R:=by
 have e:ns.take (j+1)=ns.take j++[m]:=by rw[dJ,b];rfl
 refine⟨h.row,h.kept,iU h.le,by rw[e,uL,cY a];exact h.head,?_,h.len,by rw[e,uL,cY a];exact h.il,h.lt⟩;rw[<-py,<-py,h.tail]
theorem DQ.take(h:DQ w W base g cap ns x i j R)(a:ns[j]?=ah m)(q:m≠x)(c:bB (rH x (ns.take (j+1)))<bB ns):DQ w (aW W (az g i) (iz m)) base g cap ns x (i+1) (j+1) (R.set i m):=by
 have e:ns.take (j+1)=ns.take j++[m]:=by rw[dJ,a];rfl
 have hl:rH x (ns.take (j+1))=rH x (ns.take j)++[m]:=by rw[e,uL,cC q]
 have l:=(bU.1 a).1;have p:=h.le;have b:=h.len;have r:bD (aW W (az g i) (iz m)) base 3 1 (aj (ah (az g 0)) (bB ns) cap) (bB ns) (gq (R.set i m)):=by
  have:=uG h.row (o:=i) (iz m);have d:(gq R).set i (iz m)=gq (R.set i m):=by unfold gq;rw[pW]
  rwa[d] at this
 refine⟨r,h.kept.trans (eH (bW _ W) i _),by omega,?_,?_,by grind,by rw[hl,cR,<-h.il];rfl,by rw[hl,cR,<-h.il] at c;exact c⟩
 .rw[hl,<-h.head,dJ,lE bO,KH (bT _)];rfl
 rw[List.drop_set_of_lt bO,<-py,<-py,h.tail]
theorem Zn(w:ay)(base g cap:Nat)(ns:List Nat)(hx:bD w base 3 1 (aj (ah (az g 0)) (bB ns) cap) (bB ns) (gq ns))(hn:bB ns<=1000000)(nb x:Nat)(h:aU w (az nb 0)=ah (iz x))(Z:nb≠g)(U:x∈ns):
  aB prog 99 #[aj (ah (az g 0)) (bB ns) cap,.func (.func 100) #[] #[pz nb]] w λe w'=>∃v',e=aw v'∧bD w' base 3 1 v' (bB (rH x ns)) (gq (rH x ns))∧bI (λk=>k=g) w w':=by
 have E:=Y0 base _ cap ns hx hn x h;have J:ns.idxOf x<bB ns:=aan U;have ab:ns[ns.idxOf x]?=ah x:=cG
 unfold QG at E;rw[cY J] at E;have Y:∀j,bB (rH x (ns.take j))<bB ns:=λj=>by
  have o:bB (rH x (ns.take j))<=bB (rH x ns):=((List.take_sublist j ns).filter _).length_le;have h2:bB (rH x ns)<bB ns:=by simp_all[rH]
  omega
 have L:Hid (∃R,DQ w w base g cap ns x (ns.idxOf x) (ns.idxOf x+1) R):=by
  have h0:rH x (ns.take (ns.idxOf x))=ns.take (ns.idxOf x):=by
   unfold rH;rw[KO];intro a ha;obtain⟨k,hk,rfl⟩:=gF.1 ha;rw[fB] at hk;rw[List.getElem_take];have X:k<ns.idxOf x:=bO
   simpa using(List.not_of_lt_findIdx (p:=(·==x)) (xs:=ns) (i:=k) X)
  have e:ns.take (ns.idxOf x+1)=ns.take (ns.idxOf x)++[x]:=by rw[dJ,ab];rfl
  refine⟨ns,hx,bW _ _,iD _,?_,rfl,rfl,?_,J⟩
  .rw[e,uL,cY rfl,h0]
  rw[e,uL,cY rfl,h0,fB];omega
 have M:=bL Y;obtain⟨q,aa⟩:=bJ (ns.idxOf x);rw[aa] at E J L;obtain⟨n,H⟩:=bJ (bB ns);have A:=bL H;have HX:=bL (b9 hx h);rw[H] at hn J E⊢;have ao:=fq (a:=q) bO;have ad:((q:Int)==-1)=aL:=bQ
 go_enter func99,ntmps99
 go_wp2_with(go_at_call 148;refine E.mono ?_;rintro e w5 ⟨rfl,rfl⟩)
 go_loopw[5,6] (λt5 t6 W=>∃(i j:Nat),j<=n∧t5=iz i∧t6=iz j∧Hid (∃R,DQ w W base g cap ns x i j R)) λ_ t6 _=>n-(aG t6).toNat
 case atStart=>grind
 case round=>
  obtain⟨i,j,hj,rfl,rfl,HJ⟩:=hrel;let⟨R,D⟩:=HJ.out;have s:=D.lt;rw[A.out] at s;by_cases t:j<n
  .have dj:=bM j n;have an:=fq (a:=j) bO;have al:=fq (a:=i) bO;have V:j<bB ns:=by rw[A.out];exact t
   have r:=bP V;have O:R[j]?=ah ns[j]:=by
    have o:(R.drop j)[0]?=(ns.drop j)[0]?:=by rw[D.tail]
    rw[lS,lS,fH] at o;rw[o,r]
   have b:=D.row;rw[A.out] at b;let⟨g2,c2,eg,q1⟩:=AG b (AI O);cases eg
   obtain⟨zz,ap⟩:∃z,aU wr (az g i)=ah z:=by
    have T:i<bB R:=by rw[D.len,A.out];exact s
    exact⟨iz (R[i]:Int),by rw[b.cellAt i bO];exact AI (bP T)⟩
   have fz:=b.frozenAt i;have Q:aU wr (az nb 0)=ah (iz x):=(cL (a:=az nb 0) (D.kept.block nb (cV w _ HX.out.2) Z)).trans HX.out.2;have I:=Hp x Q ns[j];have d:Hid (ns[j]=x->DQ w wr base g cap ns x i (j+1) R):=λe=>D.skip r e;have l:Hid (ns[j]≠x->DQ w (aW wr (az g i) (iz (ns[j]:Int))) base g cap ns x (i+1) (j+1) (R.set i ns[j])):=λe=>D.take r e (M.out _);generalize ns[j]=m at *;by_cases C:m=x
   .rw[cZ C] at I;have u:Hid _:=d.out C;clear C d l
    go_wp2_with(go_at_call 100;refine I.mono ?_;rintro e w5 ⟨rfl,rfl⟩);refine⟨⟨i,j+1,t,?_,?_,R,u.out⟩,by simp[aG];omega⟩<;>simp
   rw[cP C] at I;have u:Hid _:=l.out C;clear C d l
   go_wp2_with(go_at_call 100;refine I.mono ?_;rintro e w5 ⟨rfl,rfl⟩);refine⟨⟨i+1,j+1,t,?_,?_,_,u.out⟩,by simp[aG];omega⟩<;>simp
  have dj:=bN j n;obtain rfl:j=n:=bO
  have b:=D.row;rw[A.out] at b;let⟨W9,c9,o9,k9⟩:=MO b s 0;have u:Hid (bD W9 base 3 1 (aj (ah (az g 0)) i cap) (bB (rH x ns)) (gq (rH x ns))∧bI (λk=>k=g) w W9∧bB (rH x ns)=i):=by
   have e1:ns.take j=ns:=eF (by rw[A.out];exact bT _);have o:=D.il;have h2:=D.head;rw[e1] at o h2;refine⟨?_,D.kept.trans k9,o.symm⟩;have e2:(gq R).take i=gq (rH x ns):=by grind[gq,List.map_take]
   rw[e2] at o9;rw[<-o];exact o9
  have ac:i<=cap:=by
   obtain⟨e,_⟩|⟨g3,F,G,e,_,_,h3,_⟩:=b.2
   .cases e
   cases e
   omega
  have ag:j<=cap:=by
   obtain⟨e,_⟩|⟨g3,F,G,e,_,_,h3,_⟩:=b.2
   .cases e
   cases e
   omega
  clear HJ D b o9 k9
  go_wp2;go_ret;exact⟨_,rfl,u.out.1,u.out.2.1⟩
theorem Ll(w:ay)(q:Nat)(v:aA)(ns:List Nat)(I:bD w q 3 1 v (bB ns) (gq ns))(s:bB ns<=1000000)(x:Nat)(l:x∈ns):
  aB prog 52 #[v,iz x] w λe d=>∃b,e=aw b∧bD d w.heap.size 3 1 b (bB (rH x ns)) (gq (rH x ns))∧aC w.heap.size w d:=by
 have G:0<bB ns:=List.length_pos_of_mem l;have a:aC w.heap.size w (bC w (aq #[iz x] 3)):=(cW _ _).alloc (bT _) _;have z:=J0 (bC w (aq #[iz x] 3)) q v ns (ew I a) G s;have Q:aU (bC w (aq #[iz x] 3)) (az w.heap.size 0)=ah (iz x):=bQ
 have C:∀(W:ay)(v:aA),bD W (bC w (aq #[iz x] 3)).heap.size 3 1 v (bB ns) (gq ns)->aC (bC w (aq #[iz x] 3)).heap.size (bC w (aq #[iz x] 3)) W->
   ∃g c,v=aj (ah (az g 0)) (bB ns) c∧aB prog 99 #[aj (ah (az g 0)) (bB ns) c,.func (.func 100) #[] #[pz w.heap.size]] W λe d=>∃b,e=aw b∧bD d w.heap.size 3 1 b (bB (rH x ns)) (gq (rH x ns))∧aC w.heap.size w d:=λW v t r=>by
  obtain⟨_,T⟩|⟨g,cap,F,rfl,H,_⟩:=id t.2
  .omega
  have p:=H;simp at p;refine⟨g,cap,rfl,(Zn W w.heap.size g cap ns (pB t bQ) s w.heap.size x ((r.cell bQ).trans Q) bO l).mono ?_⟩;rintro e d ⟨b,rfl,J,L⟩;have h:=a.trans (r.mono a.size);exact⟨b,rfl,J,h.trans (L.below h.size λk e=>by rw[e];omega)⟩
 have o:=bL C;go_enter func52,ntmps52
 go_wp2_with(first|(go_at_call 51;refine z.mono ?_;rintro e O ⟨M,rfl,E,u⟩;obtain⟨U,c1,rfl,A⟩:=o.out O M E u)|(go_at_call 99;refine A.mono ?_;rintro e X ⟨V,rfl,D⟩));go_ret;exact⟨_,rfl,D⟩
end
def Qk(l:List Tm)(told:List Pr)(F:Pf):List Pr->Pb->Option Pb
 | [],P=>ah P
 |a::r,P=>match yC F.L told (iZ l) a with
  |none=>ai
  |some S=>if P.count+bB (oI P S [])<=2000 then Qk l told F r (S.foldl Pb.step P) else ai
theorem Oe{l:List Tm}{told:List Pr}{F:Pf}:∀(d:List Pr)(P Q b:Pb),Qk l told F d P=ah b->GU l told F d P Q->Q=b
 | [],P,Q,b,h,k=>by
  simp only[Qk] at h;cases h
  exact k
 |a::r,P,Q,b,h,⟨f,⟨S,k1,k2,_⟩,k3⟩=>by
  simp only[Qk,k1] at h;by_cases c:P.count+bB (oI P S [])<=2000
  .rw[cY c] at h;have e:=k2 c;subst e;exact Oe r _ Q b h k3
  grind
def aaK(P:Pb)(fs:List Fm)(ns:List Nat):Bool:=aM (P.count<=2000)&&(aM (bB (lO P fs ns)<=100000000)&&(lO P fs ns).all λc=>decide (bB c<=12)&&c.all λx=>decide (x≠0)&&aM (x.natAbs<=P.count))
variable{P:Pb}{fs:List Fm}
theorem XN{b:List Nat}(h:aaK P fs b=aK):Kt P fs b:=by simp only[aaK,nA,jl,List.all_eq_true] at h;exact⟨h.1,h.2.1,λc a=>⟨.inl (h.2.2 c a).1,λx d=>(h.2.2 c a).2 x d⟩⟩
def yS(l:List Tm)(fs:List Fm)(ns:List Nat):Nat->Pb->Option (Option (List Pr)×Pb)
 |0,_=>ai
 |f+1,P=>if aaK P fs ns then(match mH P.count (lO P fs ns) with
  |none=>ai
  |some ai=>ah (ai,P)
  |some (ah vs)=>if xm l fs P ns vs=[] then ah (ah (sF fs P ns vs),P) else if 1<bB (xm l fs P ns vs) then ai else match uE l (sF fs P ns vs) with
   |none=>ai
   |some F=>match Qk l (sF fs P ns vs) F (xm l fs P ns vs) P with
    |none=>ai
    |some Q=>yS l fs ns f Q) else ai
theorem FZ{l:List Tm}{fs:List Fm}{b:List Nat}:∀(f:Nat)(P:Pb)(r:Option (List Pr)×Pb),yS l fs b f P=ah r->sS l fs b (λa Q=>(a,Q)=r) f P
 |0,P,r,h=>by simp[yS] at h
 |f+1,P,r,h=>by
  rw[yS] at h
  split at h
  .rename_i m;refine⟨XN m,?_⟩;cases hs:mH P.count (lO P fs b) with
   |none=>rw[hs] at h;cases h
   |some o=>
    rw[hs] at h;cases o with
    |none=>grind
    |some e=>
     simp only at h⊢;refine⟨λi=>?_,λi=>?_⟩
     .grind
     rw[cC i] at h;by_cases c:1<bB (xm l fs P b e)
     .grind
     rw[cC c] at h;refine⟨⟨by omega,?_⟩,λF Q j k=>?_⟩
     .grind[yS]
     rw[j] at h;simp only at h;cases d:Qk l (sF fs P b e) F (xm l fs P b e) P with
     |none=>rw[d] at h;cases h
     |some p=>rw[d] at h;simp only at h;have:=Oe _ _ _ _ d k;subst this;exact FZ f Q r h
  cases h
def Vy(l:List Tm)(told:List Pr)(fs:List Fm):Nat:=fs.findIdx λf=>!f.ev (zR l told)
theorem abn(n)(e:Nat->Nat->Bool)(f g):tX n e (Fo.two 3 f g)=(tX n e f||tX n e g):=by rw[Fo.two,tX,evM];simp
def l7:List Tm:=[⟨⟨#[97]⟩,[]⟩,⟨⟨#[102]⟩,[0]⟩,⟨⟨#[98]⟩,[]⟩,⟨⟨#[99]⟩,[]⟩,⟨⟨#[100]⟩,[]⟩,⟨⟨#[102]⟩,[3]⟩]
def zQ:Fo:=lG (1,2)
def xk:Fo:=Fo.two 3 (lG (0,3)) (lG (0,4))
def Ah:Fo:=Fo.neg (lG (5,2))
def Gk:Fo:=Fo.neg (lG (0,4))
def Hf:List Fm:=[⟨[(1,2)],[[1]],λe=>e 1 2⟩,⟨[(0,3),(0,4)],[[-4,-2],[-4,-3],[4,2,3],[-4]],λe=>e 0 3||e 0 4⟩,⟨[(2,5)],[[-5]],λe=>!e 5 2⟩,⟨[(0,4)],[[-3]],λe=>!e 0 4⟩]
def p7:Pb:=⟨5,[((1,2),1),((0,3),2),((0,4),3),((2,5),5)],[],[]⟩
theorem YZ{a b:Nat}(h:a<6:=by decide)(k:b<6:=by decide):uf 6 (a,b):=⟨h,k⟩
theorem ES:nF.sh zQ=⟨1,[((1,2),1)],[],[]⟩∧wS 6 nF zQ=⟨[(1,2)],[[1]],λe=>e 1 2⟩:=by refine⟨by rw[zQ,OO];rfl,?_⟩;rw[zQ,Oq];congr 1;funext e;exact wT 6 e _ YZ
theorem aai:lC (oU xk)=[(0,3),(0,4)]:=by simp[xk,Fo.two,lG,Fo.eq,oU,lC]
theorem ZR:o5 xk=(-3,(3,[[-3,-1],[-3,-2],[3,1,2]])):=by
 unfold o5;rw[aai];have a:mA [(0,3),(0,4)] (0,3)=1:=bS
 have b:mA [(0,3),(0,4)] (0,4)=2:=bS
 simp[xk,Fo.two,lG,Fo.eq,Cn.jj,Cn.both,a,b]
theorem Ww:gV xk=[(0,3),(0,4)]:=by unfold gV;rw[aai];rfl
theorem Km:(⟨1,[((1,2),1)],[],[]⟩:Pb).sh xk=⟨4,[((1,2),1),((0,3),2),((0,4),3)],[],[]⟩∧wS 6 ⟨1,[((1,2),1)],[],[]⟩ xk=⟨[(0,3),(0,4)],[[-4,-2],[-4,-3],[4,2,3],[-4]],λe=>e 0 3||e 0 4⟩:=by
 refine⟨?_,?_⟩
 .unfold Pb.sh;rw[Ww,ZR];rfl
 unfold wS oS;rw[Ww,ZR];congr 1;grind[xk,abn,wT,YZ]
theorem OQ:(⟨4,[((1,2),1),((0,3),2),((0,4),3)],[],[]⟩:Pb).sh Ah=p7∧wS 6 ⟨4,[((1,2),1),((0,3),2),((0,4),3)],[],[]⟩ Ah=⟨[(2,5)],[[-5]],λe=>!e 5 2⟩:=by refine⟨by rw[Ah,yf];rfl,?_⟩;rw[Ah,CS];congr 1;funext e;rw[Gl,wT 6 e _ YZ]
theorem aak:p7.sh Gk=p7∧wS 6 p7 Gk=⟨[(0,4)],[[-3]],λe=>!e 0 4⟩:=by refine⟨by rw[Gk,yf];rfl,?_⟩;rw[Gk,CS];congr 1;funext e;rw[Gl,wT 6 e _ YZ]
theorem aaj:Pb.iO 6 [zQ,xk,Ah] nF []=(p7,Hf.take 3):=by simp only[Pb.iO,ES.1,ES.2,Km.1,Km.2,OQ.1,OQ.2];rfl
theorem WB:Pb.iO 6 [zQ,xk,Ah,Gk] nF []=(p7,Hf):=by simp only[Pb.iO,ES.1,ES.2,Km.1,Km.2,OQ.1,OQ.2,aak.1,aak.2];rfl
def q7:Pb:=⟨6,[((1,2),1),((0,3),2),((0,4),3),((2,5),5),((1,5),6)],[[6,-2],[5,-1,-6]],[((1,5),[(0,3),(0,0),(0,0),(0,0)]),((2,5),[(1,2),(1,5),(0,0),(0,0)])]⟩
def adF:yS l7 (Hf.take 3) [0,1,2] 2 p7=ah (ah [(1,2),(0,4)],q7):=bV
def adq:yS l7 Hf [0,1,2,3] 2 p7=ah (ai,q7):=bV
def adC:nT ⟨#[102,40,97,41,61,98]⟩ []=(zQ,0,0,l7.take 3):=bV
def adB:nT ⟨#[97,61,99,124,97,61,100]⟩ (l7.take 3)=(xk,0,0,l7.take 5):=bV
def adA:nT ⟨#[102,40,99,41,33,61,98]⟩ (l7.take 5)=(Ah,0,0,l7):=bV
def adz:nT ⟨#[97,33,61,100]⟩ l7=(Gk,0,0,l7):=bV
theorem four(j):∃i r,r<4∧j=i*4+r:=⟨j / 4,j % 4,Nat.mod_lt _ bO,by omega⟩
variable{w W:ay}{N n pc g:Nat}{pa:Option aD}{ks:List Lf}
theorem xl.len(h:xl w N (aj pa n pc) ks):n=bB ks:=by
 let⟨a,b,e,_⟩:=h.1;cases e
 rfl
variable{v:aA}
theorem QP(h:xl w N v ks):∀u∈ks.flatMap kW,u.oneCell'=aK:=by
 intro u b;let⟨k,d,b⟩:=lI.1 b;let⟨a,c,e,_⟩:=(h.2 k d).1.tw;simp only[kW,fA,lH,GY] at b;obtain rfl|rfl|rfl|rfl:=b
 .rfl
 .rfl
 .rfl
 rw[e];rfl
theorem xl.part(h:xl w N (aj pa n pc) ks):ni 4 w (aj pa n pc) n (ks.flatMap kW):=by
 have z:=h.len;refine⟨pa,pc,rfl,by rw[ED,z],QP h,?_⟩;let⟨a,q,e,_,hz⟩:=h.1;cases e
 obtain e|⟨kb,C,rfl,hz⟩:=hz
 .exact cB (by rw[e];rfl)
 refine cI ⟨kb,C,rfl,λj v b=>?_⟩;obtain⟨i,r,A,rfl⟩:=four j;rw[JH _ _ _ A] at b;cases d:ks[i]? with
 |none=>rw[d] at b;cases b
 |some k=>
  rw[d] at b;change(kW k)[r]?=ah v at b;let⟨s,t⟩:=hz i k d;let⟨c,D,f,l,m,o,p,_⟩:=(h.2 k (cH d)).1.cells;rw[s] at f;rw[t] at l m o p;have g:∀j u,c[j]?=ah u->aU w (az kb j)=ah u:=λj u B=>by simp[aU,f,B]
  rw[<-Nat.add_assoc];obtain rfl|rfl|rfl|rfl:=(by omega:r=0∨r=1∨r=2∨r=3)
  .cases b;exact g _ _ l
  .cases b;exact g _ _ m
  .cases b;exact g _ _ o
  cases b;exact g _ _ p
def XW(g:Nat)(j:Nat)(t:Lf):Lf:=.mk g (j*4) t.op t.x t.y t.kv t.kids
theorem Ny(g j t):(XW g j t).er=t.er:=by
 cases t
 simp[XW,Lf.er,Lf.op,Lf.x,Lf.y,Lf.kids]
theorem Fy{B:Nat}{ts:List Lf}(o:bD W B 36 4 v (bB ts) (ts.flatMap kW))(p:∀t∈ts,nk t.kv t.kids∧(∀k∈t.kids,jS W k)∧wm N t.er):∃ks,xl W N v ks∧ks.map Lf.er=ts.map Lf.er∧bB ks=bB ts:=by
 obtain⟨e,l⟩|⟨g,f,c,e,C,m,s,u,z,A⟩:=id o.2
 .have:ts=[]:=eE l;subst this;exact⟨[],⟨⟨ai,0,e,bT _,cB rfl⟩,λk b=>by cases b⟩,rfl,rfl⟩
 refine⟨ts.mapIdx (XW g),⟨⟨ah (az g 0),f,by grind,by grind,cI ⟨g,0,rfl,λj t a=>?_⟩⟩,λk b=>?_⟩,?_,List.length_mapIdx⟩
 .rw[jH] at a;cases b:ts[j]? with
  |none=>rw[b] at a;cases a
  |some D=>
   rw[b] at a;cases a
   exact⟨rfl,by simp[XW,Lf.o]⟩
 .obtain⟨j,a,rfl⟩:=List.mem_mapIdx.1 b;let⟨k1,k2,k3⟩:=p _ (dw a);refine⟨.mk trivial ⟨c,(0,0),m,?_⟩ k1 k2,by rw[Ny];exact k3⟩;have d:∀r,r<4->c[j*4+r]?=(kW ts[j])[r]?:=λr h=>by
   have q:=JH ts j r h;grind
  exact⟨d 0 bO,d 1 bO,d 2 bO,d 3 bO,rfl⟩
 refine iv λi=>?_;grind[Ny]
structure W4(l:List Tm)(fos:List Fo)(P:Pb)(fs:List Fm):Prop where
 ok:EY (bB l) fos
 iO:Pb.iO (bB l) fos nF []=(P,fs)
 fso:RQ (bB l) fs (aO (bB fs))
 has:nr fs P
 vrp:nN P
 sd:bB P.lemmas<=100000∧bB P.vars<=2000∧bB P.known<=100000
def TY(x y:Int):Lf:=.mk 0 0 0 x y (aj ai 0 0) []
variable{x y:Int}
theorem TX(b:0<=x∧x<N)(c:0<=y∧y<N):nk (TY x y).kv (TY x y).kids∧(∀k∈(TY x y).kids,jS W k)∧wm N (TY x y).er:=by
 have e:(TY x y).er=.mk 0 x y []:=by simp[TY,Lf.er]
 rw[e];exact⟨⟨ai,0,rfl,dt _,cB rfl⟩,λk (a:k∈([]:List Lf))=>(nomatch a),wm.eq x y b c⟩
theorem Ry{f k:Option aD}{d e c1 c2:Nat}{x1 x2:List aA}(h:bE w g 30 2 λj=>if j=0 then aj f d c1 else aj k e c2)(l:ni 4 w (aj f d c1) d x1)(m:ni 4 w (aj k e c2) e x2):∀(i:Nat)(q:Nat×List aA),[(d,x1),(e,x2)][i]?=ah q->∃b c u,ah (az g 0:aD)=ah (az b c)∧aU w ⟨b,c+i,ai⟩=ah u∧ni 4 w u q.1 q.2:=by
 intro i q a
 match i,a with
 |0,a=>cases a;exact⟨g,0,_,rfl,h.cell (i:=0) bO,l⟩
 |1,a=>cases a;exact⟨g,0,_,rfl,h.cell (i:=1) bO,m⟩
theorem Wo{w}{N}{pa}(pc){ks}(d:xl w N (aj pa (bB ks) pc) ks)(hl:bB ks<=1000)(l f t)(G:bE w l 30 2 λj=>if j=0 then aj pa (bB ks) pc else aj (ah (az f 0)) 1 1)(H:bE w f 36 4 λj=>((kW t)[j]?).getD aF)(h:nk t.kv t.kids∧(∀k∈t.kids,jS w k)∧wm N t.er):
  aB prog 25 #[aj (ah (az l 0)) 2 2] w λe q=>∃b a c,e=aw (aj a (bB ks+1) c)∧xl q N (aj a (bB ks+1) c) b∧b.map Lf.er=ks.map Lf.er++[t.er]∧aC w.heap.size w q:=by
 have p:ni 4 w (aj (ah (az f 0)) 1 1) 1 (kW t):=by
  refine⟨_,_,rfl,rfl,λu A=>?_,cI ⟨f,0,rfl,λj v s=>?_⟩⟩
  .let⟨a,D,e,_⟩:=h.1;simp only[kW,fA,lH,GY] at A;obtain rfl|rfl|rfl|rfl:=A
   .rfl
   .rfl
   .rfl
   rw[e];rfl
  have o:=(bU.1 s).1;rw[fM,H.cell (i:=j) (by simpa[kW] using o)];simp only[s,eQ]
 have C:=Zw w (ah (az l 0)) 2 [(bB ks,ks.flatMap kW),(1,kW t)] (Ry G d.part p) (by simp[lA];omega) bQ;refine C.mono ?_;rintro e q ⟨v,rfl,R,B⟩;have E:lA [(bB ks,ks.flatMap kW),(1,kW t)]=bB (ks++[t]):=by simp[lA]
 have F:qY [(bB ks,ks.flatMap kW),(1,kW t)]=(ks++[t]).flatMap kW:=by simp[qY]
 rw[E,F] at R;let⟨b,I,J,L⟩:=Fy (N:=N) R (λz hz=>by
  obtain hz|hz:=cU.1 hz
  .have m:=(d.below B).2 z hz;exact⟨m.1.tw,λk d=>m.1.He d,m.2⟩
  rw[dL] at hz;subst hz;exact⟨h.1,λk d=>(h.2.1 k d).keep λi _ _ _ r=>(B.block i (bY.1 r).1).trans r,h.2.2⟩)
 obtain⟨a,c,rfl⟩:=dZ R;rw[cR] at I⊢;grind
theorem J7(ks):cS ks=1+((ks.map Lf.er).map cF).sum:=by unfold cS;rw[kL];rfl
def nLf(g:Nat)(x y:Int):Lf:=.mk 0 0 1 0 0 (aj (ah ⟨g,0,ai⟩) 1 1) [.mk g 0 0 x y (aj ai 0 0) []]
theorem UC(g x y):(nLf g x y).er=Fo.neg (Fo.eq x y):=by simp[nLf,Lf.er,Fo.neg,Fo.eq]
theorem aa4(d:0<=x∧x<N)(e:0<=y∧y<N)(c:W.heap[g]?=ah (aq #[iz 0,iz x,iz y,aj ai 0 0] 36)):nk (nLf g x y).kv (nLf g x y).kids∧(∀k∈(nLf g x y).kids,jS W k)∧wm N (nLf g x y).er:=by
 rw[UC];refine⟨⟨ah (az g 0),1,rfl,bT _,cI ⟨g,0,rfl,λj t b=>?_⟩⟩,λk (a:k∈[Lf.mk g 0 0 x y (aj ai 0 0) []])=>?_,wm.neg _ (wm.eq x y d e)⟩
 .match j,b with
  |0,b=>cases b;exact⟨rfl,rfl⟩
 rw[dL] at a;subst a;exact .mk trivial ⟨_,(0,0),c,rfl,rfl,rfl,rfl,rfl⟩ ⟨ai,0,rfl,bT _,cB rfl⟩ λk a=>(nomatch a)
theorem JV{base p:Nat}{ev:aA}{nb fb:Nat}{l:List Tm}(hB:Bk w base p ev nb fb l)(hb:Cc.Bd l)(hl:bB l<=150)(pc:Nat)(hk:xl w (bB l) (aj pa (bB ks) pc) ks)(hc:cS ks<=600)(x y:Int)(hx:0<=x∧x<bB l)(hy:0<=y∧y<bB l)(hA:W4 l (ks.map Lf.er++[Fo.neg (Fo.eq x y)]) P fs)(C:Bool)(hM:sS l fs (aO (bB fs)) (λr _=>(r=ai↔C=aK)) 2 P):
  aB prog 9 #[pz p,aj pa (bB ks) pc,.agg #[iz 0,iz x,iz y,aj ai 0 0]] w λe w'=>e=aw (.tuple #[.bool C,iz 0])∧aC w.heap.size w w':=by
 have a:=bL (b9 hB (b9 hA (b9 hM (b9 hk (b9 hc (b9 hx hy))))));have a5:bB ks<=599:=by grind[cS,Bo]
 have H:bz w (bC (bC (bC w (aq #[iz 0,iz x,iz y,aj ai 0 0] 36)) (aq #[iz 0,iz x,iz y,aj ai 0 0] 36)) (aq #[aj pa (bB ks) pc,aj (ah ⟨hz w+1,0,ai⟩) 1 1] 30)):=(((cW _ _).alloc (bT _) _).alloc bQ _).alloc bX _;have Y:=ey (bC (bC w (aq #[iz 0,iz x,iz y,aj ai 0 0] 36)) (aq #[iz 0,iz x,iz y,aj ai 0 0] 36)) #[aj pa (bB ks) pc,aj (ah ⟨hz w+1,0,ai⟩) 1 1] 30;have Z:=ey (bC w (aq #[iz 0,iz x,iz y,aj ai 0 0] 36)) #[iz 0,iz x,iz y,aj ai 0 0] 36;have g2:(bC (bC (bC w (aq #[iz 0,iz x,iz y,aj ai 0 0] 36)) (aq #[iz 0,iz x,iz y,aj ai 0 0] 36)) (aq #[aj pa (bB ks) pc,aj (ah ⟨hz w+1,0,ai⟩) 1 1] 30)).heap[hz w+1]?=ah (aq #[iz 0,iz x,iz y,aj ai 0 0] 36):=by rw[jd _ _ bQ];have:=eW (bC w (aq #[iz 0,iz x,iz y,aj ai 0 0] 36)) (aq #[iz 0,iz x,iz y,aj ai 0 0] 36);rwa[show(bC w (aq #[iz 0,iz x,iz y,aj ai 0 0] 36)).heap.size=hz w+1 by simp] at this
 rw[show(bC (bC w (aq #[iz 0,iz x,iz y,aj ai 0 0] 36)) (aq #[iz 0,iz x,iz y,aj ai 0 0] 36)).heap.size=hz w+1+1 by simp] at Y;rw[show(bC w (aq #[iz 0,iz x,iz y,aj ai 0 0] 36)).heap.size=hz w+1 by simp] at Z;have aa:=Wo pc (a.out.2.2.2.1.below H) bO (hz w+1+1) (hz w+1) (TY x y) (Y.congr (λj V=>by
  grind)) ((Z.of_block (jd _ _ bQ)).congr (λj V=>by
  have:j=0∨j=1∨j=2∨j=3:=by simp at V;omega
  obtain rfl|rfl|rfl|rfl:=this<;>rfl)) (TX a.out.2.2.2.2.2.1 a.out.2.2.2.2.2.2)
 have m:=bL (b9 H g2);have q:=bL aa;go_enter func9,ntmps9
 go_wp2_with(go_at_call 25;refine jD q.out ?_;rintro e w1 ⟨a4,a1,c1,rfl,S1,E1,B1⟩;refine dM ?_);delta aH;have I:bz w w1:=m.out.1.trans (B1.mono m.out.1.size);have G:w1.heap[hz w+1]?=ah (aq #[iz 0,iz x,iz y,aj ai 0 0] 36):=(B1.block _ bQ).trans m.out.2;have ao:cS a4<=601:=by
  have h1:=a.out.2.2.2.2.1;have h2:cF (TY x y).er=1:=by simp[TY,Lf.er,cF]
  rw[J7] at h1⊢;rw[E1,fZ,List.sum_append];simp only[iG,nZ,tU,List.sum_nil,h2];omega
 have CK:=Da w1 (pz p) (bB ks+1) c1 aK aL (rh (a.out.1.below a.out.1.low I) (bB ks+1) c1 S1 bO) (λW hW=>by have X:=S1.len;have S2:=S1.below hW;rw[X] at S2⊢;grind[wW])
 have d:=bL (b9 I G);have E:=bL CK;have an:Zv aK aL=0:=rfl;rw[an] at E;apply_assumption
 go_wp2_with(go_at_call 20;refine jD E.out ?_;rintro e b ⟨rfl,B2⟩;refine dM ?_);delta aH;have u:bz w b:=d.out.1.trans (B2.mono d.out.1.size);have G:b.heap[hz w+1]?=ah (aq #[iz 0,iz x,iz y,aj ai 0 0] 36):=(B2.block _ (bY.1 d.out.2).1).trans d.out.2;obtain⟨c,M⟩:=bJ (hz w+1);rw[M] at G;simp only[M];have z:bz b (bC (bC (bC b (aq #[iz 1,iz 0,iz 0,aj (ah (az c 0)) 1 1] 36)) (aq #[iz 1,iz 0,iz 0,aj (ah (az c 0)) 1 1] 36)) (aq #[aj pa (bB ks) pc,aj (ah ⟨hz b+1,0,ai⟩) 1 1] 30)):=(((cW _ _).alloc (bT _) _).alloc bQ _).alloc bX _;have Y:=ey (bC (bC b (aq #[iz 1,iz 0,iz 0,aj (ah (az c 0)) 1 1] 36)) (aq #[iz 1,iz 0,iz 0,aj (ah (az c 0)) 1 1] 36)) #[aj pa (bB ks) pc,aj (ah ⟨hz b+1,0,ai⟩) 1 1] 30;have Z:=ey (bC b (aq #[iz 1,iz 0,iz 0,aj (ah (az c 0)) 1 1] 36)) #[iz 1,iz 0,iz 0,aj (ah (az c 0)) 1 1] 36;rw[show(bC (bC b (aq #[iz 1,iz 0,iz 0,aj (ah (az c 0)) 1 1] 36)) (aq #[iz 1,iz 0,iz 0,aj (ah (az c 0)) 1 1] 36)).heap.size=hz b+1+1 by simp] at Y;rw[show(bC b (aq #[iz 1,iz 0,iz 0,aj (ah (az c 0)) 1 1] 36)).heap.size=hz b+1 by simp] at Z;have ab:=Wo pc ((a.out.2.2.2.1.below u).below z) bO (hz b+1+1) (hz b+1) (nLf c x y) (Y.congr (λj V=>by
  grind)) ((Z.of_block (jd _ _ bQ)).congr (λj V=>by
  have:j=0∨j=1∨j=2∨j=3:=by simp at V;omega
  obtain rfl|rfl|rfl|rfl:=this<;>rfl)) (aa4 a.out.2.2.2.2.2.1 a.out.2.2.2.2.2.2 ((z.block c (bY.1 G).1).trans G))
 have D:Hid (bz w _):=u.trans (z.mono u.size);have q:=bL ab;apply_assumption
 go_wp2_with(go_at_call 25;refine jD q.out ?_;rintro e w3 ⟨a6,a3,c3,rfl,S3,E3,B3⟩;refine dM ?_);delta aH;have J:bz w w3:=D.out.trans (B3.mono D.out.size);have f:=a.out.1.below a.out.1.low J;rw[UC] at E3;have L:=S3.fsm;have A:bB (ks.map Lf.er++[Fo.neg (Fo.eq x y)])=bB ks+1:=bQ
 rw[E3] at L;have NW:=rZ f bO c3 L a.out.2.1.ok;rw[A] at NW;have o:=bL (b9 J f);have ac:=bL NW;apply_assumption
 go_wp2_with(go_at_call 21;refine jD ac.out ?_;rintro e w4 ⟨pb,vb,kb,ta,tc,fv,lv,S,gs,rfl,F⟩;refine dM ?_);delta aH;rw[a.out.2.1.iO] at F;obtain⟨fa,fc,rfl⟩:=dZ F.row;have a2:bB gs=bB fs:=F.len;have c2:cz w4 pb 2 (aj fa (bB gs) fc):=F.pm.cells.cell (i:=2) bO;have a0:bB gs=bB ks+1:=by rw[a2];have:=uW (bB l) (ks.map Lf.er++[Fo.neg (Fo.eq x y)]) nF [];rw[a.out.2.1.iO] at this;simpa using this
 rw[a0] at c2;have AL:=Gt w4 pb fa (bB ks+1) fc bO c2;have ap:bB fs=bB ks+1:=bO
 have s:=bL (b9 F ap);apply_assumption
 go_wp2_with(go_at_call 23;refine AL.mono ?_;rintro e w5 ⟨rfl,R5,B5⟩;refine dM ?_);delta aH;have N5:=s.out.1.below B5;have ag:=R5.own (by rw[iu];omega);have hE:=N5.env o.out.2 ag;rw[iu] at hE;have MD:=Ci Fq base p ev nb fb l tc N5.pm hb hl (ah (az (hz w4) 0)) (bB ks+1) (aO (bB ks+1)) hE (by rw[<-s.out.2];exact a.out.2.1.fso) a.out.2.1.has a.out.2.1.vrp a.out.2.1.sd (λr _=>(r=ai↔C=aK)) 2 (bT _) (by rw[<-s.out.2];exact a.out.2.2.1);rw[iu] at MD;have ad:aB prog 22 #[pz pb,.slice (ah (az (hz w4) 0)) (bB ks+1) (bB ks+1)] w5 λe w'=>∃cv,e=aw (.tuple #[cv,.bool (!C)])∧Hid (bz w w'):=by
  refine MD.mono ?_;rintro e w6 ⟨r,Q,S',a7,hr,X6,_,_,B,O⟩;have h:bz w3 w5:=(N5.parts w5 (bW _ _)).2.1;have T:aC (hz w3) w5 w6:=X6.kept.below h.size λk hk=>N5.low k (cB hk);have R:=h.trans T;have U:bz w w6:=o.out.1.trans (R.mono o.out.1.size);cases r with
  |none=>rw[hr.1 rfl];exact⟨_,B rfl,U⟩
  |some t=>
   let⟨cb,g,e6,_⟩:=O t rfl;have hC:C=aL:=by
    cases C with
    |false=>rfl
    |true=>exact absurd (hr.2 rfl) bQ
   rw[hC];exact⟨_,e6,U⟩
 apply_assumption
 go_wp2_with(go_at_call 22;refine ad.mono ?_;rintro e w6 ⟨cv,rfl,H6⟩);go_ret2
 exact⟨rfl,H6.out⟩
