import Derived.Test.YtlehlgipbhfioaaGreatBe
import Derived.CellFam
import Derived.Lib.BitFns
namespace Go.Proofs.YtlehlgipbhfioaaGreat
set_option maxHeartbeats 6000000
set_option maxRecDepth 100000
set_option linter.all false
open Go.RowKit Go.Maps Go.Proofs.Tryz
open Go.Value renaming int->ae,slice->aj,pointer->ak,int->aS,slice->aT,ownBlock->aP
open Go.IntKind renaming i64->af
open Go.Obj renaming cells->aq,cells->aR
open Go.Ending renaming returned->aw
open Option renaming some->ah,none->ai
open List renaming range->aO,replicate->aN,length->bB
open Go.World renaming frozen?->bG,alloc->bC,cell?->aU,ownsRow->bD,setCell->aW,drewN->bF
open Go.RowKit renaming Below->aC,wrap64->aX,intOf->aG
open Go renaming Calls->aB,madeCells->aJ,World->ay,results->aI,Aside->aH,Value->aA,undef->aF,TypeId->aE,maxLen->aY
open Go.Instr renaming makeSlice->aV
open Go.Act renaming eval->bq,put->aQ
open Bool renaming true->aK,false->aL
open Decidable renaming decide->aM
section
variable{W w:ay}{A:Ad}{s s1:Sv}
theorem Fb(h:Mem W A s){f:Nat}(d:A.fY .wout=ah f)(l:Nat)(hl:l<2*s.n+2)(c o:Nat):
  ∃g i,cz W f l (.slice g (bB (s.gj l)) i)∧bG W (az f l)=aL∧bD W 0 274 2 (.slice g (bB (s.gj l)) i) (bB (s.gj l)) (iK A (s.gj l))∧
   ∀(j:ay)(O:Obj)(q:aA),bD j 0 274 2 q (bB (s.gj l)+1) (iK A (s.gj l)++[A.ptr (.clause c),i32 o])->(bC W O).grownBy j (aP (aT g (bB (s.gj l)) i))->(aP q=aP (aT g (bB (s.gj l)) i)∨∀k,aP q=ah k->(bC W O).heap.size<=k)->
    cz j f l (.slice g (bB (s.gj l)) i)∧bG j (az f l)=aL∧(∃b k,q=.slice (ah (az b 0)) (bB (s.gj l)+1) k)∧(∀r t,r≠.win l->A.fY r=ah t->j.heap[t]?=W.heap[t]?)∧∃v,Step W (aW j (az f l) q) A v (s.jz l c o)∧∀r,r≠.win l->v.fY r=A.fY r∧v.sp r=A.sp r:=by
 obtain⟨g,i,n⟩:=uz h (r:=.win l) rfl;have M:l<bB s.ws:=by rw[h.lw];exact hl
 have B:(eA A s .wout)[l]?=ah (.slice g (bB (s.gj l)) i):=by
  have e:s.ws[l]?=ah (s.gj l):=by grind[Sv.gj]
  show(s.ws.mapIdx _)[l]?=_;rw[jH,e];exact congrArg ah n
 have c1:=h.cell d B;have E:=h.frozen d l;have ow:=h.owns (r:=.win l) rfl;refine⟨g,i,c1,E,n▸ow,λj O q L y F=>?_⟩;rw[<-show A.jM (.win l) (kg s (.win l)) (lL (.win l))=.slice g (bB (s.gj l)) i from n] at y F;obtain⟨b,sp,D,G,I,J,u,x⟩:=h.grown (r:=.win l) rfl (news:=[A.ptr (.clause c),i32 o]) L y F;have hs:=(x .wout f dH d)
 have P:=h.Yf d l c o hl D G I J x;refine⟨(cL (a:=az f l) hs.1).trans c1,(jZ (a:=az f l) hs.1).trans E,⟨b,_,D⟩,λr t m z=>(x r t m z).1,A.up (.win l) b sp,⟨P,?_,λk C=>?_⟩,λr m=>⟨cC m,cC m⟩⟩
 .have K:bI A.gE W j:=gA ((bW _ W).alloc O) y (λk C=>⟨.win l,by
   have:aP (A.jM (.win l) (kg s (.win l)) (lL (.win l)))=A.fY (.win l):=by unfold Ad.jM;cases A.fY (.win l)<;>rfl
   rw[<-this];exact C⟩)
  exact K.setCell (p:=az f l) ⟨_,d⟩ _
 obtain⟨r,m⟩:=C;by_cases er:r=.win l
 .subst er;have:k=b:=by simpa[Ad.up] using m.symm
  subst this;obtain u|u:=u
  .exact cB ⟨_,u⟩
  exact cI u
 exact cB ⟨r,by simpa[Ad.up,er] using m⟩
theorem qE(w:ay)(a b:aA)(d:aE):∀j u,[a,b][j]?=ah u->aU (bC w (aq #[a,b] d)) ((az w.heap.size 0:Addr).add j)=ah u:=by intro j u f;have h:=World.alloc_heap_new w (aR #[a,b] d);have e:=ado (hz w) 0 j;simp_all
def yX:(prog.info? 274).map (λi=>(i.zero,i.size,i.bytes))=ah (ah (.agg #[ak ai,.int .i32 0]),2,16):=bV
theorem Sw(h:Mem w A s)(n:Nat)(B:A.fY .search=ah n)(c:Nat)(J:Nat)(y:A.fY (.clause c)=ah J)(a b:Nat)(rest:List Nat)(k:s.lits c=a::b::rest)(ha:a<2*s.n+2)(hb:b<2*s.n+2)(ap:a≠b)(G:∀l,bB (s.gj l)<=4398046511100):
  aB prog 125 #[pz n,pz J] w λe w'=>e=aw (.tuple #[])∧∃t,Step w w' A t (s.watch c)∧∀r,r≠.win a->r≠.win b->t.fY r=A.fY r∧t.sp r=A.sp r:=by
 obtain⟨q,C⟩:=h.fix .wout rfl;have hc:c<bB s.cl:=(h.cls c).1 ⟨_,y⟩;obtain⟨rb,L⟩:=(h.rows c).2 hc;have c1:=h.cell B (i:=1) rfl;simp only[Ad.jM,C,h.flat.2.1,dQ,gP,fH] at c1;have k0:=h.cell y (i:=0) rfl;simp only[Ad.jM,L,k,ed] at k0;have r0:=h.cell L (i:=0) (v:=i32 a) (by simp[eA,k]);have r1:=h.cell L (i:=1) (v:=i32 b) (by simp[eA,k]);unfold i32 at r0 r1;have Y:Hid (Mem w A s):=h;have a1:(0:Int)<(bB rest:Int)+1+1:=bO
 have a2:(1:Int)<(bB rest:Int)+1+1:=bO
 clear h;go_enter func125,ntmps125
 go_wp2;go_quiet(fail);have M1:Mem (bF w (nq+1)) A s:=Y.out.keep λ_ _=>rfl;have S1:Hid (Step w (bF w (nq+1)) A A s):=kI Y.out (nq+1);have zw:q<hz w:=Y.out.lt C;have zs:n<hz w:=Y.out.lt B;clear Y r0 r1 k0;obtain⟨ta,tc,p,x,V,Q⟩:=Fb M1 C a ha c b;have t1:cz w q a (.slice ta (bB (s.gj a)) tc):=p;have t2:bG w (az q a)=aL:=x;have ao:∀O,aU (bC (bF w (nq+1)) O) (az q a)=ah (.slice ta (bB (s.gj a)) tc):=λO=>(cL (a:=az q a) (dB _ O q zw)).trans p;have aa:∀O,aU (bC (bF w (nq+1)) O) (az n 1)=ah (aj (ah (az q 0)) (2*s.n+2) (2*s.n+2)):=λO=>(cL (a:=az n 1) (dB _ O n zs)).trans c1;clear p x;have Z:=bL Q;have OW:=bL V;have da:(a:Int)<2*(s.n:Int)+2:=bO
 obtain⟨i0,ab,ag,al,an⟩:=eB yX;have z:A.ptr (.clause c)=pz J:=by simp[Ad.ptr,y]
 rw[z] at Z;clear Q V M1;generalize D:bB (s.gj a)=wl at *;have ad:wl<=4398046511100:=D▸G a
 go_wp2
 go_cut[18] from 19 to 35 λ_ wx=>∃t,Step w wx A t (s.jz a c b)∧∀r,r≠.win a->t.fY r=A.fY r∧t.sp r=A.sp r
 case first=>
  go_region_law(first|(refine fe rfl (.tmp 29) (.tmp 33) 272 rfl 0 274 i0 _ 2 16 underlying272 ab ag al an rfl bS (aj ta wl tc) wl (iK A (s.gj a)) iC (by exact fT OW.out _) (az (hz w) 0) 1 1 [pz J,.int .i32 b] iC rfl (qE _ _ _ _) cM cJ bO bQ ?_;intro v8 w8 g d f;obtain⟨d1,g1,⟨b8,k8,N⟩,m,t,ST,j⟩:=Z.out w8 _ v8 g d f;subst N;have d2:aU w8 (az n 1)=ah (aj (ah (az q 0)) (2*s.n+2) (2*s.n+2)):=(cL (a:=az n 1) (m .search n dH B)).trans c1;have U:=bL (b9 ST j);clear ST j m g d f));all_goals
   try simp only[aQ,cD,cw,ct,cf,cN,cK]
   go_wp2;go_meet
   case rel=>exact⟨t,S1.out.trans U.out.1,U.out.2⟩
 case rest=>
  obtain⟨E,S2,u⟩:=hcut;clear Z OW t1 t2 ao aa c1 zw zs z D ad S1;have M:E.fY .search=ah n:=(u .search dH).1.trans B;have P:E.fY .wout=ah q:=(u .wout dH).1.trans C;have a0:E.fY (.clause c)=ah J:=(u (.clause c) dH).1.trans y;have F:Mem wc E (s.jz a c b):=S2.mem;have ac:(s.jz a c b).n=s.n:=rfl;have I:(s.jz a c b).gj b=s.gj b:=by rw[qI (by rw[<-show(s.jz a c b).ws.length=bB s.ws by simp[Sv.jz],F.lw,ac];exact ha),cC λe=>ap e.symm]
  have c1:=F.cell M (i:=1) rfl;simp only[Ad.jM,P,F.flat.2.1,dQ,gP,fH,ac] at c1;have M1:Mem (bF wc 1) E (s.jz a c b):=F.keep λ_ _=>rfl;have S3:Hid (Step w (bF wc 1) A E (s.jz a c b)):=S2.trans (kI F 1);have zw:q<hz wc:=F.lt P;have zs:n<hz wc:=F.lt M;obtain⟨R,S,p,x,V,Q⟩:=Fb M1 P b hb c a;rw[I] at p V Q;have t1:cz wc q b (.slice R (bB (s.gj b)) S):=p;have t2:bG wc (az q b)=aL:=x;have ao:∀O,aU (bC (bF wc 1) O) (az q b)=ah (.slice R (bB (s.gj b)) S):=λO=>(cL (a:=az q b) (dB _ O q zw)).trans p;have aa:∀O,aU (bC (bF wc 1) O) (az n 1)=ah (aj (ah (az q 0)) (2*s.n+2) (2*s.n+2)):=λO=>(cL (a:=az n 1) (dB _ O n zs)).trans c1;have z:E.ptr (.clause c)=pz J:=by simp[Ad.ptr,a0]
  rw[z] at Q;have Z:=bL Q;have OW:=bL V;have db:(b:Int)<2*(s.n:Int)+2:=bO
  have X:=bL u;clear p x V Q F M1 S2 u I;obtain⟨w1,rfl⟩:=bK wc;generalize D:bB (s.gj b)=T at *;have ad:T<=4398046511100:=D▸G b;apply_assumption
  go_wp2;go_region_law(first|(refine fe rfl (.tmp 47) (.tmp 51) 272 rfl 0 274 i0 _ 2 16 underlying272 ab ag al an rfl bS (aj R T S) T (iK E (s.gj b)) iC (by exact fT OW.out _) (az (hz w1) 0) 1 1 [pz J,.int .i32 a] iC rfl (qE _ _ _ _) cM cJ bO bQ ?_;intro v8 w8 g d f;obtain⟨d1,g1,⟨b8,k8,N⟩,m,t,ST,j⟩:=Z.out w8 _ v8 g d f;subst N;have d2:aU w8 (az n 1)=ah (aj (ah (az q 0)) (2*s.n+2) (2*s.n+2)):=(cL (a:=az n 1) (m .search n dH M)).trans c1;have U:=bL (b9 ST j);clear ST j m g d f));all_goals
   try simp only[aQ,cD,cw,ct,cf,cN,cK]
   go_wp2;refine⟨rfl,.tuple #[],by simp[aI,results125],rfl,t,?_,λr h1 h2=>⟨(U.out.2 r h2).1.trans (X.out r h1).1,(U.out.2 r h2).2.trans (X.out r h1).2⟩⟩;have:s.watch c=(s.jz a c b).jz b c a:=by unfold Sv.watch;rw[k];rfl
   rw[this];exact S3.out.trans U.out.1
variable{c b gone l o:Nat}
theorem nI(d:c<bB s.cl)(ls a):({s with cl:=s.cl.set c ls}:Sv).lits a=if a=c then ls else s.lits a:=by grind[Sv.lits]
theorem Mem.Ft(h:Mem W A s){rb:Nat}(a:A.fY (.crow c)=ah rb)(i x)(j:i<bB (s.lits c)):
  Mem (aW W (az rb i) (i32 x)) A {s with cl:=s.cl.set c ((s.lits c).set i x)}:=by
 have f:c<bB s.cl:=(h.rows c).1 ⟨_,a⟩;have hl:=nI f ((s.lits c).set i x);refine {h with has:=h.set a i (i32 x) ?_ λg k=>?_,cls:=λd=>by simpa using h.cls d,rows:=λd=>by simpa using h.rows d}
 .simp_all[eA]
 cases g<;>first|rfl|skip
 case clause d=>
  simp only[eA];rw[hl];by_cases e:d=c
  .subst e;rw[cY rfl,gd]
  rw[cC e]
 grind[eA]
def Step.cell{a:ay}(d:Step w a A A s){r:nW}(e:A.fY r=ah b)(i v)(M:Mem (aW a (az b i) v) A s1):Step w (aW a (az b i) v) A A s1:=
 d.trans ⟨M,(bW _ a).setCell (p:=az b i) ⟨_,e⟩ _,λ_ f=>cB f⟩
theorem wQ{s s1:Sv}(a:s1.jg=s.jg):∀(ls:List Nat)(i:Nat),s1.free ls i=s.free ls i
 | [],_=>rfl
 |l::ls,i=>by
  have e:s1.val l=s.val l:=by unfold Sv.val;rw[a]
  rw[Sv.free,Sv.free,e,wQ a ls (i+1)]
variable{rest:List Nat}
theorem I9{d e:Nat}(h:Sv.front (s.lits c) gone=d::e::rest)(a:s1={s with cl:=s.cl.set c (d::e::rest)}):
  s.gH c gone=if s1.val d=1 then(aL,s1) else match s1.free rest 2 with
   |none=>(aL,s1)
   |some i=>(aK,Sv.jz {s1 with cl:=s1.cl.set c (((d::e::rest).set 1 ((d::e::rest)[i]?.getD 0)).set i gone)} ((d::e::rest)[i]?.getD 0) c d):=by
 have f:s1.jg=s.jg:=by rw[a]
 have g:s1.val d=s.val d:=by unfold Sv.val;rw[f]
 unfold Sv.gH;rw[h,g,wQ f];simp only[jI,eQ,KT,lT]
 split
 .rw[a]
 cases s.free rest 2 with
 |none=>rw[a]
 |some i=>rw[a];simp
theorem UE(w){A}(s)(h:Mem w A s)(E)(R:A.fY .search=ah E)(c cb)(a0:A.fY (.clause c)=ah cb)(l0 F rest)(g:s.lits c=l0::F::rest)(cm:∀l∈s.lits c,l<2*s.n+2)(gone)(cj:gone<2*s.n+2)(da:bB (s.lits c)<=4002)(bj:∀l,bB (s.gj l)<=4398046511100):
  aB prog 241 #[pz E,pz cb,i32 gone] w λe w'=>e=aw (.bool (s.gH c gone).1)∧∃A',Step w w' A A' (s.gH c gone).2∧∀r,(∀l,s.val l≠-1->r≠.win l)->A'.fY r=A.fY r∧A'.sp r=A.sp r:=by
 let⟨vb,a4⟩:=h.fix .jg rfl;have hc:c<bB s.cl:=(h.cls c).1 ⟨_,a0⟩;let⟨rb,f⟩:=(h.rows c).2 hc;have c0:=h.cell R (i:=0) rfl;simp only[Ad.jM,a4,h.flat.1,dQ,gP,fH] at c0;have k0:=h.cell a0 (i:=0) rfl;simp only[Ad.jM,f,g,ed] at k0;have r0:=h.cell f (i:=0) (v:=i32 l0) (by simp[eA,g]);have r1:=h.cell f (i:=1) (v:=i32 F) (by simp[eA,g]);have f0:=h.frozen f 0;have f1:=h.frozen f 1;unfold i32 at r0 r1⊢;generalize dc:bB rest+1+1=len at k0;have ck:(1:Int)<(len:Int):=bO
 simp only[Nat.div_one] at k0;generalize c8:len+bB (A.sp (.crow c))=cy at k0;have HM:Hid (Mem w A s):=h;have db:bB (s.lits c)=bB rest+2:=by rw[g];rfl
 clear h;let⟨i0,be,b6,b7,bR⟩:=eB yX;by_cases a1:l0=gone
 case' pos=>
  have d1:((l0:Int)==(gone:Int))=aK:=by rw[a1];simp
  go_enter func241,ntmps241
  go_wp2;have hF:Sv.front (s.lits c) gone=F::gone::rest:=by grind[Sv.front]
  obtain⟨s1,y⟩:=bK (({s with cl:=s.cl.set c (F::gone::rest)}:Sv));have M1:Mem (aW (aW w (az rb 0) (.int .i32 F)) (az rb 1) (.int .i32 gone)) A s1:=by
   have h1:=HM.out.Ft f 0 F bO;have h2:=h1.Ft f 1 gone (by rw[nI hc,cY rfl,gd];omega);rw[nI hc,cY rfl,g] at h2;rw[y];have e:(({s with cl:=s.cl.set c ((l0::F::rest).set 0 F)}:Sv).cl.set c (((l0::F::rest).set 0 F).set 1 gone))=s.cl.set c (F::gone::rest):=bQ
   rw[e] at h2;exact h2
  have S1:Step w (aW (aW w (az rb 0) (.int .i32 F)) (az rb 1) (.int .i32 gone)) A A s1:=⟨M1,((bW _ w).setCell (p:=az rb 0) ⟨_,f⟩ _).setCell (p:=az rb 1) ⟨_,f⟩ _,λ_ hk=>cB hk⟩
  have hm:s1.lits c=F::gone::rest:=by rw[y,nI hc,cY rfl]
  have U:∀l∈F::gone::rest,l<2*s.n+2:=λl hl=>by grind
  have a2:s1.n=s.n:=by rw[y]
  have b0:s1.ws=s.ws:=by rw[y]
  have bx:s1.jg=s.jg:=by rw[y]
  generalize(aW (aW w (az rb 0) (.int .i32 F)) (az rb 1) (.int .i32 gone))=w1 at *;obtain⟨n,I⟩:=bK F;obtain⟨V,J⟩:=bK gone;rw[<-I,<-J] at hm U;rw[<-I] at hF;rw[<-I,<-J] at y;have ag:Hid _:=I9 (gone:=gone) (by rw[hF,J]) y;clear y hF;clear I J a1 d1 r0 r1 f0 f1 c0 k0 HM g
 case' neg=>
  have d1:((l0:Int)==(gone:Int))=aL:=cG
  go_enter func241,ntmps241
  go_wp2;have hF:Sv.front (s.lits c) gone=l0::F::rest:=by grind[Sv.front]
  obtain⟨s1,y⟩:=bK (({s with cl:=s.cl.set c (l0::F::rest)}:Sv));have Z:s1=s:=by
   rw[y];have e:s.cl.set c (l0::F::rest)=s.cl:=by grind[Sv.lits,List.getElem?_eq_getElem,List.set_getElem_self]
   rw[e]
  have M1:Mem w A s1:=Z▸HM.out;have S1:Step w w A A s1:=⟨M1,bW _ w,λ_ hk=>cB hk⟩
  have hm:s1.lits c=l0::F::rest:=by rw[Z];exact g
  have U:∀l∈l0::F::rest,l<2*s.n+2:=by rw[<-g];exact cm
  have a2:s1.n=s.n:=by rw[Z]
  have b0:s1.ws=s.ws:=by rw[Z]
  have bx:s1.jg=s.jg:=by rw[Z]
  have ag:Hid _:=I9 (gone:=gone) hF y;clear y hF Z;clear a1 d1 r0 r1 f0 f1 c0 k0 HM g;obtain⟨w1,rfl⟩:=bK w;generalize I:l0=n at *;generalize J:F=V at *;clear I J
 all_goals
  have an:s1.n=s.n:=a2;have cn:n<2*s.n+2:=U n bQ;have a9:=M1.cell R (i:=0) rfl;simp only[Ad.jM,a4,M1.flat.1,dQ,gP,fH,an] at a9;have a5:=M1.cell f (i:=0) (v:=i32 n) (by simp[eA,hm]);have ch:=M1.frozen f 1;have ca:=M1.cell f (i:=1) (v:=i32 V) (by simp[eA,hm]);unfold i32 at a5 ca;have VV:Hid (∀l,l<2*s.n+2->cz w1 vb l (.int .i8 (s1.val l))):=λl hl=>by
   refine M1.cell a4 ?_;show(s1.jg.map _)[l]?=_;have cE:l<bB s1.jg:=by rw[M1.lv,an];exact hl
   grind[Sv.val]
  have v0:=VV.out n cn;have c7:(n:Int)<2*(s.n:Int)+2:=bO
  have X:=bL M1;have al:=bL S1;clear M1 S1;by_cases hv:s1.val n=1
  .rw[hv] at v0;go_quiet(fail)
   go_wp2;go_ret;have e:=ag.out;rw[cY hv] at e;rw[e];exact⟨rfl,A,al.out.trans (kI X.out _),λ_ _=>⟨rfl,rfl⟩⟩
  have dv:(s1.val n==1)=aL:=by simpa using hv
  have e9:=ag.out;rw[cC hv] at e9;have Q:=bL e9;clear e9 ag hv;generalize s1.val n=vm at *;go_quiet(fail)
  go_wp2;clear v0 dv
  go_loopw[8] (λt8 W=>∃i m:Nat,2<=i∧i<=len∧t8=iz i∧W=bF w1 m∧Hid (s1.free ((n::V::rest).drop i) i=s1.free rest 2)) λt8 _=>len-(aG t8).toNat
  case atStart=>exact⟨2,nq,by omega,by omega,rfl,rfl,rfl⟩
  case round=>
   obtain⟨i,m,ck,c9,rfl,rfl,HI⟩:=hrel;by_cases cv:i<len
   .have di:=bM i len;have G:i<bB (n::V::rest):=bX
    have bb:=dP G;have k:=HI.out;rw[bb,Sv.free] at k;have bi:=U _ (dw G);have ri:=X.out.cell f (i:=i) (v:=i32 ((n::V::rest)[i])) (by show((s1.lits c).map i32++A.sp (.crow c))[i]?=_;rw[hm,df (by simpa using G),fN,bP G];rfl)
    have fi:=X.out.frozen f i;unfold i32 at ri;have vi:=VV.out _ bi;have bc:(n::V::rest)[i]?.getD 0=(n::V::rest)[i]:=by rw[bP G];rfl
    have a7:=bL bc;clear bb bc HI;generalize(n::V::rest)[i]=d at *;have c6:(d:Int)<2*(s.n:Int)+2:=bO
    by_cases T:s1.val d=-1
    .rw[T] at vi;rw[cC λe=>e T] at k;have ad:=bL k;have de:IntKind.i64.wrap ((i:Int)+1)=(i:Int)+1:=by rw[cX];omega
     clear k Q VV
     go_wp2;exact⟨⟨i+1,m,by omega,by omega,by simp,by first|rfl|rw[Sb],ad.out⟩,by simp[aG];omega⟩
    have ce:(s1.val d != -1)=aK:=by simpa using T
    rw[cY T] at k;have ad:=bL k;clear k;have cc:Hid (s.val d≠-1):=by unfold Sv.val at T⊢;rw[<-bx];exact T
    generalize s1.val d=vl at *;clear T;have ci:bG (aW (bF w1 m) (az rb 1) (.int .i32 d)) (az rb i)=aL:=(World.frozen?_setCell _ _ _ _).trans fi;have cp:aU (aW (bF w1 m) (az rb 1) (.int .i32 d)) (az rb i)=ah (.int .i32 d):=by rw[ym _ _ _ _ (by intro e;cases e;omega)];exact ri
    go_wp2;have Y:Mem (aW (aW (bF w1 m) (az rb 1) (.int .i32 d)) (az rb i) (.int .i32 gone)) A {s1 with cl:=s1.cl.set c (((n::V::rest).set 1 d).set i gone)}:=by
     have h0:Mem (bF w1 m) A s1:=X.out.keep λ_ _=>rfl;have ba:c<bB s1.cl:=(h0.rows c).1 ⟨_,f⟩;have h1:=h0.Ft f 1 d (by rw[hm];simp);have h2:=h1.Ft f i gone (by rw[nI ba,cY rfl,gd,hm];simpa using G);rw[nI ba,cY rfl,hm] at h2;have e:(({s1 with cl:=s1.cl.set c ((n::V::rest).set 1 d)}:Sv).cl.set c (((n::V::rest).set 1 d).set i gone))=s1.cl.set c (((n::V::rest).set 1 d).set i gone):=bQ
     rw[e] at h2;exact h2
    have S2:Step w1 (aW (aW (bF w1 m) (az rb 1) (.int .i32 d)) (az rb i) (.int .i32 gone)) A A {s1 with cl:=s1.cl.set c (((n::V::rest).set 1 d).set i gone)}:=⟨Y,(((bW _ w1).drewN m).setCell (p:=az rb 1) ⟨_,f⟩ _).setCell (p:=az rb i) ⟨_,f⟩ _,λ_ hk=>cB hk⟩
    obtain⟨s2,ab⟩:=bK (({s1 with cl:=s1.cl.set c (((n::V::rest).set 1 d).set i gone)}:Sv));rw[<-ab] at Y S2;have bo:s2.n=s.n:=by rw[ab];exact a2
    have ap:s2.gj d=s.gj d:=by rw[ab];unfold Sv.gj;rw[b0]
    have j:aU (aW (aW (bF w1 m) (az rb 1) (.int .i32 d)) (az rb i) (.int .i32 gone)) (az rb 0)=ah (.int .i32 n):=by rw[ym _ _ _ _ (by intro e;cases e;omega),ym _ _ _ _ dH];exact a5
    have HE:Hid (s.gH c gone=(aK,s2.jz d c n)):=by have e9:=Q.out;rw[<-ad.out] at e9;simp only[a7.out] at e9;rw[ab];exact e9
    have a8:Hid _:=al.out.trans S2;clear S2 ab Q ad a7 al X ci cp fi ri a5 ch ca VV a9 vi ce;generalize(aW (aW (bF w1 m) (az rb 1) (.int .i32 d)) (az rb i) (.int .i32 gone))=w2 at *;let⟨x,ac⟩:=Y.fix .wout rfl;have c1:=Y.cell R (i:=1) rfl;simp only[Ad.jM,ac,Y.flat.2.1,dQ,gP,fH,bo] at c1;have M3:Mem (bF w2 1) A s2:=Y.keep λ_ _=>rfl;have cd:Hid _:=a8.out.trans (kI Y 1);have zw:x<hz w2:=Y.lt ac;have t:x≠E:=λe=>by have:=Y.inj .wout .search x ac (e▸R);cases this
    have u:x≠rb:=λe=>by have:=Y.inj .wout (.crow c) x ac (e▸f);cases this
    have zs:E<hz w2:=Y.lt R;have zr:rb<hz w2:=Y.lt f;let⟨ta,tc,a6,cr,t3,t4⟩:=Fb M3 ac d (by rw[bo];exact bi) c n;rw[ap] at a6 t3 t4;have t1:cz w2 x d (.slice ta (bB (s.gj d)) tc):=a6;have L:∀O,aU (bC (bF w2 1) O) (az E 1)=ah (aj (ah (az x 0)) (2*s.n+2) (2*s.n+2)):=λO=>(cL (a:=az E 1) (dB _ O E zs)).trans c1;have ao:A.ptr (.clause c)=pz cb:=by simp[Ad.ptr,a0]
    rw[ao] at t4;have HT:=bL t4;have OW:=bL t3;clear a6 cr t3 t4 Y M3 a8 ap ao;generalize co:bB (s.gj d)=wl at *;have dd:wl<=4398046511100:=co▸bj d;have cx:0<len:=bO
    have P:∀O,aU (bC (bF w2 1) O) (az rb 0)=ah (.int .i32 n):=λO=>(cL (a:=az rb 0) (dB _ O rb zr)).trans j;refine wp_region_noPanic ?_;refine wp_region_held_drew (S:=(λW=>aU W (az E 1)=ah (aj (ah (az x 0)) (2*s.n+2) (2*s.n+2))∧cz W rb 0 (.int .i32 n))) bV ?_ λhHeld=>?_
    ·(first|exact⟨c1,j⟩|exact⟨L _,P _⟩|exact⟨M,N⟩|exact⟨(World.cell?_setCell_far _ (az x d) (az E 1) _ t).trans M,(World.cell?_setCell_far _ (az x d) (az rb 0) _ u).trans N⟩)
    refine tk 0 ?_;refine tk 1 ?_;refine tk 2 ?_;refine tk 3 ?_;refine tk 4 ?_;refine tk 5 ?_;refine tk 6 ?_;refine tk 7 ?_;refine tk 8 ?_;refine tk 9 ?_;refine tk 10 ?_;refine tk 12 ?_;refine tk 13 ?_;refine tk 14 ?_;refine tk 15 ?_;refine tk 16 ?_;refine wpAnyH_ready (rs:=[11,17]) bV bQ ?_;refine AllReadyH.cons rfl (λK hK=>?_) (AllReadyH.cons rfl (λK hK=>?_) AllReadyH.nil);try simp only[cD,cw,ct]
    go_simp;refine hK.out _ _ ?_ λhHeld=>?_
    ·(first|exact⟨c1,j⟩|exact⟨L _,P _⟩|exact⟨M,N⟩|exact⟨(World.cell?_setCell_far _ (az x d) (az E 1) _ t).trans M,(World.cell?_setCell_far _ (az x d) (az rb 0) _ u).trans N⟩)
    clear hK K;try simp only[aQ,cD,cw,ct,cf,cK,cN]
    refine rd 17 ?_ λhHeld=>?_
    ·(first|exact⟨c1,j⟩|exact⟨L _,P _⟩|exact⟨M,N⟩|exact⟨(World.cell?_setCell_far _ (az x d) (az E 1) _ t).trans M,(World.cell?_setCell_far _ (az x d) (az rb 0) _ u).trans N⟩)
    refine wpAnyH_ready (rs:=[18]) bV bQ ?_;refine AllReadyH.cons rfl (λK hK=>?_) AllReadyH.nil;refine fe rfl (.tmp 73) (.tmp 79) 272 rfl 0 274 i0 _ 2 16 underlying272 be b6 b7 bR rfl bS (aj ta wl tc) wl (iK A (s.gj d)) iC (by exact fT OW.out _) (az (hz w2) 0) 1 1 [pz cb,.int .i32 n] iC rfl (qE _ _ _ _) cM cJ bO bQ ?_;intro v8 w8 C q z;let⟨d1,g1,⟨b8,k8,a3⟩,B,A',ST,D⟩:=HT.out w8 _ v8 C q z;subst a3;have M:aU w8 (az E 1)=ah (aj (ah (az x 0)) (2*s.n+2) (2*s.n+2)):=(cL (a:=az E 1) (B .search E dH R)).trans c1;have N:cz w8 rb 0 (.int .i32 n):=(cL (a:=az rb 0) (B (.crow c) rb dH f)).trans j;have HF:=bL (b9 ST D);clear ST D B C q z;refine hK.out _ _ ?_ λhHeld=>?_
    ·(first|exact⟨c1,j⟩|exact⟨L _,P _⟩|exact⟨M,N⟩|exact⟨(World.cell?_setCell_far _ (az x d) (az E 1) _ t).trans M,(World.cell?_setCell_far _ (az x d) (az rb 0) _ u).trans N⟩)
    clear hK K;try simp only[aQ,cD,cw,ct,cf,cK,cN]
    refine tk 19 ?_;refine rd 20 ?_ λhHeld=>?_
    ·(first|exact⟨c1,j⟩|exact⟨L _,P _⟩|exact⟨M,N⟩|exact⟨(World.cell?_setCell_far _ (az x d) (az E 1) _ t).trans M,(World.cell?_setCell_far _ (az x d) (az rb 0) _ u).trans N⟩)
    rotate_left 1;try simp only[cD,cw,ct]
    go_simp;refine hK.out _ _ ?_ λhHeld=>?_
    ·(first|exact⟨c1,j⟩|exact⟨L _,P _⟩|exact⟨M,N⟩|exact⟨(World.cell?_setCell_far _ (az x d) (az E 1) _ t).trans M,(World.cell?_setCell_far _ (az x d) (az rb 0) _ u).trans N⟩)
    clear hK K;try simp only[aQ,cD,cw,ct,cf,cK,cN]
    refine rd 11 ?_ λhHeld=>?_
    ·(first|exact⟨c1,j⟩|exact⟨L _,P _⟩|exact⟨M,N⟩|exact⟨(World.cell?_setCell_far _ (az x d) (az E 1) _ t).trans M,(World.cell?_setCell_far _ (az x d) (az rb 0) _ u).trans N⟩)
    refine wpAnyH_ready (rs:=[18]) bV bQ ?_;refine AllReadyH.cons rfl (λK hK=>?_) AllReadyH.nil;refine fe rfl (.tmp 73) (.tmp 79) 272 rfl 0 274 i0 _ 2 16 underlying272 be b6 b7 bR rfl bS (aj ta wl tc) wl (iK A (s.gj d)) iC (by exact fT OW.out _) (az (hz w2) 0) 1 1 [pz cb,.int .i32 n] iC rfl (qE _ _ _ _) cM cJ bO bQ ?_;intro v8 w8 C q z;let⟨d1,g1,⟨b8,k8,a3⟩,B,A',ST,D⟩:=HT.out w8 _ v8 C q z;subst a3;have M:aU w8 (az E 1)=ah (aj (ah (az x 0)) (2*s.n+2) (2*s.n+2)):=(cL (a:=az E 1) (B .search E dH R)).trans c1;have N:cz w8 rb 0 (.int .i32 n):=(cL (a:=az rb 0) (B (.crow c) rb dH f)).trans j;have HF:=bL (b9 ST D);clear ST D B C q z;refine hK.out _ _ ?_ λhHeld=>?_
    ·(first|exact⟨c1,j⟩|exact⟨L _,P _⟩|exact⟨M,N⟩|exact⟨(World.cell?_setCell_far _ (az x d) (az E 1) _ t).trans M,(World.cell?_setCell_far _ (az x d) (az rb 0) _ u).trans N⟩)
    clear hK K;try simp only[aQ,cD,cw,ct,cf,cK,cN]
    refine tk 19 ?_;refine rd 20 ?_ λhHeld=>?_
    ·(first|exact⟨c1,j⟩|exact⟨L _,P _⟩|exact⟨M,N⟩|exact⟨(World.cell?_setCell_far _ (az x d) (az E 1) _ t).trans M,(World.cell?_setCell_far _ (az x d) (az rb 0) _ u).trans N⟩)
    rotate_left 1;all_goals refine wpAnyH_done bV (NoPanic.normal ?_) _
    all_goals
     try simp only[aQ,cD,cw,ct,cf,cN,cK]
     go_wp2;refine⟨rfl,.bool aK,by simp[aI,results241],?_⟩;rw[HE.out];exact⟨rfl,A',cd.out.trans HF.out.1,λr hr=>HF.out.2 r (hr d cc.out)⟩
   have di:=bN i len;have aa:s1.free rest 2=ai:=by rw[<-HI.out,sA bX];rfl
   have e9:=Q.out;rw[aa] at e9;have HR:=bL e9;clear e9 Q VV aa HI
   go_wp2;go_ret;rw[HR.out];exact⟨rfl,A,al.out.trans (kI X.out _),λ_ _=>⟨rfl,rfl⟩⟩
def Sv.gD(s:Sv)(l:Nat)(X:List (Nat×Nat)):Sv:={s with ws:=s.ws.set l X}
theorem jx(hl:l<bB s.ws)(X a):(s.gD l X).gj a=if a=l then X else s.gj a:=by grind[Sv.gD,Sv.gj]
theorem vy(hl:l<bB s.ws):s.gD l (s.gj l)=s:=by simp_all[Sv.gD,Sv.gj]
theorem free_spec{s:Sv}:∀{ls:List Nat}{k i:Nat},s.free ls k=ah i->∃l,ls[i-k]?=ah l∧k<=i∧s.val l≠-1
 | [],_,_,h=>by simp[Sv.free] at h
 |l::ls,k,i,h=>by
  rw[Sv.free] at h
  split at h
  .grind
  let⟨f,a,d,e⟩:=free_spec h;grind
theorem EC{s:Sv}:∀{ls:List Nat}{k:Nat},s.free ls k=ai->∀l∈ls,s.val l=-1
 | [],_,_=>by simp
 |l::ls,k,h=>by
  rw[Sv.free] at h
  split at h
  .cases h
  next e=>
  intro d a;obtain rfl|a:=fA.1 a
  .omega
  exact EC h d a
theorem zI{a:Nat}(hl:s.lits c=a::b::rest)(t:gone=a∨gone=b):
  ∃d,(d=a∧gone=b∨d=b∧gone=a)∧
   (s.gH c gone=(aL,{s with cl:=s.cl.set c (d::gone::rest)})∧(s.val d=1∨∀l∈rest,s.val l=-1)∨
    ∃j f,rest[j]?=ah f∧s.val f≠-1∧s.val d≠1∧s.gH c gone=(aK,Sv.jz {s with cl:=s.cl.set c (d::f::rest.set j gone)} f c d)):=by
 have h:∀d,Sv.front (s.lits c) gone=d::gone::rest->(s.gH c gone=(aL,{s with cl:=s.cl.set c (d::gone::rest)})∧(s.val d=1∨∀l∈rest,s.val l=-1)∨
    ∃j f,rest[j]?=ah f∧s.val f≠-1∧s.val d≠1∧s.gH c gone=(aK,Sv.jz {s with cl:=s.cl.set c (d::f::rest.set j gone)} f c d)):=by
  intro d q;unfold Sv.gH;rw[q];simp only[jI,eQ,KT,lT]
  split
  .next g=>exact cB ⟨rfl,cB g⟩
  next g=>
  cases m:s.free rest 2 with
  |none=>exact cB ⟨rfl,cI (EC m)⟩
  |some i=>
   let⟨l,k,r,n⟩:=free_spec m;refine cI ⟨i-2,l,k,n,g,?_⟩;obtain⟨j,rfl⟩:∃j,i=j+2:=⟨i-2,by omega⟩
   have p:rest[j]?=ah l:=by simpa using k
   simp[p]
 by_cases e:a=gone
 .refine⟨b,cI ⟨rfl,e.symm⟩,h b ?_⟩;unfold Sv.front;rw[hl,cY (by simpa using e)];simp
 grind[Sv.front]
def SC(s:Sv)(l:Nat)(X:List (Nat×Nat))(a:Nat):(s.gD l X).val a=s.val a:=rfl
theorem RH{g:Nat}(a:l≠g)(c o X):(s.gD g X).jz l c o=(s.jz l c o).gD g X:=by grind[Sv.jz,Sv.gD,Sv.gj,List.getElem?_set_ne,List.set_comm]
theorem Mj(n:s.val gone=-1)(X):
  (s.gD gone X).gH c gone=((s.gH c gone).1,(s.gH c gone).2.gD gone X):=by
 have a:∀ls k,(s.gD gone X).free ls k=s.free ls k:=λls k=>wQ (s:=s) (s1:=s.gD gone X) rfl ls k;unfold Sv.gH;simp only[show(s.gD gone X).lits c=s.lits c from rfl,a,SC]
 split
 .rfl
 cases f:s.free ((Sv.front (s.lits c) gone).drop 2) 2 with
 |none=>rfl
 |some i=>
  obtain⟨l,g,h,m⟩:=free_spec f;obtain⟨j,rfl⟩:∃j,i=j+2:=⟨i-2,by omega⟩
  have e:(Sv.front (s.lits c) gone)[j+2]?=ah l:=cG
  simp only[e,eQ];have d:l≠gone:=cG
  exact congrArg _ (RH (s:={s with cl:=s.cl.set c (((Sv.front (s.lits c) gone).set 1 l).set (j+2) gone)}) d c ((Sv.front (s.lits c) gone)[0]?.getD 0) X)
structure Fit(s:Sv):Prop where
 lv:bB s.jg=2*s.n+2
 lw:bB s.ws=2*s.n+2
 wD:∀l,l<2*s.n+2->s.val (lk l)=- s.val l
 KV:∀l,s.val l=-1∨s.val l=0∨s.val l=1
 on:∀l,l∈s.dX↔(l<2*s.n+2∧s.val l=1)
 nd:s.dX.Nodup
 cls:∀c,(s.lits c).Nodup∧∀l∈s.lits c,l<2*s.n+2
 Lh:∀l,((s.gj l).map Prod.fst).Nodup
 gj:∀l p,p∈s.gj l->p.1<bB s.cl∧p.2∈s.lits p.1∧∃a b rest,s.lits p.1=a::b::rest∧(l=a∨l=b)
theorem xG(l):lk (lk l)=l:=by grind[lk]
theorem Uq(l):lk l≠l:=by grind[lk]
theorem qd{l:List Nat}{n:Nat}(a:l.Nodup)(hl:∀x∈l,x<n):bB l<=n:=by have h:=tI a (l₂:=aO n) λx d=>j6.2 (hl x d);simpa using h
def Fit.ur(h:Fit s):bB s.dX<=2*s.n+2:=qd h.nd λx a=>((h.on x).1 a).1
def Fit.YJ(h:Fit s)(c):bB (s.lits c)<=2*s.n+2:=qd (h.cls c).1 (h.cls c).2
theorem Fit.Ln(h:Fit s)(l):bB (s.gj l)<=bB s.cl:=by
 have:=qd (h.Lh l) (n:=bB s.cl) (λx a=>by obtain⟨p,hp,rfl⟩:=gI.1 a;exact(h.gj l p hp).1)
 grind
theorem qJ(h:Fit s)(hl:l<2*s.n+2)(a):(s.assign l).val a=if a=l then 1 else if a=lk l then -1 else s.val a:=by
 unfold Sv.assign Sv.val;simp only;by_cases e:a=lk l
 .subst e;rw[lE (by simp[h.lv];exact BY hl),cC (Uq l),cY rfl];rfl
 rw[uh λx=>e x.symm,cC e];by_cases d:a=l
 .subst d;rw[lE (by rw[h.lv];exact hl),cY rfl];rfl
 grind
theorem Fit.assign(h:Fit s)(hl:l<2*s.n+2)(p:s.val l=0):Fit (s.assign l):=by
 have V:=qJ h hl;have m:=Uq l;have n:=xG l;refine⟨by simp[Sv.assign,h.lv],h.lw,λd i=>?_,λd=>?_,λd=>?_,?_,h.cls,h.Lh,h.gj⟩
 .rw[V,V];by_cases g:d=l
  .grind
  by_cases f:d=lk l
  .grind
  rw[cC (λe=>f (by rw[<-e,xG])),cC (λe=>g (by grind[xG])),cC g,cC f];exact h.wD d i
 .rw[V]
  split
  .omega
  split
  .omega
  exact h.KV d
 .show d∈s.dX++[l]↔d<2*s.n+2∧_;rw[V,cU,dL,h.on];by_cases g:d=l
  .omega
  by_cases f:d=lk l
  .subst f;have:=h.wD l hl;omega
  omega
 show(s.dX++[l]).Nodup;rw[sx];refine⟨h.nd,by simp,λa k b j=>?_⟩;simp at j;subst j;rintro rfl;have:=((h.on _).1 k).2;omega
variable{stay:List (Nat×Nat)}
theorem Fit.gH{rest:List (Nat×Nat)}(D:gone<bB s.ws)(h:Fit (s.gD gone (stay++(c,o)::rest)))(hg:s.val gone=-1):
  (s.gH c gone).2.n=s.n∧(s.gH c gone).2.jg=s.jg∧(s.gH c gone).2.dX=s.dX∧(s.gH c gone).2.cl.length=bB s.cl∧(s.gH c gone).2.ws.length=bB s.ws∧
  ((s.gH c gone).1=aK->Fit ((s.gH c gone).2.gD gone (stay++rest)))∧
  ((s.gH c gone).1=aL->∃d r,(s.gH c gone).2.lits c=d::r∧d<2*s.n+2∧Fit ((s.gH c gone).2.gD gone (stay++(c,d)::rest))):=by
 have W:=jx D (stay++(c,o)::rest);let⟨O,ho,a,b,r,hl,C⟩:=h.gj gone (c,o) cG;have m:=h.cls c;have O:c<bB s.cl:=O;have hl:s.lits c=a::b::r:=hl;have m:(s.lits c).Nodup∧∀l∈s.lits c,l<2*s.n+2:=m;rw[hl] at m;have ad:a≠b:=λe=>by grind
 let⟨d,ap,t⟩:=zI hl C;have X:∀x∈r,x≠a∧x≠b:=cG
 have i:∀x,x∈a::b::r↔x∈d::gone::r:=cG
 have q:(d::gone::r).Nodup:=cG
 have I:d<2*s.n+2:=cG
 have aa:gone<2*s.n+2:=cG
 have a0:d≠gone:=bO
 have J:=h.Lh gone;rw[W,cY rfl] at J;simp only[fZ,iG] at J;have Q:∀p∈stay++rest,p.1≠c:=cG
 have ac:((stay++rest).map Prod.fst).Nodup:=cG
 have k:∀l p,l≠gone->p∈s.gj l->p.1<bB s.cl∧p.2∈s.lits p.1∧∃a b rest,s.lits p.1=a::b::rest∧(l=a∨l=b):=λl p G hp=>h.gj l p cG;have Y:∀l,l≠gone->((s.gj l).map Prod.fst).Nodup:=λl G=>by have:=h.Lh l;grind
 have E:∀p∈stay++rest,p.1<bB s.cl∧p.2∈s.lits p.1∧∃a b rest,s.lits p.1=a::b::rest∧(gone=a∨gone=b):=λp hp=>h.gj gone p cG
 obtain⟨U,hv⟩|⟨j,f,hj,an,hv,U⟩:=t
 .rw[U];have L:=nI O (d::gone::r);refine⟨rfl,rfl,rfl,by simp,rfl,λe=>(by cases e),λ_=>⟨d,gone::r,by grind,I,?_⟩⟩;have M:=jx (s:={s with cl:=s.cl.set c (d::gone::r)}) D (stay++(c,d)::rest);refine⟨h.lv,by simpa[Sv.gD] using h.lw,h.wD,h.KV,h.on,h.nd,λn=>?_,λl=>?_,λl p hp=>?_⟩
  .show(({s with cl:=s.cl.set c (d::gone::r)}:Sv).lits n).Nodup∧∀l∈({s with cl:=s.cl.set c (d::gone::r)}:Sv).lits n,_;rw[L]
   split
   .exact⟨q,λx Z=>m.2 x ((i x).2 Z)⟩
   exact h.cls n
  .rw[M]
   split
   .grind
   next e=>exact Y l e
  show p.1<bB (s.cl.set c (d::gone::r))∧p.2∈({s with cl:=s.cl.set c (d::gone::r)}:Sv).lits p.1∧∃a b rest,({s with cl:=s.cl.set c (d::gone::r)}:Sv).lits p.1=a::b::rest∧(l=a∨l=b)
  rw[M] at hp;rw[L,gd];by_cases ep:p.1=c
  .rw[cY ep]
   split at hp
   .grind
   next e=>let⟨y,u,a',b',r',N,h4⟩:=k l p e hp;grind
  rw[cC ep]
  split at hp
  .next e=>subst e;refine E p ?_;grind
  next e=>exact k l p e hp
 rw[U];have R:f∈r:=cG
 let⟨al,ag⟩:=bU.1 hj;have ab:f≠a∧f≠b:=X f R;have ao:f≠d:=bO
 have G:f≠gone:=bO
 have S:f<2*s.n+2:=cG
 have L:=nI O (d::f::r.set j gone);have T:f<bB s.ws:=by have:=h.lw;simp[Sv.gD] at this;omega
 have M:=jx (s:=Sv.jz {s with cl:=s.cl.set c (d::f::r.set j gone)} f c d) (l:=gone) (by grind[Sv.jz]) (stay++rest);have g:(d::f::r.set j gone).Perm (d::gone::r):=by
  refine List.Perm.cons _ ?_;have y:r=r.take j++f::r.drop (j+1):=by grind[List.take_append_drop,List.drop_eq_getElem_cons]
  have u:r.set j gone=r.take j++gone::r.drop (j+1):=by grind
  rw[u]
  conv=>rhs;rw[y]
  have p1:(f::(r.take j++gone::r.drop (j+1))).Perm (f::gone::(r.take j++r.drop (j+1))):=bQ
  have p2:(gone::(r.take j++f::r.drop (j+1))).Perm (gone::f::(r.take j++r.drop (j+1))):=bQ
  exact p1.trans ((List.Perm.swap _ _ _).trans p2.symm)
 refine⟨rfl,rfl,rfl,by simp[Sv.jz],by simp[Sv.jz],λ_=>?_,λe=>by cases e⟩;have z:∀n,((Sv.jz {s with cl:=s.cl.set c (d::f::r.set j gone)} f c d).gD gone (stay++rest)).lits n=if n=c then d::f::r.set j gone else s.lits n:=L;have B:∀l,((Sv.jz {s with cl:=s.cl.set c (d::f::r.set j gone)} f c d).gD gone (stay++rest)).gj l=if l=gone then stay++rest else if l=f then s.gj f++[(c,d)] else s.gj l:=λl=>by rw[M,qI (s:={s with cl:=s.cl.set c (d::f::r.set j gone)}) (c:=c) (o:=d) T];rfl
 have V:∀p∈s.gj f,p.1≠c:=cG
 refine⟨h.lv,by simp[Sv.gD,Sv.jz];simpa[Sv.gD] using h.lw,h.wD,h.KV,h.on,h.nd,λn=>?_,λl=>?_,λl p hp=>?_⟩
 .rw[z]
  split
  .exact⟨g.nodup_iff.2 q,λx Z=>m.2 x ((i x).2 (g.mem_iff.1 Z))⟩
  exact h.cls n
 .rw[B];grind
 show p.1<_∧_;rw[B] at hp;rw[z];have F:((Sv.jz {s with cl:=s.cl.set c (d::f::r.set j gone)} f c d).gD gone (stay++rest)).cl.length=bB s.cl:=by simp[Sv.gD,Sv.jz]
 rw[F];by_cases v:l=gone
 .rw[cY v] at hp;rw[cC (Q p hp)];subst v;exact E p hp
 rw[cC v] at hp;by_cases P:l=f
 .rw[cY P] at hp;obtain hp|hp:=cU.1 hp
  .rw[cC (V p hp)];subst P;exact k _ p v hp
  grind
 rw[cC P] at hp;let⟨y,u,a',b',r',N,h4⟩:=k l p v hp;by_cases ep:p.1=c
 .rw[cY ep];rw[ep,hl] at N u;cases N
  refine⟨y,g.mem_iff.2 ((i _).1 u),d,f,_,rfl,cB ?_⟩;grind
 rw[cC ep];exact⟨y,u,a',b',r',N,h4⟩
structure Grow(s s':Sv):Prop where
 n:s'.n=s.n
 seen:s'.seen=s.seen
 dK:s'.dK=s.dK
 hp:s'.hp=s.hp
 fin:s'.fin=s.fin
 cl:bB s'.cl=bB s.cl
 lits:∀c x,x∈s'.lits c↔x∈s.lits c
 size:∀c,bB (s'.lits c)=bB (s.lits c)
 dX:∃t,s'.dX=s.dX++t
 yes:∀l,s.val l=1->s'.val l=1
 no:∀l,s.val l=-1->s'.val l=-1
theorem Grow.trans{a:Sv}(h:Grow s s1)(k:Grow s1 a):Grow s a:=by let⟨t,d⟩:=h.dX;let⟨u,f⟩:=k.dX;exact⟨k.n.trans h.n,k.seen.trans h.seen,k.dK.trans h.dK,k.hp.trans h.hp,k.fin.trans h.fin,k.cl.trans h.cl,λc x=>(k.lits c x).trans (h.lits c x),λc=>(k.size c).trans (h.size c),⟨t++u,by grind⟩,λl e=>k.yes l (h.yes l e),λl e=>k.no l (h.no l e)⟩
theorem Grow.gD(s l X):Grow s (s.gD l X):=⟨rfl,rfl,rfl,rfl,rfl,rfl,λ_ _=>Iff.rfl,λ_=>rfl,⟨[],by simp[Sv.gD]⟩,λ_ h=>h,λ_ h=>h⟩
theorem Grow.assign(h:Fit s)(hl:l<2*s.n+2)(a:s.val l=0):Grow s (s.assign l):=by
 have V:=qJ h hl;have f:s.val (lk l)=0:=by rw[h.wD l hl,a];rfl
 refine⟨rfl,rfl,rfl,rfl,rfl,rfl,λ_ _=>Iff.rfl,λ_=>rfl,⟨[l],rfl⟩,λd e=>?_,λd e=>?_⟩
 .grind
 grind
def yw:=@Grow.assign
structure Wi(s:Sv)(H:Nat->Nat->Prop):Prop where
 gj:∀c a b rest,s.lits c=a::b::rest->(∃o,(c,o)∈s.gj a)∧∃o,(c,o)∈s.gj b
 yes:∀c a b rest,s.lits c=a::b::rest->H c a∨H c b->∃l∈s.lits c,s.val l=1
variable{H:Nat->Nat->Prop}
theorem Wi.mono{d:Nat->Nat->Prop}(h:Wi s H)(f:∀c l,d c l->H c l):Wi s d:=
 ⟨h.gj,λc a b rest e k=>h.yes c a b rest e (k.imp (f c a) (f c b))⟩
theorem Wi.assign(h:Wi s H)(i:Fit s)(hl:l<2*s.n+2)(d:s.val l=0):Wi (s.assign l) H:=
 ⟨h.gj,λc a b rest e k=>by let⟨x,f,g⟩:=h.yes c a b rest e k;exact⟨x,f,(Grow.assign i hl d).yes x g⟩⟩
theorem Wi.step{rest:List (Nat×Nat)}{S:Nat->Prop}(J:gone<bB s.ws)(h:Fit (s.gD gone (stay++(c,o)::rest)))(hg:s.val gone=-1)(hS:∀l,S l->s.val l=-1)(k:Wi (s.gD gone (stay++(c,o)::rest)) λd l=>S l∨l=gone∧∀p∈(c,o)::rest,p.1≠d):
  Grow s (s.gH c gone).2∧(∀l,(s.gH c gone).2.val l=s.val l)∧
  ((s.gH c gone).1=aK->Wi ((s.gH c gone).2.gD gone (stay++rest)) λd l=>S l∨l=gone∧∀p∈rest,p.1≠d)∧
  ((s.gH c gone).1=aL->∀f r,(s.gH c gone).2.lits c=f::r->Wi ((s.gH c gone).2.gD gone (stay++(c,f)::rest)) λd l=>d≠c∧(S l∨l=gone∧∀p∈rest,p.1≠d)):=by
 have W:=jx J (stay++(c,o)::rest);let⟨R,ho,a,b,r,hl,I⟩:=h.gj gone (c,o) cG;have F:=h.cls c;have R:c<bB s.cl:=R;have hl:s.lits c=a::b::r:=hl;have F:(s.lits c).Nodup∧∀l∈s.lits c,l<2*s.n+2:=F;rw[hl] at F;have al:=k.gj c a b r hl;have M:=k.yes c a b r hl;let⟨f,aa,E⟩:=zI hl I;have ac:(f::gone::r).Nodup:=cG
 have N:f≠gone:=cG
 have ab:∀x,x∈f::gone::r↔x∈s.lits c:=cG
 have P:∃u,(c,u)∈s.gj f:=cG
 have a0:S f->∃l∈s.lits c,s.val l=1:=λe=>by
  obtain⟨rfl,_⟩|⟨rfl,_⟩:=aa
  .exact M (cB (cB e))
  exact M (cI (cB e))
 have i:∀d g,d≠c->(∃u,(d,u)∈(s.gD gone (stay++(c,o)::rest)).gj g)->(g=gone->∃u,(d,u)∈stay++rest)∧(g≠gone->∃u,(d,u)∈s.gj g):=cG
 obtain⟨hm,hv⟩|⟨j,n,hj,ao,hv,hm⟩:=E
 .rw[hm];have L:=nI R (f::gone::r);have Q:=λx=>jx (s:={s with cl:=s.cl.set c (f::gone::r)}) J (stay++(c,x)::rest);refine⟨⟨rfl,rfl,rfl,rfl,rfl,by simp,λd x=>?_,λd=>?_,⟨[],by simp⟩,λ_ h=>h,λ_ h=>h⟩,λ_=>rfl,λe=>(by cases e),λ_ m r' z=>?_⟩
  .grind
  .grind
  have z:({s with cl:=s.cl.set c (f::gone::r)}:Sv).lits c=m::r':=z;rw[L,cY rfl] at z;cases z
  refine⟨λd g q y e=>?_,λd g q y e v=>?_⟩
  .have e:({s with cl:=s.cl.set c (f::gone::r)}:Sv).lits d=g::q::y:=e;rw[L] at e;rw[Q,Q];by_cases t:d=c
   .rw[cY t] at e;cases e
    subst t;rw[cC N,cY rfl];exact⟨P,f,by simp⟩
   rw[cC t] at e;let⟨B,C⟩:=k.gj d g q y e;constructor
   .let⟨g1,U⟩:=i d g t B
    split
    .grind
    next D=>exact U D
   let⟨g1,U⟩:=i d q t C
   split
   .grind
   next D=>exact U D
  have e:({s with cl:=s.cl.set c (f::gone::r)}:Sv).lits d=g::q::y:=e;have O:d≠c:=bO
  rw[L,cC O] at e;show ∃l∈({s with cl:=s.cl.set c (f::gone::r)}:Sv).lits d,_;rw[L,cC O];refine k.yes d g q y e (v.imp (λv=>v.2.imp (λx=>x) λx=>⟨x.1,λp hp=>?_⟩) λv=>v.2.imp (λx=>x) λx=>⟨x.1,λp hp=>?_⟩);all_goals
   grind
 rw[hm];have ag:n∈r:=cG
 let⟨X,ad⟩:=bU.1 hj;have an:n≠gone:=cG
 have ap:n≠f:=cG
 have Y:n<2*s.n+2:=cG
 have L:=nI R (f::n::r.set j gone);have Z:n<bB s.ws:=by have:=h.lw;simp[Sv.gD] at this;omega
 have WA:=qI (s:={s with cl:=s.cl.set c (f::n::r.set j gone)}) (c:=c) (o:=f) Z;have Q:=jx (s:=Sv.jz {s with cl:=s.cl.set c (f::n::r.set j gone)} n c f) (l:=gone) (by grind[Sv.jz]) (stay++rest);have T:∀x,x∈f::n::r.set j gone↔x∈f::gone::r:=λx=>by
  have B:r=r.take j++n::r.drop (j+1):=by grind[List.take_append_drop,List.drop_eq_getElem_cons]
  have C:r.set j gone=r.take j++gone::r.drop (j+1):=O8 .. |>.trans (cY X)
  rw[C]
  conv=>rhs;rw[B]
  simp only[fA,cU];constructor
  .grind
  grind
 refine⟨⟨rfl,rfl,rfl,rfl,rfl,by simp[Sv.jz],λd x=>?_,λd=>?_,⟨[],by simp[Sv.jz]⟩,λ_ h=>h,λ_ h=>h⟩,λ_=>rfl,λ_=>⟨λd g q y e=>?_,λd g q y e v=>?_⟩,λe=>(by cases e)⟩
 .show x∈({s with cl:=s.cl.set c (f::n::r.set j gone)}:Sv).lits d↔_;rw[L];grind
 .show bB (({s with cl:=s.cl.set c (f::n::r.set j gone)}:Sv).lits d)=_;grind
 .have e:({s with cl:=s.cl.set c (f::n::r.set j gone)}:Sv).lits d=g::q::y:=e;rw[L] at e;have G:∀x,(x=gone->∃u,(d,u)∈stay++rest)->(x≠gone->∃u,(d,u)∈s.gj x)->∃u,(d,u)∈((Sv.jz {s with cl:=s.cl.set c (f::n::r.set j gone)} n c f).gD gone (stay++rest)).gj x:=λx B C=>by
   rw[Q]
   split
   .next D=>exact B D
   next D=>
   let⟨u,V⟩:=C D;refine⟨u,?_⟩;rw[WA]
   split
   .next e3=>rw[e3] at V;exact dh _ V
   exact V
  by_cases t:d=c
  .rw[cY t] at e;cases e
   subst t;refine⟨G f (λx=>absurd x N) λ_=>P,f,?_⟩;grind
  rw[cC t] at e;let⟨B,C⟩:=k.gj d g q y e;exact⟨G g (i d g t B).1 (i d g t B).2,G q (i d q t C).1 (i d q t C).2⟩
 have e:({s with cl:=s.cl.set c (f::n::r.set j gone)}:Sv).lits d=g::q::y:=e;show ∃l∈({s with cl:=s.cl.set c (f::n::r.set j gone)}:Sv).lits d,s.val l=1;rw[L] at e⊢;by_cases t:d=c
 .grind
 rw[cC t] at e⊢;refine k.yes d g q y e (v.imp (λv=>v.imp (λx=>x) λx=>⟨x.1,λp hp=>?_⟩) λv=>v.imp (λx=>x) λx=>⟨x.1,λp hp=>?_⟩);all_goals
  grind
theorem sE{gone:Nat}{S:Nat->Prop}:∀(rest stay:List (Nat×Nat))(s:Sv),gone<bB s.ws->Fit (s.gD gone (stay++rest))->s.val gone=-1->(∀l,S l->s.val l=-1)->
  Wi (s.gD gone (stay++rest)) (λj l=>S l∨l=gone∧∀p∈rest,p.1≠j)->
  Grow s (Sv.jA gone rest stay s).2∧Fit (Sv.jA gone rest stay s).2∧((Sv.jA gone rest stay s).1=ai->Wi (Sv.jA gone rest stay s).2 λ_ l=>S l∨l=gone)
 | [],stay,s,_,u,_,_,k=>by simp only[gC] at u k;exact⟨Grow.gD _ _ _,u,λ_=>k.mono λc l h=>h.imp (λx=>x) λx=>⟨x,by simp⟩⟩
 |(c,o)::rest,stay,s,m,u,O,V,k=>by
  have W:=jx m (stay++(c,o)::rest);rw[Sv.jA];by_cases Q:s.val o=1
  .simp only[cY Q];have e:stay++(c,o)::rest=stay++[(c,o)]++rest:=bQ
   refine sE rest (stay++[(c,o)]) s m (e▸u) O V ⟨e▸k.gj,λj a b r hl C=>?_⟩;by_cases n:j=c
   .let⟨_,h2,_⟩:=u.gj gone (c,o) cG;exact⟨o,by grind,Q⟩
   refine k.yes j a b r hl (C.imp (λR=>R.imp (λx=>x) λx=>⟨x.1,λp hp=>?_⟩) λR=>R.imp (λx=>x) λx=>⟨x.1,λp hp=>?_⟩);all_goals
    grind
  simp only[cC Q];let⟨I,g2,g3,g4⟩:=Wi.step m u O V k;let⟨f1,f2,f3,f4,f5,Z,f7⟩:=Fit.gH m u O;have i:gone<(s.gH c gone).2.ws.length:=bO
  have v:∀l,S l->(s.gH c gone).2.val l=-1:=cG
  have y:(s.gH c gone).2.val gone=-1:=cG
  cases J:(s.gH c gone).1 with
  |true=>simp only[iX];let⟨D,E,F⟩:=sE rest stay _ i (Z J) y v (g3 J);exact⟨I.trans D,E,F⟩
  |false=>
   simp only[gL,jF];let⟨d,r,hl,X,f⟩:=f7 J;have k1:=g4 J d r hl;have P:((s.gH c gone).2.lits c)[0]?.getD 0=d:=cG
   rw[P];have e:∀x:Nat×Nat,stay++x::rest=stay++[x]++rest:=λx=>by simp
   have q:d∈(s.gH c gone).2.lits c:=cG
   generalize(s.gH c gone).2=s1 at *;by_cases B:s1.val d=0
   .simp only[cY B];have g:d<2*s1.n+2:=bO
    have N:Fit ((s1.gD gone (stay++(c,d)::rest)).assign d):=f.assign g B;have Y:=k1.assign f g B;have L:Grow s1 (s1.assign d):=(Grow.assign f g B:Grow (s1.gD gone (stay++(c,d)::rest)) ((s1.gD gone (stay++(c,d)::rest)).assign d)) |> λG=>⟨G.n,G.seen,G.dK,G.hp,G.fin,G.cl,G.lits,G.size,G.dX,G.yes,G.no⟩
    have M:(s1.assign d).val d=1:=(qJ f g d).trans (cY rfl);let⟨D,E,F⟩:=sE rest (stay++[(c,d)]) (s1.assign d) i (e (c,d)▸N) (L.no _ y) (λl hl=>L.no _ (v l hl)) ⟨e (c,d)▸Y.gj,λj a b T z C=>by
     by_cases n:j=c
     .rw[n];exact⟨d,q,M⟩
     exact Y.yes j a b T z (C.imp (λx=>⟨n,x⟩) λx=>⟨n,x⟩)⟩
    exact⟨(I.trans L).trans D,E,F⟩
   simp only[cC B];by_cases U:s1.val d=-1
   .simp only[cY U];refine⟨I.trans (Grow.gD _ _ _),?_,λe=>(by cases e)⟩;have:=f;rw[e] at this;exact this
   simp only[cC U];have M:s1.val d=1:=by
    have t:s1.val d=-1∨s1.val d=0∨s1.val d=1:=f.KV d;obtain t|t|t:=t
    .omega
    .omega
    exact t
   let⟨D,E,F⟩:=sE rest (stay++[(c,d)]) s1 i (e (c,d)▸f) y v ⟨e (c,d)▸k1.gj,λj a b T z C=>by
    by_cases n:j=c
    .rw[n];exact⟨d,q,M⟩
    exact k1.yes j a b T z (C.imp (λx=>⟨n,x⟩) λx=>⟨n,x⟩)⟩
   exact⟨I.trans D,E,F⟩
structure Fw(s:Sv):Prop where
 fit:Fit s
 le:s.seen<=bB s.dX
 wi:Wi s λ_ l=>lk l∈s.dX.take s.seen
theorem Fw.visit(h:Fw s)(hl:s.dX[s.seen]?=ah l):
  Grow {s with seen:=s.seen+1} (Sv.visit {s with seen:=s.seen+1} (lk l)).2∧Fit (Sv.visit {s with seen:=s.seen+1} (lk l)).2∧((Sv.visit {s with seen:=s.seen+1} (lk l)).1=ai->Fw (Sv.visit {s with seen:=s.seen+1} (lk l)).2):=by
 let⟨F,L⟩:=bU.1 hl;have m:l∈s.dX:=cH hl;let⟨k,u⟩:=(h.fit.on l).1 m;have E:s.val (lk l)=-1:=by rw[h.fit.wD l k,u]
 have i:lk l<bB s.ws:=by rw[h.fit.lw];exact BY k
 have q:Fit {s with seen:=s.seen+1}:=⟨h.fit.lv,h.fit.lw,h.fit.wD,h.fit.KV,h.fit.on,h.fit.nd,h.fit.cls,h.fit.Lh,h.fit.gj⟩
 have d:({s with seen:=s.seen+1}:Sv).gD (lk l) ([]++({s with seen:=s.seen+1}:Sv).gj (lk l))={s with seen:=s.seen+1}:=vy i;have g:∀f,lk f∈s.dX.take s.seen->s.val f=-1:=λf B=>by let⟨C,D⟩:=(h.fit.on _).1 (je B);have:=h.fit.wD _ C;rw[xG] at this;rw[this,D]
 have k0:Wi {s with seen:=s.seen+1} (λz f=>lk f∈s.dX.take s.seen∨f=lk l∧∀p∈({s with seen:=s.seen+1}:Sv).gj (lk l),p.1≠z):=by
  refine⟨h.wi.gj,λc a b r e j=>?_⟩;let⟨⟨M,I⟩,N,J⟩:=h.wi.gj c a b r e;refine h.wi.yes c a b r e (j.imp (λx=>x.resolve_right λx=>?_) λx=>x.resolve_right λx=>?_)
  .exact x.2 _ (by rw[<-x.1];exact I) rfl
  exact x.2 _ (by rw[<-x.1];exact J) rfl
 let⟨n,y,G⟩:=sE (S:=λf=>lk f∈s.dX.take s.seen) (({s with seen:=s.seen+1}:Sv).gj (lk l)) [] {s with seen:=s.seen+1} i (by rw[d];exact q) E g (by rw[d];exact k0);refine⟨n,y,λe=>⟨y,?_,(G e).mono λ_ f j=>?_⟩⟩
 .let⟨t,v⟩:=n.dX;show(Sv.jA _ _ _ _).2.seen<=(Sv.jA _ _ _ _).2.dX.length;rw[n.seen,v];simp;omega
 let⟨t,v⟩:=n.dX;have j:lk f∈(Sv.jA (lk l) (({s with seen:=s.seen+1}:Sv).gj (lk l)) [] {s with seen:=s.seen+1}).2.dX.take (Sv.jA (lk l) (({s with seen:=s.seen+1}:Sv).gj (lk l)) [] {s with seen:=s.seen+1}).2.seen:=j;rw[n.seen,v] at j;grind[lk,List.take_add_one,Option.toList_some,List.mem_singleton,xG]
def Grow.acb{a:Sv}(h:Grow {s with seen:=s.seen+1} a):a.n=s.n∧a.seen=s.seen+1∧a.dK=s.dK∧a.hp=s.hp∧a.fin=s.fin∧bB a.cl=bB s.cl∧(∀c x,x∈a.lits c↔x∈s.lits c)∧(∀c,bB (a.lits c)=bB (s.lits c))∧(∃t,a.dX=s.dX++t)∧(∀l,s.val l=1->a.val l=1)∧∀l,s.val l=-1->a.val l=-1:=
 ⟨h.n,h.seen,h.dK,h.hp,h.fin,h.cl,h.lits,h.size,h.dX,h.yes,h.no⟩
structure acU(s s':Sv):Prop where
 n:s'.n=s.n
 dK:s'.dK=s.dK
 hp:s'.hp=s.hp
 fin:s'.fin=s.fin
 cl:bB s'.cl=bB s.cl
 lits:∀c x,x∈s'.lits c↔x∈s.lits c
 size:∀c,bB (s'.lits c)=bB (s.lits c)
 yes:∀l,s.val l=1->s'.val l=1
 no:∀l,s.val l=-1->s'.val l=-1
theorem zc:∀(f:Nat)(s:Sv),Fw s->2*s.n+3<=f+s.seen->∃o i,Sv.follow f s=ah (o,i)∧acU s i∧Fit i∧(o=ai->Fw i∧i.seen=bB i.dX)
 |0,s,h,E=>by have:=h.fit.ur;have:=h.le;omega
 |f+1,s,h,E=>by
  rw[Sv.follow];cases hl:s.dX[s.seen]? with
  |none=>
   have F:bB s.dX<=s.seen:=cG
   have G:=h.le;exact⟨ai,s,rfl,⟨rfl,rfl,rfl,rfl,rfl,λ_ _=>Iff.rfl,λ_=>rfl,λ_ h=>h,λ_ h=>h⟩,h.fit,λ_=>⟨h,by omega⟩⟩
  |some l=>
   let⟨t,u,v⟩:=h.visit hl;let⟨j,y,k,m,n,p,q,r,z,a,d⟩:=t.acb;simp only;cases I:Sv.visit {s with seen:=s.seen+1} (lk l) with
   |mk o s1=>
    rw[I] at t u v j y k m n p q r z a d;simp only at t u v j y k m n p q r z a d;cases o with
    |some c=>exact⟨ah c,s1,rfl,⟨j,k,m,n,p,q,r,a,d⟩,u,λe=>(by cases e)⟩
    |none=>let⟨o,i,B,g,C,D⟩:=zc f s1 (v rfl) bO;exact⟨o,i,B,⟨g.n.trans j,g.dK.trans k,g.hp.trans m,g.fin.trans n,g.cl.trans p,λc x=>(g.lits c x).trans (q c x),λc=>(g.size c).trans (r c),λl e=>g.yes l (a l e),λl e=>g.no l (d l e)⟩,C,D⟩
theorem Fw.done(h:Fw s)(hs:s.seen=bB s.dX)(c)(g:2<=bB (s.lits c)):(∃l∈s.lits c,s.val l=1)∨∃a b,a≠b∧a∈s.lits c∧b∈s.lits c∧s.val a≠-1∧s.val b≠-1:=by
 let⟨k,d⟩:=h.fit.cls c
 match hl:s.lits c with
 | []=>rw[hl] at g;simp at g
 | [_]=>rw[hl] at g;simp at g
 |a::b::r=>
  rw[hl] at k d;have f:∀x,x∈a::b::r->s.val x=-1->lk x∈s.dX.take s.seen:=λx m n=>by rw[hs,fI];exact(h.fit.on _).2 ⟨BY (d x m),by rw[h.fit.wD x (d x m),n];rfl⟩
  by_cases i:s.val a=-1
  .have:=h.wi.yes c a b r hl (cB (f a bQ i));rw[hl] at this;exact cB this
  by_cases j:s.val b=-1
  .have:=h.wi.yes c a b r hl (cI (f b bQ j));rw[hl] at this;exact cB this
  refine cI ⟨a,b,λe=>?_,by simp,by simp,i,j⟩;simp[e] at k
end
section
theorem xN(n l):(Sv.new n).val l=0:=by grind[Sv.new,Sv.val]
theorem xM(n l):(Sv.new n).gj l=[]:=by grind[Sv.new,Sv.gj]
theorem Fw.new(n):Fw (Sv.new n):=by
 have hl:∀c,(Sv.new n).lits c=[]:=λc=>by simp[Sv.new,Sv.lits]
 refine⟨⟨by simp[Sv.new],by simp[Sv.new],λl _=>by rw[xN,xN];rfl,λl=>cI (cB (xN n l)),λl=>?_,by simp[Sv.new],λc=>by simp[hl],λl=>by simp[xM],λl p hp=>by simp[xM] at hp⟩,bT _,λc a b r e=>?_,λc a b r e=>?_⟩
 .rw[xN];simp[Sv.new]
 .rw[hl] at e;cases e
 grind
def Sv.more(s:Sv)(ls:List Nat):Sv:={s with cl:=s.cl++[ls]}
theorem og(s:Sv)(ls:List Nat)(c:Nat):(s.more ls).lits c=if c=bB s.cl then ls else s.lits c:=by grind[Sv.more,Sv.lits]
variable{s:Sv}{ls p:List Nat}
theorem Fit.more(h:Fit s)(d:ls.Nodup)(hl:∀l∈ls,l<2*s.n+2):Fit (s.more ls):=by
 refine⟨h.lv,h.lw,h.wD,h.KV,h.on,h.nd,λc=>?_,h.Lh,λl p hp=>?_⟩
 .rw[og]
  split
  .exact⟨d,hl⟩
  exact h.cls c
 obtain⟨e,f,i⟩:=h.gj l p hp;rw[og,cC bO];grind[Sv.more]
structure mz(s:Sv)(n:Nat)(cs:List (List Nat)):Prop where
 nn:s.n=n
 cl:s.cl=cs
 seen:s.seen=0
 dK:s.dK=[]
 hp:s.hp=aO (n+1)
 fo:Fw s
 unit:s.fin=aL->∀l,[l]∈cs->s.val l=1
 nil:s.fin=aL->[]∉cs
theorem Fw.at0(f:Fit s)(i:s.seen=0)(h:∀c a b d,s.lits c=a::b::d->(∃o,(c,o)∈s.gj a)∧∃o,(c,o)∈s.gj b):Fw s:=
 ⟨f,by omega,h,λc a b r e j=>by grind⟩
theorem mz.new(n):mz (Sv.new n) n []:=⟨rfl,rfl,rfl,rfl,rfl,Fw.new n,λ_=>by simp,λ_=>by simp⟩
def W8:=@mz.new
variable{n l c a b:Nat}{cs L:List (List Nat)}
theorem mz.add(h:mz s n cs)(G:ls.Nodup)(hl:∀l∈ls,l<2*n+2):mz (s.add ls) n (cs++[ls]):=by
 have d:∀l∈ls,l<2*s.n+2:=by rw[h.nn];exact hl
 have f:=h.fo.fit.more G d;have j:(s.more ls).cl=cs++[ls]:=by show s.cl++[ls]=_;rw[h.cl]
 have i:∀c,c≠bB s.cl->∀a b k,(s.more ls).lits c=a::b::k->(∃o,(c,o)∈s.gj a)∧∃o,(c,o)∈s.gj b:=λc S a b r e=>by rw[og,cC S] at e;exact h.fo.wi.gj c a b r e
 match ls,G,hl,d,f,j,i with
 | [],_,_,_,f,j,i=>
  refine⟨h.nn,j,h.seen,h.dK,h.hp,Fw.at0 ⟨f.lv,f.lw,f.wD,f.KV,f.on,f.nd,f.cls,f.Lh,f.gj⟩ h.seen λc a b r e=>?_,λe=>(by cases e),λe=>(by cases e)⟩;have e:(s.more []).lits c=a::b::r:=e;by_cases D:c=bB s.cl
  .rw[og,cY D] at e;cases e
  .exact i c D a b r e
 | [l],_,hl,d,f,j,i=>
  have u:l<2*s.n+2:=d l bQ;have q:Fw (s.more [l]):=Fw.at0 f h.seen (λc a b r e=>by
   by_cases D:c=bB s.cl
   .rw[og,cY D] at e;cases e
   exact i c D a b r e)
  show mz (Sv.addFact (s.more [l]) l) n _;unfold Sv.addFact;by_cases H:(s.more [l]).val l=-1
  .rw[cY H];exact⟨h.nn,j,h.seen,h.dK,h.hp,⟨⟨f.lv,f.lw,f.wD,f.KV,f.on,f.nd,f.cls,f.Lh,f.gj⟩,q.le,q.wi.gj,q.wi.yes⟩,λe=>(by cases e),λe=>(by cases e)⟩
  .rw[cC H];have hold:s.fin=aL->∀m,[m]∈cs++[[l]]->m≠l->s.val m=1:=λe m d V=>by
    obtain d|d:=cU.1 d
    .exact h.unit e m d
    grind
   have v:s.fin=aL->[]∉cs++[[l]]:=λe=>by simpa using h.nil e
   by_cases B:(s.more [l]).val l=0
   .rw[cY B];refine⟨h.nn,j,h.seen,h.dK,h.hp,⟨f.assign u B,?_,?_⟩,λe m d=>?_,v⟩
    .show s.seen<=_;rw[h.seen];omega
    .have:=q.wi.assign f u B;refine this.mono λc x F=>?_;have F:lk x∈(s.dX++[l]).take s.seen:=F;rw[h.seen] at F;simp at F
    by_cases C:m=l
    .subst C;exact(qJ f u m).trans (cY rfl)
    exact(yw f u B).yes m (hold e m d C)
   .rw[cC B];refine⟨h.nn,j,h.seen,h.dK,h.hp,q,λe m d=>?_,v⟩;by_cases C:m=l
    .subst C;obtain t|t|t:=f.KV m
     .exact absurd t H
     .exact absurd t B
     exact t
    .exact hold e m d C
 |a::b::r,G,hl,d,f,j,i=>
  have Q:(s.more (a::b::r)).lits (bB s.cl)=a::b::r:=by rw[og,cY rfl]
  show mz (Sv.watch (s.more (a::b::r)) (bB s.cl)) n _;have I:a≠b:=λe=>by simp[e] at G
  have M:a<(s.more (a::b::r)).ws.length:=by rw[f.lw];exact d a bQ
  have R:b<((s.more (a::b::r)).jz a (bB s.cl) b).ws.length:=by simp[Sv.jz,gd];rw[f.lw];exact d b bQ
  have P:Sv.watch (s.more (a::b::r)) (bB s.cl)=((s.more (a::b::r)).jz a (bB s.cl) b).jz b (bB s.cl) a:=by unfold Sv.watch;rw[Q];rfl
  have W:∀l,(((s.more (a::b::r)).jz a (bB s.cl) b).jz b (bB s.cl) a).gj l=if l=a then s.gj a++[(bB s.cl,b)] else if l=b then s.gj b++[(bB s.cl,a)] else s.gj l:=λl=>by have w:∀x,(s.more (a::b::r)).gj x=s.gj x:=λ_=>rfl;rw[qI R,qI M,qI M,w,w,w,cC (show ¬b=a from λe=>I e.symm)];grind
  have J:∀c,(((s.more (a::b::r)).jz a (bB s.cl) b).jz b (bB s.cl) a).lits c=(s.more (a::b::r)).lits c:=λ_=>rfl;have T:∀l p,p∈s.gj l->p∈(((s.more (a::b::r)).jz a (bB s.cl) b).jz b (bB s.cl) a).gj l:=λl p hp=>by grind
  rw[P];refine⟨h.nn,j,h.seen,h.dK,h.hp,Fw.at0 ⟨f.lv,by simp[Sv.jz,gd];exact f.lw,f.wD,f.KV,f.on,f.nd,f.cls,λl=>?_,λl p hp=>?_⟩ h.seen λc y z Z e=>?_,λe m d=>?_,λe=>?_⟩
  .have Y:=h.fo.fit.Lh l;have O:bB s.cl∉(s.gj l).map Prod.fst:=λU=>by
    obtain⟨p,hp,X⟩:=gI.1 U;have:=(h.fo.fit.gj l p hp).1;omega
   grind
  .rw[W] at hp;have yO:p∈s.gj l->p.1<(s.more (a::b::r)).cl.length∧p.2∈(s.more (a::b::r)).lits p.1∧∃y z k,(s.more (a::b::r)).lits p.1=y::z::k∧(l=y∨l=z):=λhp=>f.gj l p hp;have fresh:∀x,x∈a::b::r->l=a∨l=b->bB s.cl<(s.more (a::b::r)).cl.length∧x∈(s.more (a::b::r)).lits (bB s.cl)∧∃y z k,(s.more (a::b::r)).lits (bB s.cl)=y::z::k∧(l=y∨l=z):=λx F N=>by
    grind[Sv.more]
   split at hp
   .next e=>
    obtain hp|hp:=cU.1 hp
    .exact yO (e▸hp)
    simp at hp;subst hp;exact fresh b bQ (cB e)
   split at hp
   .next e=>
    obtain hp|hp:=cU.1 hp
    .exact yO (e▸hp)
    simp at hp;subst hp;exact fresh a bQ (cI e)
   exact yO hp
  .grind
  .obtain d|d:=cU.1 d
   .exact h.unit e m d
   simp at d
  have:=h.nil e;simp[this]
theorem mz.all{n:Nat}:∀(e:List (List Nat))(s:Sv)(cs:List (List Nat)),mz s n cs->(∀d∈e,d.Nodup∧∀l∈d,l<2*n+2)->mz (e.foldl (λs c=>s.add c) s) n (cs++e)
 | [],s,cs,h,_=>by simpa using h
 |d::e,s,cs,h,f=>by have:=mz.all e (s.add d) (cs++[d]) (h.add (f d bQ).1 (f d bQ).2) (λi j=>f i (by simp[j]));simpa using this
def adi:=@mz.all
inductive mP (cs:List (List Nat)):Nat->Prop
 |OJ {c:List Nat} {l:Nat}:c∈cs->l∈c->(∀x∈c,x≠l->mP cs (lk x))->mP cs l
theorem mz.no(h:mz s n cs)(D:∀d∈cs,d.Nodup∧∀l∈d,l<2*n+2)(C:mP cs l)(q:mP cs (lk l))(f):∃v,Sv.run (f+2) s=ah (aL,v):=by
 rw[Sv.run];cases r:s.fin with
 |true=>exact⟨s,rfl⟩
 |false=>
  simp[gL,jF];let⟨o,v,F,j,B,G⟩:=zc (2*s.n+3) s h.fo bO;rw[F];cases o with
  |some c=>simp only;rw[j.dK,h.dK];simp_all[Sv.run]
  |none=>
   exfalso;let⟨y,m⟩:=G rfl;have lt:∀l,mP cs l->l<2*v.n+2:=λl w=>by
    cases w with
    |OJ e hl _=>rw[j.n,h.nn];exact(D _ e).2 l hl
   have u:∀l,mP cs l->v.val l=1:=λl w=>by
    induction w with
    |@OJ c l e hl R O=>
     have no:∀x∈c,x≠l->v.val x=-1:=λx t z=>by have P:=O x t z;have Q:=B.wD x (by rw[j.n,h.nn];exact(D c e).2 x t);omega
     let⟨i,N,M⟩:=gF.1 e;have k:s.lits i=c:=by unfold Sv.lits;rw[h.cl,bP N,M];rfl
     by_cases q:2<=bB c
     .obtain⟨x,x1,x2⟩|⟨a,b,I,H,J,S,T⟩:=y.done m i (by rw[j.size,k];exact q)
      .rw[j.lits,k] at x1;grind
      rw[j.lits,k] at H J;grind
     have:c=[l]:=by
      match c,hl,q with
      | [x],hl,_=>simp at hl;rw[hl]
      |_::_::_,_,q=>simp at q
     exact j.yes l (h.unit r l (this▸e))
   have k1:=u l C;have k2:=u _ q;have k3:=B.wD l (lt l C);omega
theorem Pc{g:Nat}(h:s.gj g=[]):s.visit g=(ai,s.gD g []):=by unfold Sv.visit;rw[h];rfl
theorem Xw(h:∀l,s.gj l=[])(g l):(s.gD g []).gj l=[]:=by
 by_cases d:g<bB s.ws
 .grind[jx]
 simp_all[Sv.gD,ac1]
theorem CM:∀(f:Nat)(s:Sv)(o:Option Nat)(d:Sv),(∀l,s.gj l=[])->Sv.follow f s=ah (o,d)->o=ai∧∀l,d.gj l=[]
 |0,_,_,_,_,h=>by cases h
 |f+1,s,o,d,e,h=>by
  rw[Sv.follow] at h;cases hl:s.dX[s.seen]? with
  |none=>grind
  |some l=>rw[hl] at h;simp[Pc (s:={s with seen:=s.seen+1}) (g:=lk l) (e _)] at h;exact CM f _ o d (Xw (s:={s with seen:=s.seen+1}) e _) h
theorem NO{s':Sv}{o:Option Nat}(h:s.pop=(o,s'))(d:∀v∈s.hp,v<=s.n):(s'={s with hp:=s'.hp})∧(∀v∈s'.hp,v<=s.n)∧(∀v,o=ah v->v<=s.n∧bB s'.hp+1=bB s.hp):=by
 unfold Sv.pop at h
 split at h
 .cases h
  grind
 grind
theorem SJ:∀(f:Nat)(s:Sv),bB s.hp+1<=f->Fw s->(∀l,s.gj l=[])->(∀v∈s.hp,v<=s.n)->
  ∃b k,Sv.Aa f s=ah (b,k)∧Fw k∧(∀l,k.gj l=[])∧k.n=s.n∧k.fin=s.fin∧(∀v∈k.hp,v<=s.n)∧(∀l,s.val l=1->k.val l=1)∧(b=aK->bB k.hp<bB s.hp)
 |0,_,h,_,_,_=>by omega
 |f+1,s,S,i,H,z=>by
  rw[Sv.Aa];cases hp:s.pop with
  |mk o j=>
   let⟨r,D,F⟩:=NO hp z;have d:Fw j:=by rw[r];exact⟨⟨i.fit.lv,i.fit.lw,i.fit.wD,i.fit.KV,i.fit.on,i.fit.nd,i.fit.cls,i.fit.Lh,i.fit.gj⟩,i.le,i.wi.gj,i.wi.yes⟩
   have u:∀l,j.gj l=[]:=λl=>by rw[r];exact H l
   have B:j.n=s.n:=by rw[r]
   have G:∀l,j.val l=s.val l:=λl=>by rw[r];rfl
   have y:j.fin=s.fin:=by rw[r]
   cases o with
   |none=>grind
   |some v=>
    let⟨T,C⟩:=F v rfl;simp only;by_cases t:j.val (2*v+1)=0
    .rw[cY t];have q:2*v+1<2*j.n+2:=bO
     have m:Fit {j with dK:=j.dK++[bB j.dX]}:=⟨d.fit.lv,d.fit.lw,d.fit.wD,d.fit.KV,d.fit.on,d.fit.nd,d.fit.cls,d.fit.Lh,d.fit.gj⟩
     have w:Wi {j with dK:=j.dK++[bB j.dX]} (λ_ l=>lk l∈j.dX.take j.seen):=⟨d.wi.gj,d.wi.yes⟩
     refine⟨aK,_,rfl,⟨m.assign q t,?_,?_⟩,u,B,y,D,λl e=>(yw m q t).yes l (by show j.val l=1;grind),λ_=>?_⟩
     .show j.seen<=bB (j.dX++[2*v+1]);have:=d.le;simp;omega
     .refine(w.assign m q t).mono λ_ l hl=>?_;have hl:lk l∈(j.dX++[2*v+1]).take j.seen:=hl;rwa[iJ d.le] at hl
     show bB j.hp<_;omega
    rw[cC t];let⟨b,k,I,J,M,N,O,P,Q,R⟩:=SJ f j bO d u cG;grind
theorem NA:∀(f:Nat)(s:Sv),bB s.hp+1<=f->Fw s->(∀l,s.gj l=[])->(∀v∈s.hp,v<=s.n)->s.fin=aL->
  ∃j,Sv.run f s=ah (aK,j)∧Fit j∧j.n=s.n∧∀l,s.val l=1->j.val l=1
 |0,_,h,_,_,_,_=>by omega
 |f+1,s,O,m,J,q,i=>by
  rw[Sv.run,i];simp[gL,jF];let⟨o,B,u,d,M,D⟩:=zc (2*s.n+3) s m bO;obtain⟨rfl,t⟩:=CM _ _ _ _ J u;rw[u];simp only;let⟨k,_⟩:=D rfl;let⟨b,C,F,w,G,y,H,N,z,I⟩:=SJ (bB B.hp+1) B (bT _) k t (by rw[d.hp,d.n];exact q);rw[F];cases b with
  |false=>exact⟨C,rfl,w.fit,y.trans d.n,λl e=>z l (d.yes l e)⟩
  |true=>have r:=I rfl;rw[d.hp] at r;let⟨j,k1,k2,k3,k4⟩:=NA f C bO w G cG (by rw[H,d.fin];exact i);exact⟨j,k1,k2,k3.trans (y.trans d.n),λl e=>k4 l (z l (d.yes l e))⟩
theorem mz.ZQ{n:Nat}{M:Nat->Prop}(z:∀l,M l->¬M (lk l)):∀(k:List (List Nat))(s:Sv)(cs:List (List Nat)),mz s n cs->(∀l,s.gj l=[])->s.fin=aL->(∀l,s.val l=1->M l)->(∀d∈k,∃l,d=[l]∧M l∧l<2*n+2)->
  (∀l,(k.foldl (λs c=>s.add c) s).gj l=[])∧(k.foldl (λs c=>s.add c) s).fin=aL
 | [],s,_,_,o,m,_,_=>⟨o,m⟩
 |d::k,s,cs,h,o,m,t,B=>by
  obtain⟨l,rfl,q,r⟩:=B d bQ;have F:=h.add (ls:=[l]) bQ cG;have y:=h.fo.fit.more (ls:=[l]) bQ (by rw[h.nn];grind);have i:l<2*(s.more [l]).n+2:=by show l<2*s.n+2;rw[h.nn];exact r
  have j:(∀f,(s.add [l]).gj f=[])∧(s.add [l]).fin=aL∧∀f,(s.add [l]).val f=1->M f:=by
   show(∀f,(Sv.addFact (s.more [l]) l).gj f=[])∧(Sv.addFact (s.more [l]) l).fin=aL∧∀f,(Sv.addFact (s.more [l]) l).val f=1->M f;unfold Sv.addFact;by_cases v:(s.more [l]).val l=-1
   .exfalso;have w:=y.wD l i;rw[v] at w;exact z l q (t _ w)
   rw[cC v];by_cases u:(s.more [l]).val l=0
   .rw[cY u];refine⟨o,m,λf e=>?_⟩;rw[qJ y i] at e
    split at e
    .grind
    split at e
    .cases e
    exact t f e
   rw[cC u];exact⟨o,m,t⟩
  exact mz.ZQ z k (s.add [l]) (cs++[[l]]) F j.1 j.2.1 j.2.2 λC D=>B C (by simp[D])
def aeq:=@mz.ZQ
theorem Ck(x y):∀l,y∈Cw x l↔y=x∨y∈l
 | []=>by simp[Cw]
 |z::l=>by
  rw[Cw]
  split
  .simp
  split
  .grind
  simp[fA,Ck x y l];grind
theorem zO(x):∀l,l.Pairwise (· < ·)->(Cw x l).Pairwise (· < ·)
 | [],_=>by simp[Cw]
 |z::l,h=>by
  rw[Cw];have hz:=lR.1 h
  split
  .grind[List.pairwise_cons,Nat.lt_trans]
  split
  .exact h
  refine lR.2 ⟨λy d=>?_,zO x l hz.2⟩;grind[Ck]
theorem Cp:∀(c:List Int)(d:List Nat),d.Pairwise (· < ·)->(c.foldl (λd x=>Cw (jQ x) d) d).Pairwise (· < ·)∧∀y,y∈c.foldl (λd x=>Cw (jQ x) d) d↔(∃x∈c,jQ x=y)∨y∈d
 | [],d,h=>⟨h,by simp⟩
 |x::c,d,h=>by let⟨e,f⟩:=Cp c (Cw (jQ x) d) (zO _ _ h);grind[Ck]
theorem od(c y):y∈jq c↔∃x∈c,jQ x=y:=by simp_all[jq,Cp]
def xR(c):(jq c).Pairwise (· < ·):=(Cp c [] yv).1
theorem rS(c):(jq c).Nodup:=(xR c).imp λh=>Nat.ne_of_lt h
variable{x:Int}
theorem xH(h:x≠0):lk (jQ x)=jQ (-x):=by grind[lk,jQ]
theorem YK(h:x.natAbs<=n):jQ x<2*n+2:=by grind[jQ]
theorem xS{c:List Int}(h:∀x∈c,x.natAbs<=n):∀l∈jq c,l<2*n+2:=λl hl=>by obtain⟨x,d,rfl⟩:=(od c l).1 hl;exact YK (h x d)
theorem Ip{cs:List (List Int)}(j:∀c∈cs,∀x∈c,x.natAbs<=n)(h:mP (cs.map jq) l)(i:mP (cs.map jq) (lk l)):mH n cs=ah ai:=by
 have f:∀d∈cs.map jq,d.Nodup∧∀l∈d,l<2*n+2:=λd f=>by grind[rS,xS]
 let⟨k,e⟩:=(adi (cs.map jq) (Sv.new n) [] (W8 n) f).no (by simpa using f) h i n;grind[mH,List.foldl_map]
theorem zB{cs:List (List Int)}(r:∀c∈cs,∃x,c=[x]∧x≠0∧x.natAbs<=n)(H:∀x,[x]∈cs->[-x]∉cs):
  ∃h,mH n cs=ah (ah h)∧bB h=n∧∀v:Nat,([(v+1:Int)]∈cs->h[v]?=ah aK)∧([-(v+1:Int)]∈cs->h[v]?=ah aL):=by
 have z:∀x:Int,jq [x]=[jQ x]:=λx=>by rfl
 have j:∀d∈cs.map jq,d.Nodup∧∀l∈d,l<2*n+2:=by grind[rS,xS]
 have T:=adi (cs.map jq) (Sv.new n) [] (W8 n) j;have U:=mz.ZQ (M:=λl=>∃x,[x]∈cs∧jQ x=l) (n:=n) (λl ⟨x,B,C⟩ ⟨y,D,F⟩=>by
  grind[jQ,xH]) (cs.map jq) (Sv.new n) [] (W8 n) (xM n) rfl (λl e=>by grind[xN]) (λd j=>by
  grind[jQ])
 let⟨k,i,m,o,q⟩:=NA (n+2) _ (by rw[T.hp];simp) T.fo U.1 (by rw[T.hp,T.nn];grind) U.2;have I:k.n=n:=o.trans T.nn;have yes:∀x,[x]∈cs->k.val (jQ x)=1:=λx f=>q _ (T.unit U.2 _ cG)
 refine⟨_,by unfold mH;rw[List.foldl_map] at i;rw[i],by simp,λv=>⟨λf=>?_,λf=>?_⟩⟩
 .grind[jQ]
 let⟨_,e,_,u⟩:=r _ f;cases e
 have:=yes _ f;have w:jQ (-(v+1:Int))=lk (2*(v+1)):=by grind[jQ,lk]
 have t:v<n:=bO
 have G:=m.wD (2*(v+1)) bO;grind
abbrev iE:=List (Nat×Nat)
def qv(E:iE)(a b:Nat):Prop:=(a,b)∈E∨(b,a)∈E
inductive gO (E:iE):Nat->Nat->Prop
 |refl (a:Nat):gO E a a
 |step {a b c:Nat}:gO E a b->qv E b c->gO E a c
variable{E:iE}
def qv.symm(h:qv E a b):qv E b a:=Or.symm h
theorem gO.trans(h:gO E a b)(k:gO E b c):gO E a c:=by
 induction k with
 |refl=>exact h
 |step _ e d=>exact .step d e
theorem gO.symm(h:gO E a b):gO E b a:=by
 induction h with
 |refl=>exact .refl _
 |step _ e d=>exact(gO.step (.refl _) e.symm).trans d
theorem gO.mono{F:iE}(hs:∀e∈E,e∈F)(h:gO E a b):gO F a b:=by
 induction h with
 |refl=>exact .refl _
 |step _ e d=>exact .step d (e.imp (hs _) (hs _))
theorem gO.one(h:qv E a b):gO E a b:=.step (.refl _) h
def abU:=@gO.one
def yg(E:iE):List Nat->Prop
 |a::b::r=>qv E a b∧yg E (b::r)
 |_=>True
theorem yg.conn{E:iE}:∀{p:List Nat}{a b:Nat},yg E (a::p)->(a::p).getLast?=ah b->gO E a b
 | [],a,b,_,hl=>by simp at hl;rw[hl];exact .refl _
 |c::p,a,b,h,hl=>by
  have d:(c::p).getLast?=ah b:=by simpa using hl
  exact(gO.one h.1).trans (yg.conn h.2 d)
theorem qv.cut{u v:Nat}(h:qv (E++[(u,v)]) a b):qv E a b∨a=u∧b=v∨a=v∧b=u:=by grind[qv]
theorem yg.Fa{E:iE}{u v:Nat}:∀{p:List Nat},yg (E++[(u,v)]) p->(u∉p∨v∉p)->yg E p
 | [],_,_=>trivial
 | [_],_,_=>trivial
 |a::b::r,h,i=>by
  refine⟨?_,yg.Fa h.2 (i.imp (λx y=>x (Hb _ y)) λx y=>x (Hb _ y))⟩;obtain e|⟨d,f⟩|⟨d,f⟩:=h.1.cut
  .exact e
  .subst d f;exfalso;obtain x|x:=i<;>simp at x
  subst d f;exfalso;obtain x|x:=i<;>simp at x
def Xs:=@yg.Fa
theorem yg.split{E:iE}{u v:Nat}:∀{p:List Nat}{a b:Nat},yg (E++[(u,v)]) (a::p)->(a::p).Nodup->(a::p).getLast?=ah b->yg E (a::p)∨gO E a u∧gO E v b∨gO E a v∧gO E u b
 | [],a,b,_,_,_=>cB trivial
 |c::p,a,b,h,i,hl=>by
  have d:(c::p).getLast?=ah b:=by simpa using hl
  have f:=List.nodup_cons.1 i;obtain e|⟨rfl,rfl⟩|⟨rfl,rfl⟩:=h.1.cut
  .obtain k|⟨k1,k2⟩|⟨k1,k2⟩:=yg.split h.2 f.2 d
   .exact cB ⟨e,k⟩
   .exact cI (cB ⟨(abU e).trans k1,k2⟩)
   exact cI (cI ⟨(abU e).trans k1,k2⟩)
  .exact cI (cB ⟨.refl _,(yg.Fa h.2 (cB f.1)).conn d⟩)
  exact cI (cI ⟨.refl _,(yg.Fa h.2 (cI f.1)).conn d⟩)
def yj(E:iE):Prop:=∀t (h:t<bB E),¬gO (E.take t) (E[t]).1 (E[t]).2
theorem yj.path{E:iE}(f:yj E){p:List Nat}{a b:Nat}(m:(a::p).Nodup)(hl:(a::p).getLast?=ah b)(t)(i:gO (E.take t) a b):∀k,yg (E.take (t+k)) (a::p)->yg (E.take t) (a::p)
 |0,h=>h
 |k+1,h=>by
  by_cases j:t+k<bB E
  .have e:E.take (t+(k+1))=E.take (t+k)++[((E[t+k]).1,(E[t+k]).2)]:=by
    rw[<-Nat.add_assoc,dJ,bP j];rfl
   rw[e] at h;have d:gO (E.take (t+k)) a b:=i.mono λx o=>List.take_subset_take_left E bO o;refine yj.path f m hl t i k ?_;obtain k1|⟨k1,k2⟩|⟨k1,k2⟩:=yg.split h m hl
   .exact k1
   .exact absurd (k1.symm.trans (d.trans k2.symm)) (f _ j)
   exact absurd ((k2.trans (d.symm)).trans k1) (f _ j)
  have e:E.take (t+(k+1))=E.take (t+k):=by rw[eF bO,eF bO]
  rw[e] at h;exact yj.path f m hl t i k h
theorem yj.way(d:yj E)(f:(a::p).Nodup)(hl:(a::p).getLast?=ah b)(hp:yg E (a::p))(t)(e:gO (E.take t) a b):yg (E.take t) (a::p):=by refine d.path f hl t e (bB E) ?_;rw[eF bO];exact hp
abbrev Pr:=Nat×Nat
def eT(a b:Nat):Pr:=(min a b,max a b)
theorem vF(a b):eT a b=eT b a:=by grind[eT]
theorem vE{p:Pr}(h:p.1<=p.2):eT p.1 p.2=p:=by grind[eT]
structure ET(E:iE)(told goals:List Pr)(steps:List (Pr×List Pr))(argp:Pr->List Pr)(g:Pr)(p:List Nat):Prop where
 nd:(g.1::p).Nodup
 last:(g.1::p).getLast?=ah g.2
 pth:yg E (g.1::p)
 link:∀k x y:Nat,(g.1::p)[k]?=ah x->(g.1::p)[k+1]?=ah y->eT x y∈told∨((eT x y,argp (eT x y))∈steps∧∀q∈argp (eT x y),q∈goals)
 pre:∀k x y:Nat,1<=k->(g.1::p)[k]?=ah x->(g.1::p)[k+1]?=ah y->(eT g.1 y,[eT g.1 x,eT x y])∈steps
theorem yg.at{E:iE}:∀{p:List Nat}{k x y:Nat},yg E p->p[k]?=ah x->p[k+1]?=ah y->qv E x y
 | [],_,_,_,_,h,_=>by simp at h
 | [_],k,_,_,_,_,h=>by simp at h
 |a::b::r,0,x,y,h,d,e=>by simp at d e;subst d e;exact h.1
 |a::b::r,k+1,x,y,h,d,e=>yg.at (p:=b::r) (k:=k) h.2 (by simpa using d) (by simpa using e)
variable{told:List Pr}{argp:Pr->List Pr}
theorem Io(P:yj E){d:List Pr}{steps:List (Pr×List Pr)}{F:Pr->Prop}(X:∀a,F (a,a))(N:∀p∈told,F p)(hs:∀st∈steps,(∀q∈st.2,F q)->F st.1)(V:∀p,∀q∈argp p,q.1<=q.2)(R:∀s (h:s<bB E),eT (E[s]).1 (E[s]).2∈told∨∀q∈argp (eT (E[s]).1 (E[s]).2),gO (E.take s) q.1 q.2)(S:∀g∈d,∃p,ET E told d steps argp g p)(t):∀g∈d,gO (E.take t) g.1 g.2->F (eT g.1 g.2):=by
 induction t using Nat.strongRecOn with
 |ind t Y=>
  intro g B Q;let⟨p,hp⟩:=S g B;have w:=P.way hp.nd hp.last hp.pth t Q;have JR:∀k x y:Nat,(g.1::p)[k]?=ah x->(g.1::p)[k+1]?=ah y->F (eT x y):=λk x y i j=>by
   obtain h|⟨h,r⟩:=hp.link k x y i j
   .exact N _ h
   have u:=w.at i j;have v:∃s,s<t∧∃hs:s<bB E,eT (E[s]).1 (E[s]).2=eT x y:=by
    have fin:∀e,e∈E.take t->∃s,s<t∧∃hs:s<bB E,E[s]=e:=λe U=>by
     let⟨s,D,G⟩:=gF.1 U;have m:s<t∧s<bB E:=by simpa[fB,Nat.lt_min] using D
     exact⟨s,m.1,m.2,by simpa using G⟩
    obtain h|h:=u
    .let⟨s,i,j,r⟩:=fin _ h;exact⟨s,i,j,by rw[r]⟩
    let⟨s,i,j,r⟩:=fin _ h;exact⟨s,i,j,by rw[r];exact vF _ _⟩
   obtain⟨s,J,H,I⟩:=v;have:=R s H;rw[I] at this;obtain m|m:=this
   .exact N _ m
   refine hs _ h λq o=>?_;have O:=Y s J q (r q o) (m q o);rwa[vE (V _ q o)] at O
  have pre:∀k x:Nat,(g.1::p)[k]?=ah x->F (eT g.1 x):=by
   intro k
   induction k with
   |zero=>intro x f;simp at f;subst f;unfold eT;rw[Nat.min_self,Nat.max_self];exact X _
   |succ k M=>
    intro y z;have T:k<bB (g.1::p):=by have:=(bU.1 z).1;omega
    have f:=bP T;by_cases C:k=0
    .subst C;have:=JR 0 _ y f z;simpa using this
    refine hs _ (hp.pre k _ y bO f z) λq o=>?_;simp at o;obtain rfl|rfl:=o
    .exact M _ f
    exact JR k _ y f z
  have hl:=hp.last;grind
def jW(t:Nat):List Nat->List Nat->List Nat->List Nat×List Nat
 | [],nx,td=>(nx,td)
 |n::ns,nx,td=>if nx[n]?.getD 0=0 then jW t ns (nx.set n (t+1)) (td++[n]) else jW t ns nx td
def ZB(L:List (List Nat))(a:Nat):Nat->List Nat->List Nat->Option (List Nat)
 |0,_,_=>ai
 |f+1,nx,td=>if nx[a]?.getD 0≠0 then ah nx else match td with
  | []=>ai
  |t::r=>ZB L a f (jW t (L[t]?.getD []) nx (t::r)).1 (jW t (L[t]?.getD []) nx (t::r)).2.tail
def uk(nx:List Nat)(b:Nat):Nat->Nat->Option (List Nat)
 |0,_=>ai
 |f+1,n=>if n=b then ah [] else(uk nx b f (nx[n]?.getD 0-1)).map ((nx[n]?.getD 0-1)::·)
def BW(L:List (List Nat))(a b:Nat):Option (List Nat):=
 match ZB L a (bB L+2) ((aN (bB L) 0).set b (b+1)) [b] with
 |none=>ai
 |some nx=>(uk nx b (bB L+1) a).map (a::·)
structure Bf(L:List (List Nat))(b:Nat)(nx td done:List Nat):Prop where
 len:bB nx=bB L
 nd:(done++td).Nodup
 mem:∀x,x∈done++td↔(x<bB L∧nx[x]?.getD 0≠0)
 root:nx[b]?.getD 0=b+1
 par:∀i x:Nat,(done++td)[i]?=ah x->x≠b->∃j y:Nat,j<i∧(done++td)[j]?=ah y∧nx[x]?.getD 0=y+1∧x∈L[y]?.getD []
 aby:∀x∈done,∀y∈L[x]?.getD [],y∈done++td
theorem Bf.Z8{L:List (List Nat)}{b t:Nat}{r done:List Nat}:∀(k d td:List Nat),(∀n∈k,n<bB L∧n∈L[t]?.getD [])->Bf L b d td done->t∈done++td->(∃u,td=t::r++u)->
  Bf L b (jW t k d td).1 (jW t k d td).2 done∧(∃u,(jW t k d td).2=t::r++u)∧(∀x,x∈td->x∈(jW t k d td).2)∧∀n∈k,n∈done++(jW t k d td).2
 | [],d,td,_,h,_,v=>⟨h,v,λ_ h=>h,by simp⟩
 |n::k,d,td,G,h,P,v=>by
  let⟨B,H⟩:=G n bQ;rw[jW];by_cases D:d[n]?.getD 0=0
  .rw[cY D];have z:n∉done++td:=λo=>((h.mem n).1 o).2 D;have N:∀x,(d.set n (t+1))[x]?.getD 0=if x=n then t+1 else d[x]?.getD 0:=λx=>by
    by_cases e:x=n
    .subst e;rw[cY rfl,lE (by rw[h.len];exact B)];rfl
    grind
   have F:b≠n:=λe=>by have:=h.root;grind
   have C:done++(td++[n])=(done++td)++[n]:=bQ
   obtain⟨u,v⟩:=v;have U:Bf L b (d.set n (t+1)) (td++[n]) done:=by
    refine⟨by rw[gd,h.len],?_,λx=>?_,?_,λi x f J=>?_,λx f y Q=>?_⟩
    .rw[C,sx];refine⟨h.nd,by simp,λx f y Q=>?_⟩;grind
    .rw[C,N,cU,h.mem,dL];grind
    .rw[N,cC F];exact h.root
    .rw[C] at f⊢;let⟨ti,q,I⟩:=gF.1 P;by_cases O:i<bB (done++td)
     .rw[df O] at f;let⟨j,y,V,X,h3,Y⟩:=h.par i x f J;have Z:x≠n:=λe=>z (e▸cH f);refine⟨j,y,V,?_,?_,Y⟩
      .rw[df bO];exact X
      grind
     have w:i=bB (done++td):=by
      have:=(bU.1 f).1;simp at this O⊢;omega
     rw[w,dr (bT _)] at f;simp at f;subst f;refine⟨ti,t,by rw[w];exact q,?_,?_,H⟩
     .rw[df q,bP q,I]
     grind
    rw[C];exact dh _ (h.aby x f y Q)
   let⟨R,S,T,r4⟩:=Bf.Z8 (r:=r) k _ _ (λm o=>G m (by simp[o])) U cG ⟨u++[n],by rw[v];simp⟩;grind
  rw[cC D];let⟨R,S,T,r4⟩:=Bf.Z8 k d td (λm o=>G m (by simp[o])) h P v;refine⟨R,S,T,λm o=>?_⟩;obtain rfl|o:=fA.1 o
  .obtain M|M:=cU.1 ((h.mem _).2 ⟨B,D⟩)
   .exact dh _ M
   grind
  grind
theorem sK{l:List Nat}(d:l.Nodup)(hl:∀x∈l,x<n):bB l<=n:=by have h:=tI d (l₂:=aO n) λx e=>j6.2 (hl x e);simpa using h
structure wu(L:List (List Nat))(E:iE):Prop where
 adj:∀x y:Nat,y∈L[x]?.getD []↔qv E x y
 lt:∀x y:Nat,y∈L[x]?.getD []->y<bB L
theorem MZ{L:List (List Nat)}{E:iE}(v:wu L E){a b:Nat}(o:gO E b a)(G:a<bB L):∀(f:Nat)(d td done:List Nat),Bf L b d td done->b∈done++td->bB L+1<=f+bB done->
  ∃j B i,ZB L a f d td=ah j∧Bf L b j B i∧j[a]?.getD 0≠0
 |0,d,td,done,h,_,H=>by have:=sK (l:=done) (h.nd.sublist (List.sublist_append_left _ _)) λx k=>((h.mem x).1 (dh _ k)).1;omega
 |f+1,d,td,done,h,q,H=>by
  rw[ZB.eq_def];simp only;by_cases C:d[a]?.getD 0≠0
  .grind
  rw[cC C]
  match td,h,q with
  | [],h,q=>
   exfalso;rw[gC] at q;have z:∀y,gO E b y->y∈done:=λy w=>by
    induction w with
    |refl=>exact q
    |step _ e J=>simpa using h.aby _ J _ ((v.adj _ _).2 e)
   exact C ((h.mem a).1 (dh _ (z a o))).2
  |t::r,h,q=>
   have F:t∈done++t::r:=bQ
   have I:t<bB L:=((h.mem t).1 F).1;let⟨m,⟨u,M⟩,N,O⟩:=Bf.Z8 (r:=r) (L[t]?.getD []) d (t::r) (λn D=>⟨v.lt t n D,D⟩) h F ⟨[],by simp⟩;simp only;have e:done++(jW t (L[t]?.getD []) d (t::r)).2=(done++[t])++(jW t (L[t]?.getD []) d (t::r)).2.tail:=cG
   refine MZ v o G f _ _ (done++[t]) ⟨m.len,e▸m.nd,e▸m.mem,m.root,e▸m.par,λx k y w=>?_⟩ ?_ bX
   .rw[<-e];obtain k|k:=cU.1 k
    .exact m.aby x k y w
    grind
   grind
theorem Be{L:List (List Nat)}{b:Nat}{o td done:List Nat}(h:Bf L b o td done):∀(f i x:Nat),(done++td)[i]?=ah x->i<f->
  ∃p,uk o b f x=ah p∧(x::p).getLast?=ah b∧(∀z∈p,∃j,j<i∧(done++td)[j]?=ah z)∧(x::p).Nodup∧∀k u v:Nat,(x::p)[k]?=ah u->(x::p)[k+1]?=ah v->u∈L[v]?.getD []
 |0,_,_,_,h=>by omega
 |f+1,i,x,m,S=>by
  rw[uk];by_cases e:x=b
  .simp_all
  rw[cC e];let⟨j,y,P,t,w,Q⟩:=h.par i x m e;let⟨p,q,M,N,r,O⟩:=Be h f j y t bO;rw[w,lQ,q];have d:∀z∈y::p,∃j:Nat,j<i∧(done++td)[j]?=ah z:=cG
  refine⟨y::p,rfl,by grind,d,List.nodup_cons.2 ⟨λG=>?_,r⟩,λk u v T F=>?_⟩
  .let⟨H,B,C⟩:=d x G;have D:i<bB (done++td):=(bU.1 m).1;have I:=(bU.1 C).2;have J:=(bU.1 m).2;have R:=yn.1 h.nd H i bO D B;omega
  cases k with
  |zero=>grind
  |succ k=>grind
theorem yg.of{E:iE}:∀{p:List Nat},(∀k u v:Nat,p[k]?=ah u->p[k+1]?=ah v->qv E u v)->yg E p
 | [],_=>trivial
 | [_],_=>trivial
 |a::b::r,h=>⟨h 0 a b rfl rfl,yg.of (p:=b::r) λk u v d e=>h (k+1) u v (by simpa using d) (by simpa using e)⟩
theorem FK(m:wu L E)(h:gO E a b)(f:a<bB L)(J:b<bB L):
  ∃p,BW L a b=ah (a::p)∧(a::p).Nodup∧(a::p).getLast?=ah b∧yg E (a::p)∧∀x∈a::p,x<bB L:=by
 have I:∀x,((aN (bB L) 0).set b (b+1))[x]?.getD 0=if x=b then b+1 else 0:=cG
 have z:Bf L b ((aN (bB L) 0).set b (b+1)) [b] []:=by
  refine⟨by simp,by simp,λx=>?_,by grind,λi x d F=>?_,by simp⟩
  .grind
  grind
 let⟨O,td,done,G,e,q⟩:=MZ m h.symm f (bB L+2) _ [b] [] z bQ bQ;let⟨i,N,M⟩:=gF.1 ((e.mem a).2 ⟨f,q⟩);have o:=sK e.nd λx d=>((e.mem x).1 d).1;let⟨p,H,r,t,w,y⟩:=Be e (bB L+1) i a cG bO;refine⟨p,by grind[BW],w,r,yg.of λk u v B C=>((m.adj v u).1 (y k u v B C)).symm,λx d=>?_⟩;obtain rfl|d:=fA.1 d
 .exact f
 let⟨j,_,D⟩:=t x d;exact((e.mem x).1 (cH D)).1
def fK(l:List Pr):List Pr->List Pr
 | []=>l
 |a::r=>fK (if a∈l then l else l++[a]) r
abbrev rl:=Pr×List Pr
def iP(told:List Pr)(argp:Pr->List Pr)(a:Nat):Bool->List Nat->List rl->List Pr->List rl×List Pr
 |t,x::y::r,S,G=>
  iP told argp a aL (y::r)
   ((if eT x y∈told then S else S++[(eT x y,argp (eT x y))])++(if t then[] else[(eT a y,[eT a x,eT x y])]))
   (if eT x y∈told then G else fK G (argp (eT x y)))
 |_,_,S,G=>(S,G)
def p9(L:List (List Nat))(told:List Pr)(argp:Pr->List Pr):Nat->Nat->List rl->List Pr->Option (List rl)
 |0,_,_,_=>ai
 |f+1,i,S,G=>match G[i]? with
  |none=>ah S
  |some g=>match BW L g.1 g.2 with
   |none=>ai
   |some p=>p9 L told argp f (i+1) (iP told argp g.1 aK p S G).1 (iP told argp g.1 aK p S G).2
def yC(L:List (List Nat))(told:List Pr)(argp:Pr->List Pr)(g:Pr):Option (List rl):=p9 L told argp (bB L*bB L+2) 0 [] [g]
theorem AX(Q:Pr->Prop):∀(r l:List Pr),l.Nodup->(∀q∈l,Q q)->(∀q∈r,Q q)->(fK l r).Nodup∧(∀q∈fK l r,Q q)∧(∃u,fK l r=l++u)∧∀q∈r,q∈fK l r
 | [],l,h,f,_=>⟨h,f,⟨[],by simp[fK]⟩,by simp⟩
 |a::r,l,h,f,i=>by
  rw[fK];by_cases e:a∈l
  .rw[cY e];let⟨j,k,⟨u,m⟩,o⟩:=AX Q r l h f (λq d=>i q (by simp[d]));grind
  rw[cC e];let⟨j,k,⟨u,m⟩,o⟩:=AX Q r (l++[a]) (by
   grind) (λq d=>by
   grind) (λq d=>i q (by simp[d]))
  grind
variable{g:Pr}
theorem ET.mono{G f:List Pr}{S i:List rl}(h:ET E told G S argp g p)(o:∀q∈G,q∈f)(j:∀q∈S,q∈i):ET E told f i argp g p:=
 ⟨h.nd,h.last,h.pth,λk x y d e=>(h.link k x y d e).imp (λx=>x) λz=>⟨j _ z.1,λq r=>o q (z.2 q r)⟩,λk x y m d e=>j _ (h.pre k x y m d e)⟩
theorem yD{E:iE}{told:List Pr}{argp:Pr->List Pr}{Q:Pr->Prop}(j:∀x y,qv E x y->eT x y∉told->∀q∈argp (eT x y),Q q)(a):∀(p:List Nat)(t:Bool)(S:List rl)(G:List Pr),yg E p->G.Nodup->(∀q∈G,Q q)->
  (iP told argp a t p S G).2.Nodup∧(∀q∈(iP told argp a t p S G).2,Q q)∧(∃u,(iP told argp a t p S G).2=G++u)∧(∀q∈S,q∈(iP told argp a t p S G).1)∧
  (∀k x y:Nat,p[k]?=ah x->p[k+1]?=ah y->eT x y∈told∨((eT x y,argp (eT x y))∈(iP told argp a t p S G).1∧∀q∈argp (eT x y),q∈(iP told argp a t p S G).2))∧
  (∀k x y:Nat,(1<=k∨t=aL)->p[k]?=ah x->p[k+1]?=ah y->(eT a y,[eT a x,eT x y])∈(iP told argp a t p S G).1)
 | [],t,S,G,_,h,d=>⟨h,d,⟨[],by simp[iP]⟩,λ_ h=>h,λk x y e=>by simp at e,λk x y _ e=>by simp at e⟩
 | [z],t,S,G,_,h,d=>⟨h,d,⟨[],by simp[iP]⟩,λ_ h=>h,λk x y _ e=>by simp at e,λk x y _ _ e=>by simp at e⟩
 |x::y::r,t,S,G,hp,h,d=>by
  rw[iP];have f:(if eT x y∈told then G else fK G (argp (eT x y))).Nodup∧(∀q∈(if eT x y∈told then G else fK G (argp (eT x y))),Q q)∧(∃u,(if eT x y∈told then G else fK G (argp (eT x y)))=G++u)∧(eT x y∉told->∀q∈argp (eT x y),q∈(if eT x y∈told then G else fK G (argp (eT x y)))):=by
   by_cases e:eT x y∈told
   .simp_all
   simp only[cC e];let⟨m,o,M,v⟩:=AX Q (argp (eT x y)) G h d (j x y hp.1 e);grind
  obtain⟨D,F,⟨u,R⟩,T⟩:=f;have i:∀q∈S,q∈(if eT x y∈told then S else S++[(eT x y,argp (eT x y))])++(if t then[] else[(eT a y,[eT a x,eT x y])]):=cG
  have H:eT x y∉told->(eT x y,argp (eT x y))∈(if eT x y∈told then S else S++[(eT x y,argp (eT x y))])++(if t then[] else[(eT a y,[eT a x,eT x y])]):=cG
  have I:t=aL->(eT a y,[eT a x,eT x y])∈(if eT x y∈told then S else S++[(eT x y,argp (eT x y))])++(if t then[] else[(eT a y,[eT a x,eT x y])]):=cG
  generalize(if eT x y∈told then S else S++[(eT x y,argp (eT x y))])++(if t then[] else[(eT a y,[eT a x,eT x y])])=S1 at *;generalize(if eT x y∈told then G else fK G (argp (eT x y)))=w at *;let⟨m,o,⟨N,M⟩,v,V,X⟩:=yD j a (y::r) aL S1 w hp.2 D F;refine⟨m,o,⟨u++N,by grind⟩,λq J=>v q (i q J),λk O P B C=>?_,λk O P U B C=>?_⟩
  .cases k with
   |zero=>grind
   |succ k=>grind
  cases k with
  |zero=>grind
  |succ k=>grind
theorem xD{l:List Pr}(d:l.Nodup)(hl:∀q∈l,q.1<n∧q.2<n):bB l<=n*n:=by
 have h:=tI d (l₂:=(aO n).flatMap λa=>(aO n).map λb=>(a,b)) (λq f=>by grind)
 have e:bB ((aO n).flatMap λa=>(aO n).map λb=>(a,b))=n*n:=by
  rw[qe];simp only[eG,iu];have:∀(l:List Nat),(l.map λ_=>n).sum=bB l*n:=λl=>by
   induction l with
   |nil=>simp
   |cons x l i=>grind
  grind
 omega
theorem Ed{L:List (List Nat)}{E:iE}(J:wu L E){told:List Pr}{argp:Pr->List Pr}(M:∀x y,qv E x y->eT x y∉told->∀q∈argp (eT x y),gO E q.1 q.2∧q.1<bB L∧q.2<bB L):∀(f i:Nat)(S:List rl)(G:List Pr),G.Nodup->(∀q∈G,gO E q.1 q.2∧q.1<bB L∧q.2<bB L)->
  (∀j g,j<i->G[j]?=ah g->∃p,ET E told G S argp g p)->bB L*bB L+2<=f+i->i<=bB G->
  ∃m e,p9 L told argp f i S G=ah m∧(∃u,e=G++u)∧(∀q∈S,q∈m)∧(∀q∈e,gO E q.1 q.2∧q.1<bB L∧q.2<bB L)∧∀g∈e,∃p,ET E told e m argp g p
 |0,i,S,G,D,o,_,hf,hi=>by have:=xD D λq v=>(o q v).2;omega
 |f+1,i,S,G,D,o,N,hf,hi=>by
  rw[p9];cases t:G[i]? with
  |none=>have aa:=yo.1 t;refine⟨S,G,rfl,⟨[],by simp⟩,λ_ h=>h,o,λg d=>?_⟩;let⟨j,hj,r⟩:=gF.1 d;exact N j g bO cG
  |some g=>
   have d:=cH t;have ab:=(bU.1 t).1;let⟨w,z,B⟩:=o g d;let⟨p,Y,Z,e3,I,e5⟩:=FK J w z B;simp only[Y];let⟨O,P,⟨u,R⟩,H,T,U⟩:=yD (Q:=λq=>gO E q.1 q.2∧q.1<bB L∧q.2<bB L) M g.1 (g.1::p) aK S G I D o;generalize iP told argp g.1 aK (g.1::p) S G=X at *;obtain⟨S1,V⟩:=X;simp only at O P R H T U;let⟨m,e,k1,⟨u2,k2⟩,k3,k4,k5⟩:=Ed J M f (i+1) S1 V O P (λj g' hj r=>by
    rw[R,df bO] at r;by_cases C:j=i
    .subst C;rw[t] at r;cases r
     exact⟨p,Z,e3,I,T,λk x y hk h1 h2=>U k x y (cB hk) h1 h2⟩
    let⟨p',F⟩:=N j g' bO r;exact⟨p',F.mono (λq v=>by grind) H⟩) bO cG
   exact⟨m,e,k1,⟨u++u2,by grind⟩,λq v=>k3 q (H q v),k4,k5⟩
theorem Ec(w:wu L E)(v:yj E)(m:∀p,∀q∈argp p,q.1<=q.2∧q.1<bB L∧q.2<bB L)(k:∀s (h:s<bB E),eT (E[s]).1 (E[s]).2∈told∨∀q∈argp (eT (E[s]).1 (E[s]).2),gO (E.take s) q.1 q.2)(J:gO E g.1 g.2)(B:g.1<bB L)(C:g.2<bB L):
  ∃S,yC L told argp g=ah S∧∀F:Pr->Prop,(∀a,F (a,a))->(∀p∈told,F p)->(∀st∈S,(∀q∈st.2,F q)->F st.1)->F (eT g.1 g.2):=by
 have z:∀x y,qv E x y->eT x y∉told->∀q∈argp (eT x y),gO E q.1 q.2∧q.1<bB L∧q.2<bB L:=λx y i N q f=>by
  have d:∃s,∃hs:s<bB E,eT (E[s]).1 (E[s]).2=eT x y:=by
   obtain h|h:=i
   .grind[List.mem_iff_getElem]
   grind[List.mem_iff_getElem,vF]
  obtain⟨s,hs,e⟩:=d;have:=k s hs;rw[e] at this;obtain h|h:=this
  .grind
  exact⟨(h q f).mono λx D=>je D,(m _ q f).2⟩
 let⟨S,G,k1,⟨u,k2⟩,_,k4,H⟩:=Ed w z (bB L*bB L+2) 0 [] [g] bQ cG (λj I M=>by omega) bO bO;refine⟨S,k1,λF o r t=>?_⟩;exact Io v o r t (λp q f=>(m p q f).1) k H (bB E) g (by rw[k2];simp) cG
theorem oD(b):∀(e:List aA)(o:Nat)(W:ay)(k:Nat),k≠b->(W.setCells b o e).heap[k]?=W.heap[k]?
 | [],_,_,_,_=>rfl
 |v::r,o,W,k,d=>by rw[World.setCells,oD b r (o+1) _ k d];exact cO _ _ _ _ d
theorem wh(b):∀(e:List aA)(o:Nat)(W:ay)(cs:List aA)(d:aE)(z:Nat×Nat),W.heap[b]?=ah (aR cs.toArray d z)->o+bB e<=bB cs->
  (W.setCells b o e).heap[b]?=ah (aR (cs.take o++e++cs.drop (o+bB e)).toArray d z)
 | [],o,W,cs,d,z,h,_=>by simp[World.setCells,h]
 |v::r,o,W,cs,d,z,h,hl=>by
  simp[ed] at hl;have i:(aW W (az b o) v).heap[b]?=ah (aR (cs.set o v).toArray d z):=by grind[aW]
  rw[World.setCells,wh b r (o+1) _ (cs.set o v) d z i bX];congr 3;have f:o<bB cs:=bO
  have j:(cs.set o v).take (o+1)=cs.take o++[v]:=by rw[O8,cY f,List.take_append,fB];simp[ik (ir f),List.take_take]
  grind[List.drop_set_of_lt]
theorem rY(S){b:Nat}(d:S b):∀(e:List aA)(o:Nat)(w W:ay),bI S w W->bI S w (W.setCells b o e)
 | [],_,_,_,h=>h
 |v::r,o,w,_,h=>rY S d r (o+1) w _ (h.setCell (p:=az b o) d v)
theorem uq(A X Y):iK A (X++Y)=iK A X++iK A Y:=by simp[iK]
theorem DZ(A):∀(L:List (Nat×Nat))(k:Nat),(iK A L).take (k*2)=iK A (L.take k)
 |_,0=>by simp[iK]
 | [],k+1=>by simp[iK]
 |x::L,k+1=>by
  have:(k+1)*2=k*2+1+1:=bO
  rw[this];simp[iK,gS,eU,ff,List.take_succ_cons];have e:=DZ A L k;grind[iK]
theorem vh(A):∀(L:List (Nat×Nat))(k:Nat),(iK A L).drop (k*2)=iK A (L.drop k)
 |_,0=>by simp
 | [],k+1=>by simp[iK]
 |x::L,k+1=>by
  have:(k+1)*2=k*2+1+1:=bO
  rw[this];simp[iK,gS,eU,ff,KT];have e:=vh A L k;grind[iK]
theorem Sz(A){L:List (Nat×Nat)}{k o:Nat}(h:L[k]?=ah (c,o)):(iK A L)[k*2]?=ah (A.ptr (.clause c))∧(iK A L)[k*2+1]?=ah (i32 o):=by
 let⟨f,d⟩:=bU.1 h;have e:=vh A L k;rw[dP f,d] at e;constructor
 .have:((iK A L).drop (k*2))[0]?=ah (A.ptr (.clause c)):=by rw[e];simp[iK]
  grind
 have:((iK A L).drop (k*2))[1]?=ah (i32 o):=by rw[e];simp[iK]
 grind
variable{W:ay}{A:Ad}
theorem Mem.T9{L:List (Nat×Nat)}(hl:l<bB s.ws)(h:Mem W A (s.gD l L))(u:A.fY (.win l)=ah b)(k Y)(D:k+bB Y<=bB L):
  Mem (W.setCells b (k*2) (iK A Y)) A (s.gD l (L.take k++Y++L.drop (k+bB Y))):=by
 have w:=jx hl L;have y:=jx hl (L.take k++Y++L.drop (k+bB Y));have v:bB (L.take k++Y++L.drop (k+bB Y))=bB L:=bX
 have m:∀d,bB ((s.gD l (L.take k++Y++L.drop (k+bB Y))).gj d)=bB ((s.gD l L).gj d):=cG
 have q:(s.gD l (L.take k++Y++L.drop (k+bB Y))).ws.map bB=(s.gD l L).ws.map bB:=by simp_all[Sv.gD]
 have o:eA A (s.gD l (L.take k++Y++L.drop (k+bB Y))) .wout=eA A (s.gD l L) .wout:=by
  simp only[eA];apply iv;intro j;rw[jH,jH];have:=congrArg (λx=>x[j]?) q;simp only[fN] at this;cases f:(s.gD l (L.take k++Y++L.drop (k+bB Y))).ws[j]? with
  |none=>grind
  |some x=>grind
 have fS:∀r,r≠.win l->eA A (s.gD l (L.take k++Y++L.drop (k+bB Y))) r=eA A (s.gD l L) r:=λr F=>by
  cases r<;>first|rfl|exact o|skip
  grind[eA]
 refine⟨h.inj,λr b1 i=>?_,h.fix,h.cls,h.rows,λd e=>?_,h.I3,h.I2,h.even,λr z=>?_,h.flat,h.lv,by simpa[Sv.gD] using h.lw,h.ls,h.lp,h.small,h.DJ⟩
 .by_cases f:r=.win l
  .subst f;rw[u] at i;cases i
   have t:=h.has _ _ u;simp only[eA,w,iX] at t;rw[wh b _ _ _ _ _ _ t (by simp[jL];omega)];simp only[eA,y,iX];congr 3;rw[iJ (by simp[jL];omega),DZ,jL,<-rB,List.drop_append_of_le_length (by simp[jL];omega),vh,uq,uq];simp
  rw[fS r f,oD b _ _ _ _ λB=>f (h.inj _ _ _ i cG)];exact h.has r b1 i
 .have:=h.win d e;grind
 have C:=h.GF r z;have:kg (s.gD l (L.take k++Y++L.drop (k+bB Y))) r=kg (s.gD l L) r:=by
  cases r<;>first|rfl|skip
  case win d=>exact m d
 omega
theorem Mem.V4{X Y:List (Nat×Nat)}(hl:l<bB s.ws)(h:Mem W A (s.gD l (X++Y))){P:Nat}(v:A.fY .wout=ah P)(H:A.fY (.win l)=ah b):
  Mem (aW W (az P l) (.slice (ah (az b 0)) (bB X) (bB X+bB Y+bB (A.sp (.win l)) / 2))) (A.up (.win l) b (iK A Y++A.sp (.win l))) (s.gD l X):=by
 have U:=jx hl (X++Y);have V:=jx hl X;have i:∀r,(A.up (.win l) b (iK A Y++A.sp (.win l))).fY r=A.fY r:=λr=>by show(if r=.win l then ah b else A.fY r)=_;grind
 have q:∀r,r≠.win l->(A.up (.win l) b (iK A Y++A.sp (.win l))).sp r=A.sp r:=λr y=>cC y;have C:(A.up (.win l) b (iK A Y++A.sp (.win l))).sp (.win l)=iK A Y++A.sp (.win l):=cY rfl;have B:∀r k z,r≠.win l->(A.up (.win l) b (iK A Y++A.sp (.win l))).jM r k z=A.jM r k z:=λr k z y=>by unfold Ad.jM;rw[i r,q r y]
 have t:∀r,(A.up (.win l) b (iK A Y++A.sp (.win l))).ptr r=A.ptr r:=λr=>by unfold Ad.ptr;rw[i r]
 have N:∀x,iK (A.up (.win l) b (iK A Y++A.sp (.win l))) x=iK A x:=λx=>congrArg (λf=>x.flatMap f) (funext λw=>by rw[t]);let⟨D,o⟩:=h.even (.win l) rfl;have o:bB (A.sp (.win l))=D*2:=o;have Q:bB (iK A Y++A.sp (.win l)) / 2=bB Y+D:=by rw[cR,jL,o];omega
 have I:bB (A.sp (.win l)) / 2=D:=by rw[o];omega
 have S:(A.up (.win l) b (iK A Y++A.sp (.win l))).jM (.win l) (bB X) 2=.slice (ah (az b 0)) (bB X) (bB X+bB Y+bB (A.sp (.win l)) / 2):=by grind[Ad.jM]
 have fS:∀r,r≠.win l->r≠.wout->eA (A.up (.win l) b (iK A Y++A.sp (.win l))) (s.gD l X) r=eA A (s.gD l (X++Y)) r:=by
  intro r m G;cases r<;>first|exact absurd rfl G|skip
  case win O=>grind[eA]
  all_goals simp only[eA,ql]
  all_goals first|rfl|skip
  all_goals simp[B,q,t,Sv.gD,Sv.lits]
  all_goals first|rfl|exact⟨rfl,rfl⟩
 have R:eA (A.up (.win l) b (iK A Y++A.sp (.win l))) (s.gD l X) .wout=(eA A (s.gD l (X++Y)) .wout).set l (.slice (ah (az b 0)) (bB X) (bB X+bB Y+bB (A.sp (.win l)) / 2)):=by
  simp only[eA,Sv.gD];apply iv;intro j;by_cases e:l=j
  .grind
  grind
 refine⟨λr T b1 m G=>h.inj r T b1 ((i r).symm.trans m) ((i T).symm.trans G),λr b1 m=>?_,λr y=>by rw[i];exact h.fix r y,λd=>by rw[i];exact h.cls d,λd=>by rw[i];exact h.rows d,λO e=>?_,λe=>h.I3 ((i _).symm.trans e),λe=>h.I2 ((i _).symm.trans e),λr J=>?_,λr J=>?_,?_,h.lv,by simpa[Sv.gD] using h.lw,h.ls,h.lp,h.small,h.DJ⟩
 .rw[i] at m;by_cases u:r=.win l
  .subst u;rw[H] at m;cases m
   have M:b≠P:=λe=>by have:=h.inj _ _ _ H (e▸v);cases this
   rw[cO _ _ _ _ M,h.has _ _ H];simp only[eA,N,U,V,iX,C,uq,fW]
  by_cases F:r=.wout
  .subst F;rw[v] at m;cases m
   have h3:=h.has _ _ v;grind[aW]
  rw[fS r u F,cO _ _ _ _ λe3=>F (h.inj _ _ _ m cG)];exact h.has r b1 m
 .rw[i] at e;have:=h.win O e;grind
 .by_cases u:r=.win l
  .subst u;exact⟨bB Y+D,by grind[lL,List.length_append,jL]⟩
  rw[q r u];exact h.even r J
 .have Z:=h.GF r J;by_cases u:r=.win l
  .grind[kg,lL]
  rw[q r u];have:kg (s.gD l X) r=kg (s.gD l (X++Y)) r:=by
   cases r<;>first|rfl|skip
   case win O=>grind[kg]
  rw[this];exact Z
 have hf:=h.flat;grind
def Mem.alloc(h:Mem W A s)(O):Mem (bC W O) A s:=h.keep λ_ ⟨_,d⟩=>dB _ _ _ (h.lt d)
def Step.alloc{w:ay}{d:Ad}(h:Step w W A d s)(O):Step w (bC W O) A d s:=h.trans ⟨h.mem.alloc O,(bW _ W).alloc O,λ_ e=>cB e⟩
end
section
variable{P:Program}{ops:Array Oper}{o:Oper}{a:Act}{Q:Exit->Act->ay->Prop}
theorem rM(w){h:List Oper}(D:o.guard=ai)(s x:Operand)(t:aE)(q:o.op=Op.call {callee:=Callee.builtin Builtin.append,args:=#[s,x],argTypes:=#[t,t]})(e:aE)(i:TypeInfo)(size)(v:P.underlying t=ah (.slice e))(y:P.info? e=ah i)(z:i.size=size)(b n f)(hs:a.eval s=aj (ah (az b 0)) n f)(k m c d)(I:a.eval x=aj (ah k) m c)(F:bB d=m*size)(C:∀j u,d[j]?=ah u->aU w (k.add j)=ah u)(l:∀u∈d,u.oneCell'=aK)(G:n+m<=f)(H:∀j,j<bB d->(aU w ⟨b,n*size+j,ai⟩).isSome=aK∧bG w ⟨b,n*size+j,ai⟩=aL)(B:wpList P ops Q h (a.put o.dst (aj (ah (az b 0)) (n+m) f)) (w.setCells b (n*size) d)):
  wpList P ops Q (o::h) a w:=by
 refine wpList_plain D λK p=>?_;subst z;have g:=run_append_room_cells (P:=P) w t o.type e i v y b 0 n f k m c d F C l G (λj E=>by grind) (λj E=>by grind);rw[fM] at g;unfold Oper.wp;simp[execOp,q,resolve,invoke,builtin,hs,I,g,Result.andThen];exact p _ _ B
def Ad.opt(A:Ad):Option Nat->aA
 |none=>ak ai
 |some c=>A.ptr (.clause c)
def Vis(w W:ay)(A:Ad)(s:Sv)(gone b i k:Nat):Prop:=
 ∃(A1:Ad)(s1:Sv)(stay mid:List (Nat×Nat)),bB stay=k∧bB stay+bB mid=i∧i<=bB (s.gj gone)∧Step w W A A1 (s1.gD gone (stay++mid++(s.gj gone).drop i))∧
  Fit (s1.gD gone (stay++(s.gj gone).drop i))∧s1.val gone=-1∧Sv.jA gone ((s.gj gone).drop i) stay s1=s.visit gone∧A1.fY (.win gone)=ah b∧A1.sp (.win gone)=A.sp (.win gone)∧
  (∀r,r≠.dX->(∀l,r≠.win l)->A1.fY r=A.fY r∧A1.sp r=A.sp r)∧s1.n=s.n∧bB s1.cl=bB s.cl∧bB s1.ws=bB s.ws
variable{W w:ay}{A:Ad}{s s1:Sv}
theorem Mem.D0(h:Mem W A s){d:Nat}(c:A.fY .jg=ah d){l:Nat}(hl:l<2*s.n+2):cz W d l (.int .i8 (s.val l)):=by
 refine h.cell c ?_;show(s.jg.map _)[l]?=_;have e:l<bB s.jg:=by rw[h.lv];exact hl
 grind[Sv.val]
variable{gone b i sb:Nat}
theorem Vis.start(h:Mem w A s)(g:Fit s)(d:gone<bB s.ws)(f:s.val gone=-1)(c:A.fY (.win gone)=ah b):Vis w w A s gone b 0 0:=by
 refine⟨A,s,[],[],rfl,rfl,dt _,?_,?_,f,rfl,c,rfl,λ_ _ _=>⟨rfl,rfl⟩,rfl,rfl,rfl⟩
 .simp only[ff,lT];rw[vy d];exact⟨h,bW _ _,λ_ e=>cB e⟩
 grind[vy]
theorem Sy(A c o):iK A [(c,o)]=[A.ptr (.clause c),i32 o]:=by simp[iK]
theorem Step.push{l:Ad}{d j g:List (Nat×Nat)}{x:Nat×Nat}(q:gone<bB s1.ws)(h:Step w W A l (s1.gD gone (d++j++x::g)))(n:l.fY (.win gone)=ah b)(c o):
  ∃f,bB f=bB j∧Step w (W.setCells b (bB d*2) [l.ptr (.clause c),i32 o]) A l (s1.gD gone (d++[(c,o)]++f++g)):=by
 have P:=h.mem.T9 q n (bB d) [(c,o)] bX;rw[Sy] at P;obtain⟨y,f,u⟩:∃y f,j++[x]=y::f:=by
  cases j with
  |nil=>exact⟨x,[],rfl⟩
  |cons z m=>exact⟨z,m++[x],rfl⟩
 have k:bB f=bB j:=by have:=congrArg bB u;simp at this;omega
 have e:d++j++x::g=d++(y::(f++g)):=cG
 have p:(d++j++x::g).take (bB d)++[(c,o)]++(d++j++x::g).drop (bB d+[(c,o)].length)=d++[(c,o)]++f++g:=cG
 rw[p] at P;exact⟨f,k,h.trans ⟨P,rY _ ⟨_,n⟩ _ _ _ _ (bW _ _),λ_ t=>cB t⟩⟩
variable{r:nW}
theorem Mem.spare(h:Mem W A s)(c:A.fY r=ah b)(d:i<bB (eA A s r)):(aU W (az b i)).isSome=aK∧bG W (az b i)=aL:=by rw[h.cell c (bP d)];exact⟨rfl,h.frozen c i⟩
theorem Mem.Fs(h:Mem W A s){v:aA}(c:A.fY r=ah b)(d:(eA A s r)[i]?=ah v):Mem (aW W (az b i) v) A s:=by refine {h with has:=h.set c i v ?_ (λ_ _=>rfl)};grind[List.getElem?_eq_some_iff,List.set_getElem_self]
theorem Ab{K:Act->ay->Prop}{E:Prop}(C:o.guard=ai)(s x:Operand)(t:aE)(l:o.op=Op.call {callee:=Callee.builtin Builtin.append,args:=#[s,x],argTypes:=#[t,t]})(e:aE)(i:TypeInfo)(size)(q:P.underlying t=ah (.slice e))(v:P.info? e=ah i)(y:i.size=size)(b n f)(hs:a.eval s=aj (ah (az b 0)) n f)(h m c d)(J:a.eval x=aj (ah h) m c)(F:bB d=m*size)(B:∀j u,d[j]?=ah u->aU w (h.add j)=ah u)(k:∀u∈d,u.oneCell'=aK)(G:n+m<=f)(H:∀j,j<bB d->(aU w ⟨b,n*size+j,ai⟩).isSome=aK∧bG w ⟨b,n*size+j,ai⟩=aL)(z:∀p,p=w.setCells b (n*size) d->K (a.put o.dst (aj (ah (az b 0)) (n+m) f)) p):
  if Region.wanted o (yielded ops a.tmps)=aK then Oper.wp P o a w K Q else E:=by
 have I:Region.wanted o (yielded ops a.tmps)=aK:=by simp[Region.wanted,C]
 rw[cY I];subst y;have g:=run_append_room_cells (P:=P) w t o.type e i q v b 0 n f h m c d F B k G (λj D=>by grind) (λj D=>by grind);rw[fM] at g;unfold Oper.wp;simp[execOp,l,resolve,invoke,builtin,hs,J,g,Result.andThen];exact z _ rfl
theorem SB(w A s)(h:Mem w A s)(hF:Fit s)(sb)(cy:A.fY .search=ah sb)(gone)(ce:gone<2*s.n+2)(f5:s.val gone=-1)(gv:bB s.cl<=4398046511100):
  aB prog 210 #[pz sb,i32 gone] w λe w'=>e=aw (A.opt (s.visit gone).1)∧∃A',Step w w' A A' (s.visit gone).2∧Fit (s.visit gone).2∧∀r,r≠.dX->(∀l,r≠.win l)->A'.fY r=A.fY r∧A'.sp r=A.sp r:=by
 let⟨wb,a5⟩:=h.fix .wout rfl;have c1:=h.cell cy (i:=1) rfl;simp only[Ad.jM,a5,h.flat.2.1,dQ,gP,fH] at c1;have ch:gone<bB s.ws:=by rw[h.lw];exact ce
 have g1:=h.cell a5 (i:=gone) (v:=A.jM (.win gone) (bB (s.gj gone)) 2) (by grind[eA,Sv.gj])
 have f1:=h.frozen a5 gone;have dg:(gone:Int)<2*(s.n:Int)+2:=bO
 unfold i32;cases hb:A.fY (.win gone) with
 |none=>
  have dl:=h.win gone hb;simp only[Ad.jM,hb] at g1;have HM:=bL h;have HF:=bL hF;go_enter func210,ntmps210
  go_wp2
  go_loopw[6,21] (λt6 cm W=>t6=aj ai 0 0∧cm=iz 0∧W=w) λ_ _ _=>0
  case atStart=>exact⟨rfl,rfl,rfl⟩
  case round=>
   obtain⟨rfl,rfl,rfl⟩:=hrel
   go_wp2;go_ret;have hv:s.visit gone=(ai,s):=by unfold Sv.visit;rw[dl];have:=vy ch;rw[dl] at this;exact congrArg (Prod.mk ai) this
   rw[hv];have M2:Mem (aW wr (az wb gone) (aj ai 0 0)) A s:=HM.out.Fs a5 (by simp only[eA,jH,bP ch,kY,Ad.jM,hb])
   exact⟨rfl,A,⟨M2,(bW _ _).setCell (p:=az wb gone) ⟨_,a5⟩ _,λ_ hk=>cB hk⟩,HF.out,λ_ _ _=>⟨rfl,rfl⟩⟩
 |some b=>
  simp only[Ad.jM,hb] at g1;have V0:=Vis.start h hF ch f5 hb;have eh:=h.GF (.win gone) rfl;simp only[kg,lL] at eh;have gx:bB (s.gj gone)<=bB s.cl:=hF.Ln gone;generalize a1:bB (s.gj gone)=len at *;generalize cr:len+bB (A.sp (.win gone)) / 2=F at *;let⟨vb,f4⟩:=h.fix .jg rfl;have g2:=h.small;have gt:b≠sb:=λe=>by have:=h.inj _ _ _ hb (e▸cy);cases this
  go_enter func210,ntmps210
  go_wp2
  go_loopw[6,21] (λt6 cm W=>∃i k:Nat,t6=aj (ah (az b 0)) k F∧cm=iz i∧Vis w W A s gone b i k) λ_ cm _=>len-(aG cm).toNat
  case atStart=>grind
  case round=>
   obtain⟨i,k,rfl,rfl,A1,s1,d,n,hk,d6,fv,S1,F1,bi,al,J,ad,z,B,ab,U⟩:=hrel;rw[a1] at fv;by_cases fy:i<len
   .have fu:i<bB (s.gj gone):=by rw[a1];exact fy
    obtain⟨c,o,fm⟩:∃c o,(s.gj gone)[i]=(c,o):=⟨_,_,rfl⟩
    have d4:(s.gj gone).drop i=(c,o)::(s.gj gone).drop (i+1):=by rw[dP fu,fm]
    rw[d4] at S1 F1 al;have M1:=S1.mem;have y:gone<bB s1.ws:=by rw[U];exact ch
    have WW:=jx y (d++n++(c,o)::(s.gj gone).drop (i+1));let⟨hc,ho,a0,b0,r0,cv,f8⟩:=F1.gj gone (c,o) (by rw[jx y,cY rfl];simp);have hc:c<bB s1.cl:=hc;have ho:o∈s1.lits c:=ho;have cv:s1.lits c=a0::b0::r0:=cv;have dk:∀l∈s1.lits c,l<2*s.n+2:=λl hl=>by rw[<-B];exact(F1.cls c).2 l hl
    have et:=dk o ho;let⟨E,cp⟩:=(M1.cls c).2 hc;have S:A1.fY .search=ah sb:=(z .search bS eZ).1.trans cy;have ag:A1.fY .jg=ah vb:=(z .jg bS eZ).1.trans f4;have G:A1.fY .wout=ah wb:=(z .wout bS eZ).1.trans a5;have ei:(d++n++(c,o)::(s.gj gone).drop (i+1))[i]?=ah (c,o):=by rw[dr bX];simp[d6]
    have X:eA A1 (s1.gD gone (d++n++(c,o)::(s.gj gone).drop (i+1))) (.win gone)=iK A1 (d++n++(c,o)::(s.gj gone).drop (i+1))++A1.sp (.win gone):=by simp only[eA,WW,iX]
    have M:bB (d++n++(c,o)::(s.gj gone).drop (i+1))=len:=bX
    let⟨q1,q2⟩:=Sz A1 ei;have e1:=M1.cell J (i:=i*2) (v:=pz E) (by rw[X,df (by rw[jL,M];omega),q1];simp[Ad.ptr,cp]);have e2:=M1.cell J (i:=i*2+1) (v:=i32 o) (by rw[X,df (by rw[jL,M];omega),q2]);have c0:=M1.cell S (i:=0) rfl;simp only[Ad.jM,ag,M1.flat.1,dQ,gP,fH,show(s1.gD gone (d++n++(c,o)::(s.gj gone).drop (i+1))).n=s.n from B] at c0;have vo:=M1.D0 ag (l:=o) (by show o<2*s1.n+2;rw[B];exact et);rw[show(s1.gD gone (d++n++(c,o)::(s.gj gone).drop (i+1))).val o=s1.val o from rfl] at vo;unfold i32 at e2;have gf:(o:Int)<2*(s.n:Int)+2:=bO
    have eI:=bL M1;have dy:=bL S1;have ao:=bL F1;have HV:=bL al;have b8:=bL z;have e9:=bL dk
    go_wp2;have a2:¬A1.gE wr.heap.size:=λ⟨r,hr⟩=>by have:=eI.out.lt hr;omega
    have S2:=dy.out.alloc (aR #[pz E,.int .i32 o] 274);have dc:(bC wr (aR #[pz E,.int .i32 o] 274)).heap[wr.heap.size]?=ah (aR #[pz E,.int .i32 o] 274):=eW _ _;have de:wr.heap.size<(bC wr (aR #[pz E,.int .i32 o] 274)).heap.size:=bQ
    generalize(bC wr (aR #[pz E,.int .i32 o] 274))=w2 at *;generalize wr.heap.size=Y at *;have M2:=S2.mem;have c0:=M2.cell S (i:=0) rfl;simp only[Ad.jM,ag,M2.flat.1,dQ,gP,fH,show(s1.gD gone (d++n++(c,o)::(s.gj gone).drop (i+1))).n=s.n from B] at c0;have vo:=M2.D0 ag (l:=o) (by show o<2*s1.n+2;rw[B];exact et);rw[show(s1.gD gone (d++n++(c,o)::(s.gj gone).drop (i+1))).val o=s1.val o from rfl] at vo;have x0:aU w2 (az Y 0)=ah (pz E):=by simp[aU,dc]
    have x1:aU w2 (az Y 1)=ah (.int .i32 o):=by simp[aU,dc]
    have b6:=bL M2;have dz:=bL S2;have f6:IntKind.i64.wrap ((i:Int)+1)=(i:Int)+1:=aew
    have fd:Hid (∀(m:Nat)(O:Obj)(j:Nat),j<2->(aU (bC (bF w2 m) O) ⟨b,k*2+j,ai⟩).isSome=aK∧bG (bC (bF w2 m) O) ⟨b,k*2+j,ai⟩=aL):=λm O j hj=>by refine((b6.out.keep (W':=bF w2 m) λ_ _=>rfl).alloc O).spare J ?_;rw[X,cR,jL,M];omega
    let⟨i0,d5,g3,dA,g4⟩:=eB yX;by_cases c8:s1.val o=1
    .rw[c8] at vo;go_quiet(fail)
     go_wp2_with(first|(at_builtin;refine dM ?_));delta aH;refine rM _ rfl _ _ 272 rfl 274 i0 2 underlying272 d5 dA b k F rfl (az _ 0) 1 1 [pz E,.int .i32 o] rfl rfl (qE (bF w2 nq) _ _ _) cM bO (fd.out nq _) ?_
     go_wp2;let⟨g,fz,S5⟩:=Step.push y ((dz.out.trans (kI b6.out nq)).alloc (aR #[pz E,.int .i32 o] 274)) J c o;have hp:A1.ptr (.clause c)=pz E:=by simp[Ad.ptr,cp]
     rw[hp,hk] at S5;have N:=HV.out;rw[Sv.jA,cY c8] at N;refine⟨⟨i+1,k+1,rfl,by simp,A1,s1,d++[(c,o)],g,by simp[hk],by simp;omega,by omega,S5,?_,bi,N,J,ad,b8.out,B,ab,U⟩,by simp[aG];omega⟩;have:=ao.out;rwa[show d++(c,o)::(s.gj gone).drop (i+1)=d++[(c,o)]++(s.gj gone).drop (i+1) from by simp] at this
    have gn:(s1.val o==1)=aL:=by simpa using c8
    have N:=HV.out;rw[Sv.jA,cC c8] at N;have ee:=bL N;have e8:Hid _:=Fit.gH y ao.out bi;have MV:Hid (∀m,aB prog 241 #[pz sb,pz E,.int .i32 gone] (bF w2 m) λe w'=>e=aw (.bool (s1.gH c gone).1)∧∃A',Step (bF w2 m) w' A1 A' ((s1.gH c gone).2.gD gone (d++n++(c,o)::(s.gj gone).drop (i+1)))∧∀r,(∀l,s1.val l≠-1->r≠.win l)->A'.fY r=A1.fY r∧A'.sp r=A1.sp r):=λm=>by
     have C:=UE (bF w2 m) (s1.gD gone (d++n++(c,o)::(s.gj gone).drop (i+1))) (b6.out.keep λ_ _=>rfl) sb S c E cp a0 b0 r0 cv (λl hl=>by show l<2*s1.n+2;rw[B];exact e9.out l hl) gone (by show gone<2*s1.n+2;rw[B];exact ce) (by
      have h1:=ao.out.YJ c;have R:bB (s1.lits c)<=2*s1.n+2:=h1;show bB (s1.lits c)<=4002;rw[B] at R;omega) (λl=>by
      rw[jx y]
      split
      .rw[M];omega
      next e=>have h1:=ao.out.Ln l;rw[jx y,cC e] at h1;have R:bB (s1.gj l)<=bB s1.cl:=h1;rw[ab] at R;omega)
     rw[Mj bi] at C;exact C
    generalize s1.val o=g5 at *;have ej:∀l,s1.val l≠-1->nW.win gone≠.win l:=λl hl e=>by cases e;exact hl bi
    have cn:=bL ej;obtain⟨t,d9⟩:=bK ((s1.gH c gone).2);have cE:=e8.out;rw[<-d9] at cE;obtain⟨ck,bb,ez,a7,an,f3,f2⟩:=cE;have eK:=bL f3;have eJ:=bL f2;have c6:t.val gone=-1:=by unfold Sv.val at bi⊢;rw[bb];exact bi
    by_cases hm:(s1.gH c gone).1=aK
    .have ca:=MV.out;have bc:=ee.out;simp only[hm,iX,<-d9] at ca bc;have b7:=bL ca;have ap:=bL bc;go_quiet(fail)
     go_wp2_with(go_at_call 241;refine(b7.out nq).mono ?_;rintro e w3 ⟨rfl,D,S3,I⟩);refine⟨⟨i+1,k,rfl,by simp,D,t,d,n++[(c,o)],hk,by simp;omega,by omega,?_,eK.out hm,c6,ap.out,(I _ cn.out).1.trans J,(I _ cn.out).2.trans ad,λr h1 R=>?_,by rw[ck,B],by rw[a7,ab],by rw[an,U]⟩,by simp[aG];omega⟩
     .have:=(dz.out.trans (kI b6.out nq)).trans S3;rwa[show d++n++(c,o)::(s.gj gone).drop (i+1)=d++(n++[(c,o)])++(s.gj gone).drop (i+1) from by simp] at this
     have h3:=I r λl _=>R l;have h4:=b8.out r h1 R;exact⟨h3.1.trans h4.1,h3.2.trans h4.2⟩
    have hm:(s1.gH c gone).1=aL:=by simpa using hm
    have ca:=MV.out;have bc:=ee.out;simp only[hm,gL,jF,<-d9] at ca bc;have b7:=bL ca;let⟨f,lr,ci,f0,fl⟩:=eJ.out hm;have fs:(t.lits c)[0]?.getD 0=f:=by rw[ci];rfl
    rw[fs] at bc;have ap:=bL bc;have dC:=bL fl;go_quiet(fail)
    go_wp2_with(go_at_call 241;refine(b7.out nq).mono ?_;rintro e w3 ⟨rfl,D,S3,I⟩;refine dM ?_);delta aH;have M3:=S3.mem;have L:=(I _ cn.out).1.trans J;have ba:=(I _ cn.out).2.trans ad;have cc:D.fY (.clause c)=ah E:=(I (.clause c) λl _ e=>by cases e).1.trans cp;have a9:D.fY .search=ah sb:=(I .search λl _ e=>by cases e).1.trans S;have ds:D.fY .jg=ah vb:=(I .jg λl _ e=>by cases e).1.trans ag;have T:D.fY .wout=ah wb:=(I .wout λl _ e=>by cases e).1.trans G;have cx:∀r,r≠.dX->(∀l,r≠.win l)->D.fY r=A.fY r∧D.sp r=A.sp r:=λr h1 R=>by have h3:=I r λl _=>R l;have h4:=b8.out r h1 R;exact⟨h3.1.trans h4.1,h3.2.trans h4.2⟩
    let⟨rb,eu⟩:=(M3.rows c).2 (show c<bB t.cl by rw[a7];exact hc);have d8:bB (t.lits c)=bB lr+1:=by rw[ci];rfl
    have k0:=M3.cell cc (i:=0) rfl;simp only[Ad.jM,eu,show(t.gD gone (d++n++(c,o)::(s.gj gone).drop (i+1))).lits c=f::lr from ci,ed] at k0;have e4:=M3.cell eu (i:=0) (v:=i32 f) (by show((t.lits c).map i32++D.sp (.crow c))[0]?=_;rw[ci];rfl)
    unfold i32 at e4;have d3:w3.heap[Y]?=w2.heap[Y]?:=S3.kept.block Y de a2;have e5:aU w3 (az Y 0)=ah (pz E):=(cL (a:=az Y 0) d3).trans x0;have eg:Y<w3.heap.size:=cQ de S3.kept.size;have dd:Y≠b:=λe=>a2 ⟨_,e▸J⟩;have e3:wb≠Y:=λe=>a2 ⟨_,e▸G⟩;have eb:Hid _:=(dz.out.trans (kI b6.out nq)).trans S3;have dN:=bL M3;have a6:=bL cx;have cd:eA D (t.gD gone (d++n++(c,o)::(s.gj gone).drop (i+1))) (.win gone)=iK D (d++n++(c,o)::(s.gj gone).drop (i+1))++D.sp (.win gone):=by simp only[eA,jx (show gone<bB t.ws by rw[an];exact y),iX]
    have da:Hid (∀(O:Obj)(j:Nat),j<2->(aU (bC w3 O) ⟨b,k*2+j,ai⟩).isSome=aK∧bG (bC w3 O) ⟨b,k*2+j,ai⟩=aL):=λO j hj=>by refine(dN.out.alloc O).spare L ?_;rw[cd,cR,jL,M];omega
    generalize fx:bB lr+1=f7 at *;generalize fp:f7+bB (D.sp (.crow c)) / 1=ga at *;apply_assumption
    go_wp2_with(first|(at_builtin;refine dM ?_));delta aH;refine rM _ rfl _ _ 272 rfl 274 i0 2 underlying272 d5 dA b k F rfl (az _ 0) 1 1 [pz E,.int .i32 f] rfl rfl (qE w3 _ _ _) cM bO (da.out _) ?_;have ac:gone<bB t.ws:=by rw[an];exact y
    let⟨g,fz,S4⟩:=Step.push ac (eb.out.alloc (aR #[pz E,.int .i32 f] 274)) L c f;have hp:D.ptr (.clause c)=pz E:=by simp[Ad.ptr,cc]
    rw[hp,hk] at S4;have e6:aU ((bC w3 (aR #[pz E,.int .i32 f] 274)).setCells b (k*2) [pz E,.int .i32 f]) (az Y 0)=ah (pz E):=
     (cL (a:=az Y 0) ((oD b _ _ _ Y dd).trans (dB _ _ _ eg))).trans e5
    clear e5 k0 e4 eb dN da fx fp;have S4:Step w ((bC w3 (aR #[pz E,.int .i32 f] 274)).setCells b (k*2) [pz E,.int .i32 f]) A D (t.gD gone (d++[(c,f)]++g++(s.gj gone).drop (i+1))):=S4;generalize((bC w3 (aR #[pz E,.int .i32 f] 274)).setCells b (k*2) [pz E,.int .i32 f])=w4 at *;have M4:=S4.mem;have c0:=M4.cell a9 (i:=0) rfl;simp only[Ad.jM,ds,M4.flat.1,dQ,gP,fH,show(t.gD gone (d++[(c,f)]++g++(s.gj gone).drop (i+1))).n=s.n from ck.trans B] at c0;have cj:f<2*s.n+2:=by rw[<-B];exact f0
    have vm:=M4.D0 ds (l:=f) (by show f<2*t.n+2;rw[ck,B];exact cj);rw[show(t.gD gone (d++[(c,f)]++g++(s.gj gone).drop (i+1))).val f=t.val f from rfl] at vm;have gc:(f:Int)<2*(s.n:Int)+2:=bO
    have aa:=bL M4;have co:=bL S4;have db:d++(c,f)::(s.gj gone).drop (i+1)=d++[(c,f)]++(s.gj gone).drop (i+1):=bQ
    have dx:=dC.out;rw[db] at dx;have bo:=bL dx;clear M4 S4 dx dC db;have a4:t.n=s.n:=ck.trans B;have di:bB t.cl=bB s.cl:=a7.trans ab;have dv:bB t.ws=bB s.ws:=an.trans U;clear ck a7 an bb ez B ab U cv ci d8 ao;by_cases be:t.val f=0
    .rw[be] at vm;have H:=ap.out;rw[cY be] at H;have bR:=bL H;have AS:Hid (∀m,_):=λm=>zi (bF w4 m) (aa.out.keep λ_ _=>rfl) sb a9 f (by show f<2*t.n+2;rw[a4];exact cj) (by
      have h1:=bo.out.ur;have R:bB t.dX<=2*t.n+2:=h1;show bB t.dX<=_;rw[a4] at R;omega) (ah (az E 0))
     clear H ap;unfold i32 at AS
     go_wp2_with(go_at_call 161;refine(AS.out 0).mono ?_;rintro e w5 ⟨rfl,A3,S5,d2⟩);have dj:f<2*(t.gD gone (d++[(c,f)]++(s.gj gone).drop (i+1))).n+2:=by show f<2*t.n+2;rw[a4];exact cj
     refine⟨⟨i+1,k+1,rfl,by simp,A3,t.assign f,d++[(c,f)],g,by simp[hk],by simp;omega,by omega,(co.out.trans (kI aa.out 0)).trans S5,bo.out.assign dj be,(yw bo.out dj be).no gone c6,bR.out,(d2 _ dH).1.trans L,(d2 _ dH).2.trans ba,λr h1 R=>?_,a4,di,dv⟩,by simp[aG];omega⟩;have h3:=d2 r h1;have h4:=a6.out r h1 R;exact⟨h3.1.trans h4.1,h3.2.trans h4.2⟩
    have H:=ap.out;rw[cC be] at H;have fi:(t.val f==0)=aL:=by simpa using be
    by_cases c7:t.val f=-1
    .rw[c7] at vm;rw[cY c7] at H;have bR:=bL H;clear H ap fi;have d1:=aa.out.cell a9 (i:=1) rfl;simp only[Ad.jM,T,aa.out.flat.2.1,dQ,gP,fH,show(t.gD gone (d++[(c,f)]++g++(s.gj gone).drop (i+1))).n=s.n from a4] at d1;have HT:Hid (∀(w8:ay),w8=w4.drew.setCells b ((k+1)*2) (iK D ((s.gj gone).drop (i+1)))->aU w8 (az sb 1)=ah (aj (ah (az wb 0)) (2*s.n+2) (2*s.n+2))∧aU w8 (az wb gone)=ah (aj (ah (az b 0)) len F)∧bG w8 (az wb gone)=aL∧aU w8 (az Y 0)=ah (pz E)∧
       ∃A',Step w (aW w8 (az wb gone) (.slice (ah (az b 0)) (k+1+(len-(i+1))) F)) A A' (t.gD gone (d++[(c,f)]++(s.gj gone).drop (i+1)))∧∀r,r≠.dX->(∀l,r≠.win l)->A'.fY r=A.fY r∧A'.sp r=A.sp r):=λw8 bj=>by
      have S6:Step w w4.drew A D _:=co.out.trans (kI aa.out 1);have P:=S6.mem.T9 ac L (bB (d++[(c,f)])) ((s.gj gone).drop (i+1)) bX;have ek:bB (d++[(c,f)])*2=(k+1)*2:=by simp[hk]
      rw[ek,<-bj] at P;have eL:(d++[(c,f)]++g++(s.gj gone).drop (i+1)).take (bB (d++[(c,f)]))=d++[(c,f)]:=by rw[fW (d++[(c,f)]),List.take_left' rfl]
      rw[eL] at P;have hZ:bB ((d++[(c,f)]++g++(s.gj gone).drop (i+1)).drop (bB (d++[(c,f)])+bB ((s.gj gone).drop (i+1))))=bB g:=bX
      generalize(d++[(c,f)]++g++(s.gj gone).drop (i+1)).drop (bB (d++[(c,f)])+bB ((s.gj gone).drop (i+1)))=Z at P hZ;have S7:Step w w8 A D (t.gD gone (d++[(c,f)]++(s.gj gone).drop (i+1)++Z)):=S6.trans ⟨P,by rw[bj];exact rY _ ⟨_,L⟩ _ _ _ _ (bW _ _),λ_ hk=>cB hk⟩;have CW:=P.V4 ac T L;have eX:bB (d++[(c,f)]++(s.gj gone).drop (i+1))=k+1+(len-(i+1)):=by simp[hk,a1];omega
      have eC:k+1+(len-(i+1))+bB Z+bB (D.sp (.win gone)) / 2=F:=by rw[ba,<-cr,hZ];omega
      rw[eX,eC] at CW;refine⟨?_,?_,P.frozen T gone,?_,_,S7.trans ⟨CW,(bW _ _).setCell (p:=az wb gone) ⟨_,T⟩ _,λq hq=>?_⟩,λr h1 R=>?_⟩
      .have:=P.cell a9 (i:=1) rfl;simpa only[Ad.jM,T,P.flat.2.1,dQ,gP,fH,show(t.gD gone (d++[(c,f)]++(s.gj gone).drop (i+1)++Z)).n=s.n from a4] using this
      .refine P.cell T (i:=gone) ?_;have d7:gone<(t.gD gone (d++[(c,f)]++(s.gj gone).drop (i+1)++Z)).ws.length:=by simp only[Sv.gD,gd];exact ac
       simp only[eA,jH,bP d7,kY];simp only[Sv.gD,List.getElem_set_self,Ad.jM,L];have fj:bB (d++[(c,f)]++(s.gj gone).drop (i+1)++Z)=len:=by rw[cR,eX,hZ];omega
       rw[fj,ba,cr]
      .rw[bj];exact(cL (a:=az Y 0) (oD b _ _ _ Y dd)).trans e6
      .obtain⟨r,hr⟩:=hq;by_cases er:r=.win gone
       .subst er;have:q=b:=by simpa[Ad.up] using hr.symm
        subst this;exact cB ⟨_,L⟩
       exact cB ⟨r,by simpa[Ad.up,er] using hr⟩
      have:=a6.out r h1 R;exact⟨(cC (R gone)).trans this.1,(cC (R gone)).trans this.2⟩
     have V:eA D (t.gD gone (d++[(c,f)]++g++(s.gj gone).drop (i+1))) (.win gone)=iK D (d++[(c,f)]++g++(s.gj gone).drop (i+1))++D.sp (.win gone):=by simp only[eA,jx ac,iX]
     have a3:bB (d++[(c,f)]++g++(s.gj gone).drop (i+1))=len:=bX
     have a8:(d++[(c,f)]++g++(s.gj gone).drop (i+1)).drop (i+1)=(s.gj gone).drop (i+1):=by rw[List.drop_left' bX]
     obtain⟨c9,f9,eo⟩:∃c9,(if F=i+1 then ah (az b 0:Addr) else ah ⟨b,(i+1)*2,ai⟩)=ah (az b c9)∧∀(j:Nat)(u:aA),(iK D ((s.gj gone).drop (i+1)))[j]?=ah u->aU w4.drew ((az b c9:Addr).add j)=ah u:=by
      have hx:=vh D (d++[(c,f)]++g++(s.gj gone).drop (i+1)) (i+1);rw[a8] at hx;by_cases e:F=i+1
      .refine⟨0,cY e,λj u hj=>?_⟩;have:=(bU.1 hj).1;rw[jL] at this;simp[a1] at this;omega
      refine⟨(i+1)*2,cC e,λj u hj=>?_⟩;rw[ado];refine(aa.out.keep (W':=w4.drew) λ_ _=>rfl).cell L ?_;have em:=(bU.1 hj).1;rw[jL] at em;simp[a1] at em;rw[<-hx,lS] at hj;rw[V,df (by rw[jL,a3];omega),hj]
     have fc:=bL eo;have d0:(0:Int)<=(i:Int)+1:=bO
     clear eo;have ec:Hid (∀(j:Nat),j<bB (iK D ((s.gj gone).drop (i+1)))->(aU w4.drew ⟨b,(k+1)*2+j,ai⟩).isSome=aK∧bG w4.drew ⟨b,(k+1)*2+j,ai⟩=aL):=λj hj=>by refine(aa.out.keep (W':=w4.drew) λ_ _=>rfl).spare L ?_;rw[jL] at hj;rw[V,cR,jL,a3];simp[a1] at hj;omega
     have fb:Hid (bB (iK D ((s.gj gone).drop (i+1)))=(len-(i+1))*2):=by show _=_;rw[jL];simp[a1]
     have fa:Hid (∀u∈iK D ((s.gj gone).drop (i+1)),u.oneCell'=aK):=λu hu=>by
      unfold iK at hu;let⟨x,_,hx⟩:=lI.1 hu;simp at hx;obtain rfl|rfl:=hx
      .simp[Ad.ptr,Value.oneCell']
      simp[i32,Value.oneCell']
     have gg:((i:Int)+1<=(len:Int)):=bO
     have gb:(len:Int)<=F:=bO
     have ea:Hid (A.opt (ah c)=pz E):=by show A.ptr (.clause c)=_;unfold Ad.ptr;rw[<-(a6.out (.clause c) dH eZ).1,cc];rfl
     clear V a3 a8 aa co
     go_wp2;refine wp_region_noPanic ?_;go_region_law(first|(refine Ab rfl (.tmp 79) (.tmp 83) 272 rfl 274 i0 2 underlying272 d5 dA b (k+1) F (by(try simp only[aQ,cD,cw,ct,cf,cN,cK]);first|rfl|(simp[bq];done)) (az b c9) (len-(i+1)) (F-(i+1)) (iK D ((s.gj gone).drop (i+1))) (by(try simp only[aQ,cD,cw,ct,cf,cN,cK]);first|rfl|(simp[bq];done)) fb.out fc.out fa.out bO ec.out ?_;intro w8 bj;let⟨y1,y2,y3,y4,A',ST,dm⟩:=HT.out w8 bj;have dE:=bL (b9 ST dm);clear ST dm bj));all_goals
      try simp only[aQ,cD,cw,ct,cf,cN,cK]
      refine NoPanic.normal ?_;dsimp only[Exit.then];apply_assumption;clear y1 y2 y3;have y5:aU (aW w8 (az wb gone) (.slice (ah (az b 0)) (k+1+(len-(i+1))) F)) (az Y 0)=ah (pz E):=(World.cell?_setCell_far _ (az wb gone) (az Y 0) _ e3).trans y4
      go_wp2;go_ret;rw[<-bR.out];exact⟨ea.out.symm▸rfl,A',dE.out.1,bo.out,dE.out.2⟩
    rw[cC c7] at H;have gk:(t.val f==-1)=aL:=by simpa using c7
    have bR:=bL H;clear H ap;have e0:Hid (t.val gone=-1):=c6;clear c6;generalize t.val f=g6 at *
    go_wp2;refine⟨⟨i+1,k+1,rfl,by simp,D,t,d++[(c,f)],g,by simp[hk],by simp;omega,by omega,co.out,bo.out,e0.out,bR.out,L,ba,a6.out,a4,di,dv⟩,by simp[aG];omega⟩
   have el:i=len:=bO
   have d4:(s.gj gone).drop i=[]:=sA bO;rw[d4] at S1 F1 al;rw[gC] at S1 F1;have y:gone<bB s1.ws:=by rw[U];exact ch
   have S:A1.fY .search=ah sb:=(z .search bS eZ).1.trans cy;have G:A1.fY .wout=ah wb:=(z .wout bS eZ).1.trans a5;have d1:=S1.mem.cell S (i:=1) rfl;simp only[Ad.jM,G,S1.mem.flat.2.1,dQ,gP,fH,show(s1.gD gone (d++n)).n=s.n from B] at d1;have gs:=(S1.mem.cell G (i:=gone) (v:=aj (ah (az b 0)) len F) (by
    have d7:gone<(s1.gD gone (d++n)).ws.length:=by simp only[Sv.gD,gd];exact y
    simp only[eA,jH,bP d7,kY];simp only[Sv.gD,List.getElem_set_self,Ad.jM,J,ad,cR,d6];rw[el,cr]))
   have go:=S1.mem.frozen G gone;have CW:=S1.mem.V4 y G J;rw[d6,ad,el,cr,hk] at CW;have dy:=bL S1;have ao:=bL F1;have HV:=bL al;have b8:=bL z;have e7:=bL CW;clear S1 F1 al z CW c1 g1 f1
   go_wp2;go_ret;rw[<-HV.out];refine⟨rfl,_,dy.out.trans ⟨e7.out,(bW _ _).setCell (p:=az wb gone) ⟨_,G⟩ _,λq hq=>?_⟩,ao.out,λr h1 R=>?_⟩
   .obtain⟨r,hr⟩:=hq;by_cases er:r=.win gone
    .subst er;have:q=b:=by simpa[Ad.up] using hr.symm
     subst this;exact cB ⟨_,J⟩
    exact cB ⟨r,by simpa[Ad.up,er] using hr⟩
   have:=b8.out r h1 R;exact⟨(cC (R gone)).trans this.1,(cC (R gone)).trans this.2⟩
def Hg(s s':Sv):Prop:=s'.n=s.n∧s'.seen=s.seen∧s'.dK=s.dK∧s'.hp=s.hp∧s'.fin=s.fin∧bB s'.cl=bB s.cl
def Hg.trans{c:Sv}(h:Hg s s1)(k:Hg s1 c):Hg s c:=⟨k.1.trans h.1,k.2.1.trans h.2.1,k.2.2.1.trans h.2.2.1,k.2.2.2.1.trans h.2.2.2.1,k.2.2.2.2.1.trans h.2.2.2.2.1,k.2.2.2.2.2.trans h.2.2.2.2.2⟩
theorem Hg.gH(s c g):Hg s (s.gH c g).2:=by
 unfold Sv.gH
 split
 .exact⟨rfl,rfl,rfl,rfl,rfl,by simp⟩
 split
 .exact⟨rfl,rfl,rfl,rfl,rfl,by simp⟩
 exact⟨rfl,rfl,rfl,rfl,rfl,by simp[Sv.jz]⟩
theorem Hg.jA(g):∀(c d:List (Nat×Nat))(s:Sv),Hg s (Sv.jA g c d s).2
 | [],d,s=>⟨rfl,rfl,rfl,rfl,rfl,rfl⟩
 |w::c,d,s=>by
  rw[Sv.jA];have e:=Hg.gH s w.1 g
  split
  .exact Hg.jA g c _ s
  split
  .exact e.trans (Hg.jA g c _ _)
  split
  .exact(e.trans ⟨rfl,rfl,rfl,rfl,rfl,rfl⟩).trans (Hg.jA g c _ _)
  split
  .exact e.trans ⟨rfl,rfl,rfl,rfl,rfl,rfl⟩
  exact e.trans (Hg.jA g c _ _)
def Dl:=@Hg.jA
def Hg.visit(s g):Hg s (s.visit g).2:=Hg.jA g _ _ s
theorem pF(g){c:Nat}:∀(d e:List (Nat×Nat))(s:Sv),(Sv.jA g d e s).1=ah c->∃w∈d,w.1=c
 | [],e,s,h=>by cases h
 |w::d,e,s,h=>by
  rw[Sv.jA] at h;have up:(∃w∈d,w.1=c)->∃x∈w::d,x.1=c:=λ⟨x,f,j⟩=>⟨x,by simp[f],j⟩
  split at h
  .exact up (pF g d _ _ h)
  split at h
  .exact up (pF g d _ _ h)
  split at h
  .exact up (pF g d _ _ h)
  split at h
  .grind
  exact up (pF g d _ _ h)
theorem Fit.Lo(h:Fit s){g c:Nat}(d:(s.visit g).1=ah c):c<bB s.cl:=by obtain⟨w,e,rfl⟩:=pF g _ _ _ d;exact(h.gj g w e).1
theorem Mem.XU(h:Mem W A s)(c:A.fY .search=ah sb)(k:Nat):Mem (aW W (az sb 5) (iz k)) A {s with seen:=k}:=
 {h with has:=h.set c 5 (iz k) rfl (λe d=>by cases e<;>first|rfl|exact absurd rfl d)}
def Fit.seen(h:Fit s)(k):Fit {s with seen:=k}:=⟨h.lv,h.lw,h.wD,h.KV,h.on,h.nd,h.cls,h.Lh,h.gj⟩
def Flw(w W:ay)(A:Ad)(s:Sv)(o:Option Nat)(s':Sv):Prop:=
 ∃(A1:Ad)(s1:Sv)(f:Nat),Step w W A A1 s1∧Fit s1∧Sv.follow f s1=ah (o,s')∧s1.n=s.n∧bB s1.cl=bB s.cl∧∀r,r≠.dX->(∀l,r≠.win l)->A1.fY r=A.fY r∧A1.sp r=A.sp r
theorem QQ{w}{A}{s}(h:Mem w A s)(hF:Fit s)(sb)(a0:A.fY .search=ah sb)(ad:bB s.cl<=4398046511100)(f)(o:Option Nat)(Y)(ag:Sv.follow f s=ah (o,Y)):
  aB prog 163 #[pz sb] w λe w'=>e=aw (A.opt o)∧(∀c,o=ah c->c<bB s.cl)∧∃A',Step w w' A A' Y∧Fit Y∧∀r,r≠.dX->(∀l,r≠.win l)->A'.fY r=A.fY r∧A'.sp r=A.sp r:=by
 have V0:Flw w w A s o Y:=⟨A,s,f,⟨h,bW _ _,λ_ hk=>cB hk⟩,hF,ag,rfl,rfl,λ_ _ _=>⟨rfl,rfl⟩⟩
 have a5:=h.small;go_enter func163,ntmps163
 go_wp2
 go_loopw[] (λW=>Flw w W A s o Y) λW=>2*s.n+3-(aG ((aU W (az sb 5)).getD aF)).toNat
 case atStart=>exact V0
 case round=>
  obtain⟨x,s1,f1,S1,C,g,S,t,j⟩:=hrel;have d:x.fY .search=ah sb:=(j .search bS eZ).1.trans a0;have G:=S1.mem;have c5:=G.cell d (i:=5) rfl;have c3:=G.cell d (i:=3) rfl;have a2:=C.ur;rw[S] at a2;cases f1 with
  |zero=>cases g
  |succ f1=>
  rw[Sv.follow] at g;by_cases z:s1.seen<bB s1.dX
  .obtain⟨l,hl⟩:∃l,s1.dX[s1.seen]?=ah l:=⟨_,bP z⟩
   rw[hl] at g;simp only at g;let⟨R,an⟩:=(C.on l).1 (cH hl);have al:s1.val (lk l)=-1:=by rw[C.wD l R,an]
   have T:lk l<2*s1.n+2:=BY R;obtain⟨tb,X⟩:∃tb,x.fY .dX=ah tb:=by
    cases e:x.fY .dX with
    |some tb=>exact⟨tb,rfl⟩
    |none=>rw[G.I3 e] at z;simp at z
   simp only[Ad.jM,X] at c3;have tl:=G.cell X (i:=s1.seen) (v:=i32 l) (by show(s1.dX.map i32++x.sp .dX)[s1.seen]?=_;rw[df (by simpa using z),fN,hl];rfl)
   have f5:=G.frozen d 5;have a4:IntKind.i64.wrap ((s1.seen:Int)+1)=(s1.seen:Int)+1:=aew
   unfold i32 at tl;have ab:=bL G;have E:=bL S1;have H:=bL C;have k:=bL j;have D:=bL g;have aa:=bL c5;have OP:Hid (∀W:ay,_):=λW=>Ur W l bO;have ST:Hid (∀m:Nat,Step w (aW (bF wr m) (az sb 5) (iz ((s1.seen:Int)+1))) A x {s1 with seen:=s1.seen+1}):=λm=>by have B:=(S1.mem.keep (W':=bF wr m) λ_ _=>rfl).XU d (s1.seen+1);rw[show((s1.seen+1:Nat):Int)=(s1.seen:Int)+1 from by simp] at B;exact(S1.trans (kI S1.mem m)).trans ⟨B,(bW _ _).setCell (p:=az sb 5) ⟨_,d⟩ _,λ_ hk=>cB hk⟩
   have VI:Hid (∀m:Nat,_):=λm=>SB (aW (bF wr m) (az sb 5) (iz ((s1.seen:Int)+1))) x {s1 with seen:=s1.seen+1} (ST.out m).mem (C.seen _) sb d (lk l) T al (by show bB s1.cl<=_;rw[t];exact ad);have u:=Hg.visit {s1 with seen:=s1.seen+1} (lk l);have F:Hid (∀c,_->_):=λc (hc:(Sv.visit {s1 with seen:=s1.seen+1} (lk l)).1=ah c)=>(C.seen (s1.seen+1)).Lo hc;unfold i32 at VI OP;generalize Sv.visit {s1 with seen:=s1.seen+1} (lk l)=v at *;obtain⟨vo,s2⟩:=v;simp only at D VI F;cases vo with
   |some c=>
    have h7:=D.out;simp only[fw,jr] at h7;obtain⟨ho,ap⟩:=h7;let⟨cb,N⟩:=(ab.out.cls c).2 (F.out c rfl);have O:Hid (c<bB s1.cl):=F.out c rfl;have U:x.opt (ah c)=pz cb:=by simp[Ad.opt,Ad.ptr,N]
    have I:Hid (A.opt o=pz cb):=by rw[<-ho];show A.ptr (.clause c)=_;unfold Ad.ptr;rw[<-(k.out (.clause c) dH eZ).1,N];rfl
    have n:=VI.out;simp only[U] at n;have q:=bL n;subst ap
    go_wp2;go_quiet(fail)
    go_wp2;go_quiet(fail)
    go_wp2_with(first|(go_at_call 210;refine(q.out _).mono ?_;rintro e w3 ⟨rfl,Z,S3,F3,y⟩)|(go_at_call 177;refine(OP.out _).mono ?_;rintro e w3 ⟨rfl,rfl⟩));go_ret;refine⟨by rw[I.out];rfl,λc' e=>?_,Z,(ST.out _).trans S3,F3,λr B J=>?_⟩
    .rw[<-ho] at e;cases e
     rw[<-t];exact O.out
    have L:=y r B J;have M:=k.out r B J;exact⟨L.1.trans M.1,L.2.trans M.2⟩
   |none=>
    have n:=VI.out;simp only[Ad.opt] at n;have q:=bL n
    go_wp2;go_quiet(fail)
    go_wp2;go_quiet(fail)
    go_wp2_with(first|(go_at_call 210;refine(q.out _).mono ?_;rintro e w3 ⟨rfl,Z,S3,F3,y⟩)|(go_at_call 177;refine(OP.out _).mono ?_;rintro e w3 ⟨rfl,rfl⟩));have V:Z.fY .search=ah sb:=(y .search bS eZ).1.trans d;have ac:=S3.mem.cell V (i:=5) rfl;refine⟨⟨Z,s2,f1,(ST.out _).trans S3,F3,D.out,u.1.trans S,u.2.2.2.2.2.trans t,λr B J=>?_⟩,?_⟩
    .have L:=y r B J;have M:=k.out r B J;exact⟨L.1.trans M.1,L.2.trans M.2⟩
    have a1:s2.seen=s1.seen+1:=u.2.1;rw[ac,aa.out];simp only[eQ,aG,a1];omega
  have ao:s1.dX[s1.seen]?=ai:=yo.2 bO;rw[ao] at g;simp only[fw,jr] at g;obtain⟨rfl,rfl⟩:=g;let⟨ta,tc,a3⟩:=uz G (r:=.dX) rfl;rw[show x.jM .dX (bB s1.dX) 1=aj ta (bB s1.dX) tc from a3] at c3;have E:=bL S1;have H:=bL C;have k:=bL j
  go_wp2;go_quiet(fail)
  go_wp2;go_ret;exact⟨rfl,λc e=>(by cases e),x,E.out.trans (kI E.out.mem _),H.out,k.out⟩
theorem abr(w):Sem.run prog (binOp BinOp.eql 180 (aj ai 0 0) (aj ai 0 0)) w=.ok (.bool aK) w:=by kernel_rfl
theorem Wj(w):aB prog 236 #[aj ai 0 0] w λe c=>e=aw (aj ai 0 0)∧w=c:=by
 go_enter func236,ntmps236
 go_wp2;rw[abr]
 go_wp2;go_ret;exact⟨rfl,rfl⟩
theorem aaA{w}{A}{s}(h:Mem w A s)(sb)(d:A.fY .search=ah sb)(c):aB prog 197 #[pz sb,c] w λe g=>e=aw (.tuple #[])∧w=g:=by
 have f:=h.cell d (i:=12) (v:=.bool aL) rfl;go_enter func197,ntmps197
 go_wp2;exact⟨rfl,.tuple #[],by simp[aI,results197],rfl,rfl⟩
theorem Ia{w}{A}{s}(h:Mem w A s)(sb)(c:A.fY .search=ah sb):aB prog 198 #[pz sb] w λe u=>e=aw (aj ai 0 0)∧Step w u A A s:=by
 have n:=h.cell c (i:=15) (v:=aj ai 0 0) rfl;have p:=h.cell c (i:=16) (v:=aj ai 0 0) rfl;have q:=h.frozen c 15;have t:=h.frozen c 16;have j:=bL h;have l:Hid (∀m d:Nat,Step w (aW (bF (aW (bF w m) (az sb 15) (aj ai 0 0)) d) (az sb 16) (aj ai 0 0)) A A s):=λm d=>by have S1:=kI j.out m;have k:Mem (aW (bF w m) (az sb 15) (aj ai 0 0)) A s:=S1.mem.Fs c rfl;have S2:=S1.cell c 15 _ k;have g:=S2.trans (kI S2.mem d);exact g.cell c 16 _ (g.mem.Fs c rfl)
 go_enter func198,ntmps198
 go_wp2
 go_loopw[11] (λf W=>f=iz 0∧W=w) λ_ _=>0
 case atStart=>exact⟨rfl,rfl⟩
 case round=>
  obtain⟨rfl,rfl⟩:=hrel
  go_wp2_with(go_at_call 236;refine(Wj _).mono ?_;rintro e x ⟨rfl,rfl⟩);go_ret;exact⟨rfl,l.out 0 0⟩
theorem Mem.Tv(h:Mem W A s)(d:A.fY .search=ah sb)(p):Mem (aW W (az sb 13) (ak (ah p))) {A with VR:=ak (ah p)} {s with fin:=aK}:=by
 refine {h with has:=λr b f=>?_,DJ:=⟨p,rfl⟩};have c:A.fY r=ah b:=f;by_cases e:r=.search
 .subst e;rw[d] at c;cases c
  have:=h.has _ _ d;unfold aW;simp only[oP,this,iX,kY];simp[eA,ql];exact⟨rfl,rfl,rfl,rfl,rfl,rfl,rfl,rfl,rfl,rfl⟩
 rw[cO _ _ _ _ λg=>e (h.inj _ _ _ c cG)];have:=h.has r b c;rw[this];cases r<;>first|rfl|exact absurd rfl e
theorem EE{w}{A}{s}(h:Mem w A s)(sb)(d:A.fY .search=ah sb)(c):aB prog 160 #[pz sb,c] w λe y=>e=aw (.tuple #[])∧∃l,Step w y A l {s with fin:=aK}∧∀r,l.fY r=A.fY r∧l.sp r=A.sp r:=by
 have u:=aaA h sb d c;have t:=Ia h sb d;go_enter func160,ntmps160
 go_wp2_with(first|(go_at_call 198;refine t.mono ?_;rintro e n ⟨rfl,q⟩;refine dM ?_)|(go_at_call 197;refine u.mono ?_;rintro e n ⟨rfl,rfl⟩));delta aH;have m:=q.alloc (aR #[aj ai 0 0,iz 0,aj ai 0 0,iz 0,.bool aL,.bool aL] 182);have g:=m.mem.cell d (i:=13) rfl;have v:=m.mem.frozen d 13;have f:=bL m;have j:∃k,aU (bC n (aR #[aj ai 0 0,iz 0,aj ai 0 0,iz 0,.bool aL,.bool aL] 182)) (az sb 13)=ah k:=⟨_,g⟩
 obtain⟨k,g⟩:=j;apply_assumption
 go_wp2;exact⟨rfl,.tuple #[],by simp[aI,results160],rfl,_,f.out.trans ⟨f.out.mem.Tv d _,(bW _ _).setCell (p:=az sb 13) ⟨_,d⟩ _,λ_ x=>cB x⟩,λ_=>⟨rfl,rfl⟩⟩
theorem Nf{w}{A}{s}(h:Mem w A s)(z:Fit s)(sb)(f:A.fY .search=ah sb)(c p l)(j:A.fY (.clause c)=ah p)(hl:s.lits c=[l]):aB prog 124 #[pz sb,pz p] w λe J=>e=aw (.tuple #[])∧∃t,Step w J A t (s.addFact l)∧∀r,r≠.dX->t.fY r=A.fY r∧t.sp r=A.sp r:=by
 let⟨rb,m⟩:=(h.rows c).2 ((h.cls c).1 ⟨_,j⟩);let⟨R,n⟩:=h.fix .jg rfl;have k:l<2*s.n+2:=(z.cls c).2 l (by rw[hl];simp);have k0:=h.cell j (i:=0) rfl;simp only[Ad.jM,m,hl,eD] at k0;have I:=h.cell m (i:=0) (v:=i32 l) (by simp[eA,hl]);unfold i32 at I;have c0:=h.cell f (i:=0) rfl;simp only[Ad.jM,n,h.flat.1,dQ,gP,fH] at c0;have B:=h.D0 n k;have O:(l:Int)<2*(s.n:Int)+2:=bO
 generalize 1+bB (A.sp (.crow c)) / 1=E at k0;have G:=h.small;have H:=z.ur;unfold Sv.addFact;by_cases g:s.val l=-1
 .rw[g] at B;have C:=EE h sb f (pz p);simp only[cY g];go_enter func124,ntmps124
  go_wp2_with(go_at_call 160;refine C.mono ?_;rintro e L ⟨rfl,u,x,d⟩);exact⟨rfl,.tuple #[],by simp[aI,results124],rfl,u,x,λr _=>d r⟩
 by_cases q:s.val l=0
 .rw[q] at B;have y:=zi w h sb f l k bO (ah (az p 0));unfold i32 at y;simp only[cC g,cY q];go_enter func124,ntmps124
  go_wp2_with(go_at_call 161;refine y.mono ?_;rintro e L ⟨rfl,u,x,d⟩);exact⟨rfl,.tuple #[],by simp[aI,results124],rfl,u,x,d⟩
 have N:(s.val l==-1)=aL:=by simpa using g
 have M:(s.val l==0)=aL:=by simpa using q
 simp only[cC g,cC q];have D:=bL h;generalize s.val l=S at *;go_enter func124,ntmps124
 go_wp2;exact⟨rfl,.tuple #[],by simp[aI,results124],rfl,A,⟨D.out,bW _ _,λ_ F=>cB F⟩,λ_ _=>⟨rfl,rfl⟩⟩
end
section
def Sv.GL(s:Sv)(c:Nat):Sv:=match s.lits c with
 | []=>{s with fin:=aK}
 | [l]=>s.addFact l
 |_=>s.watch c
theorem LM{w}{A}{s}(h:Mem w A s)(t:Fit s)(sb)(d:A.fY .search=ah sb)(c m)(f:A.fY (.clause c)=ah m)(y:bB s.cl<=4398046511100):
  aB prog 84 #[pz sb,pz m] w λe O=>e=aw (.tuple #[])∧∃u,Step w O A u (s.GL c)∧∀r,r≠.dX->(∀l,r≠.win l)->u.fY r=A.fY r∧u.sp r=A.sp r:=by
 let⟨rb,z⟩:=(h.rows c).2 ((h.cls c).1 ⟨_,f⟩);have k0:=h.cell f (i:=0) rfl;simp only[Ad.jM,z] at k0;generalize D:bB (s.lits c)+bB (A.sp (.crow c)) / 1=J at k0
 match hl:s.lits c with
 | []=>
  rw[hl] at k0;simp only[dQ] at k0;have k:=h.cell d (i:=13) rfl;have n:∃q,cz w sb 13 q:=⟨_,k⟩
  obtain⟨q,k⟩:=n;have L:=h.frozen d 13;have H:=bL h;have e:s.GL c={s with fin:=aK}:=by unfold Sv.GL;rw[hl]
  go_enter func84,ntmps84
  go_wp2;refine⟨rfl,.tuple #[],by simp[aI,results84],rfl,{A with VR:=pz m},?_,λ_ _ _=>⟨rfl,rfl⟩⟩;rw[e];exact⟨H.out.Tv d _,(bW _ _).setCell (p:=az sb 13) ⟨_,d⟩ _,λ_ M=>cB M⟩
 | [l]=>
  rw[hl] at k0;simp only[eD] at k0;have G:=Nf h t sb d c m l f hl;have e:s.GL c=s.addFact l:=by unfold Sv.GL;rw[hl]
  go_enter func84,ntmps84
  go_wp2_with(go_at_call 124;refine G.mono ?_;rintro e P ⟨rfl,v,x,g⟩);exact⟨rfl,.tuple #[],by simp[aI,results84],rfl,v,by rw[e];exact x,λr B _=>g r B⟩
 |a::b::rest=>
  have E:bB (s.lits c)=bB rest+2:=by rw[hl];rfl
  rw[hl] at k0;simp only[ed] at k0;have o:=(t.cls c).1;have j:=(t.cls c).2;rw[hl] at o j;have I:=Sw h sb d c m f a b rest hl (j a bQ) (j b bQ) (λe=>by simp[e] at o) λl=>bZ (t.Ln l) y;have e:s.GL c=s.watch c:=by unfold Sv.GL;rw[hl]
  generalize N:bB rest+1+1=F at k0;have Q:((F:Int)==0)=aL:=cG
  have R:((F:Int)==1)=aL:=cG
  go_enter func84,ntmps84
  go_wp2_with(go_at_call 125;refine I.mono ?_;rintro e P ⟨rfl,v,x,g⟩);exact⟨rfl,.tuple #[],by simp[aI,results84],rfl,v,by rw[e];exact x,λr B C=>g r (C a) (C b)⟩
variable{W:ay}{A:Ad}{s:Sv}
theorem Mem.ord(h:Mem W A s):∃ob hb pb b,A.fY .order=ah ob∧A.fY .heap=ah hb∧A.fY .nS=ah pb∧A.fY .uA=ah b∧
  aU W (az ob 0)=ah (aj (ah (az b 0)) (s.n+1) (s.n+1))∧aU W (az ob 1)=ah (.slice (ah (az hb 0)) (bB s.hp) (bB s.hp+bB (A.sp .heap)))∧aU W (az ob 2)=ah (aj (ah (az pb 0)) (s.n+1) (s.n+1)):=by
 let⟨ob,a⟩:=h.fix .order rfl;let⟨hb,d⟩:=h.fix .heap rfl;let⟨pb,e⟩:=h.fix .nS rfl;let⟨b,c⟩:=h.fix .uA rfl;have f:=h.cell a (i:=0) rfl;have g:=h.cell a (i:=1) rfl;have j:=h.cell a (i:=2) rfl;simp only[Ad.jM,c,h.flat.2.2.2.2.1,dQ,gP,fH] at f;simp only[Ad.jM,d,Nat.div_one] at g;simp only[Ad.jM,e,h.flat.2.2.2.1,dQ,gP,fH] at j;grind
variable{hb i ob sb:Nat}
theorem Mem.fS(h:Mem W A s)(a:A.fY .heap=ah hb){v:Nat}(b:s.hp[i]?=ah v):cz W hb i (.int .i32 v):=by refine h.cell a ?_;show(s.hp.map i32++A.sp .heap)[i]?=_;have c:=(bU.1 b).1;rw[df (by simpa using c),fN,b];rfl
theorem Mem.ZV(h:Mem W A s){b:Nat}(a:A.fY .uA=ah b)(c:i<s.n+1):cz W b i (.int .u64 0):=by refine h.cell a ?_;show(aN (s.n+1) _)[i]?=_;grind
theorem WG(w){A}{s}(h:Mem w A s)(ob)(n:A.fY .order=ah ob)(g:∀v∈s.hp,v<=s.n)(i j)(o:i<bB s.hp)(p:j<bB s.hp):
  aB prog 253 #[pz ob,iz i,iz j] w λe t=>e=aw (.bool aL)∧∃m,t=bF w m:=by
 let⟨r,hb,pb,u,c,f,q,d,C,D,E⟩:=h.ord;rw[n] at c;cases c
 have k:=bP o;have l:=bP p;have G:=g _ (dw o);have H:=g _ (dw p);have x1:=h.fS f k;have x2:=h.fS f l;generalize s.hp[i]=a at *;generalize s.hp[j]=b at *;have I:=h.ZV d (i:=a) bO;have J:=h.ZV d (i:=b) bO;have x:(i:Int)<bB s.hp:=bO
 have y:(j:Int)<bB s.hp:=bO
 have z:(a:Int)<s.n+1:=bO
 have B:(b:Int)<s.n+1:=bO
 generalize bB s.hp=F at *;go_enter func253,ntmps253
 go_wp2;go_quiet(fail)
 go_wp2;go_ret;exact⟨rfl,_,rfl⟩
theorem Mem.ZU(h:Mem W A s)(a:A.fY .heap=ah hb)(v:Nat)(b:i<bB s.hp):Mem (aW W (az hb i) (.int .i32 v)) A {s with hp:=s.hp.set i v}:=
 {h with has:=h.set a i (.int .i32 v) (by
   simp only[eA];rw[pW,List.set_append_left _ _ (by simpa using b)];rfl) (λd c=>by
   cases d<;>first|rfl|exact absurd rfl c|(simp only[eA,gd]))}
theorem Mem.Tu(h:Mem W A s){pb:Nat}(c:A.fY .nS=ah pb)(i v):Mem (aW W (az pb i) v) {A with pl:=A.pl.set i v} s:=by
 have e:∀(S:List aA)(r:nW),r≠.nS->eA {A with pl:=S} s r=eA A s r:=λS r g=>by cases r<;>first|rfl|exact absurd rfl g
 refine {h with has:=λr b hb=>?_,lp:=by simp[h.lp]};have a:A.fY r=ah b:=hb;by_cases er:r=.nS
 .subst er;rw[c] at a;cases a
  have:=h.has _ _ c;grind[aW,eA]
 have d:b≠pb:=λf=>er (h.inj _ _ _ a (by rw[c,f]));rw[e _ r er,cO _ _ _ _ d];exact h.has r b a
theorem XI{w:ay}(h:Mem w A s)(ob:Nat)(r:A.fY .order=ah ob)(E:∀v∈s.hp,v<=s.n)(i j a b:Nat)(Q:s.hp[i]?=ah a)(R:s.hp[j]?=ah b):
  aB prog 245 #[pz ob,iz i,iz j] w λe w'=>e=aw (.tuple #[])∧∃pl,Step w w' A {A with pl:=pl} {s with hp:=(s.hp.set i b).set j a}:=by
 let⟨X,hb,pb,cb,g,c,f,an,e0,o,e2⟩:=h.ord;rw[r] at g;cases g
 have F:=(bU.1 Q).1;have T:=(bU.1 R).1;have x1:=h.fS c Q;have x2:=h.fS c R;have va:=E _ (cH Q);have vb:=E _ (cH R);have d1:(i:Int)<bB s.hp:=bO
 have d2:(j:Int)<bB s.hp:=bO
 have d3:(a:Int)<s.n+1:=bO
 have d4:(b:Int)<s.n+1:=bO
 have f1:=h.frozen c i;have Y:=bL h;have N:Mem (aW w (az hb i) (.int .i32 b)) A {s with hp:=s.hp.set i b}:=Y.out.ZU c b F;have G:j<({s with hp:=s.hp.set i b}:Sv).hp.length:=cG
 have n:=N.ZU c a G;have x3:aU (aW w (az hb i) (.int .i32 b)) (az hb j)=ah (.int .i32 b):=N.fS c cG
 have f3:=N.frozen c j;have J:=bL n;have d:hb≠ob:=λe=>by have:=Y.out.inj _ _ _ c (e▸r);cases this
 generalize bB s.hp+bB (A.sp .heap)=D at *;generalize U:bB s.hp=ln at *;have x:=bL U;go_enter func245,ntmps245
 go_wp2;refine wp_region_noPanic ?_;refine wp_region_held_drew (S:=λW=>aU W (az ob 1)=ah (aj (ah (az hb 0)) ln D)) bV ?_ λhHeld=>?_
 .simp_all
 refine tk 0 ?_;refine tk 1 ?_;refine tk 2 ?_;refine tk 3 ?_;refine tk 4 ?_;refine tk 5 ?_;refine tk 6 ?_;refine tk 7 ?_;refine tk 8 ?_;refine tk 9 ?_;refine tk 10 ?_;refine tk 11 ?_;refine tk 12 ?_;refine tk 13 ?_;refine tk 14 ?_;refine tk 15 ?_;refine tk 17 ?_;refine tk 18 ?_;refine tk 19 ?_;refine tk 20 ?_;refine tk 21 ?_;refine tk 22 ?_;refine wpAnyH_ready (rs:=[16,23]) bV bQ ?_;refine AllReadyH.cons rfl (λK P=>?_) (AllReadyH.cons rfl (λK P=>?_) AllReadyH.nil);try simp only[cD,cw,ct]
 go_simp;refine P.out _ _ ?_ λhHeld=>?_
 .omega
 try simp only[aQ,cD,cw,ct,cf,cK,cN]
 refine rd 23 ?_ λhHeld=>?_
 .omega
 refine tk 24 ?_;refine rd 25 ?_ λhHeld=>?_
 ·(first|exact o|exact(World.cell?_setCell_far _ (az hb i) (az ob 1) _ d).trans o|exact(World.cell?_setCell_far _ (az hb j) (az ob 1) _ d).trans ((World.cell?_setCell_far _ (az hb i) (az ob 1) _ d).trans o))
 refine tk 26 ?_;refine rd 27 ?_ λhHeld=>?_
 ·(first|exact o|exact(World.cell?_setCell_far _ (az hb i) (az ob 1) _ d).trans o|exact(World.cell?_setCell_far _ (az hb j) (az ob 1) _ d).trans ((World.cell?_setCell_far _ (az hb i) (az ob 1) _ d).trans o))
 rotate_left 1;try simp only[cD,cw,ct]
 go_simp;refine P.out _ _ ?_ λhHeld=>?_
 .omega
 try simp only[aQ,cD,cw,ct,cf,cK,cN]
 refine rd 16 ?_ λhHeld=>?_
 .omega
 refine tk 24 ?_;refine rd 25 ?_ λhHeld=>?_
 ·(first|exact o|exact(World.cell?_setCell_far _ (az hb i) (az ob 1) _ d).trans o|exact(World.cell?_setCell_far _ (az hb j) (az ob 1) _ d).trans ((World.cell?_setCell_far _ (az hb i) (az ob 1) _ d).trans o))
 refine tk 26 ?_;refine rd 27 ?_ λhHeld=>?_
 ·(first|exact o|exact(World.cell?_setCell_far _ (az hb i) (az ob 1) _ d).trans o|exact(World.cell?_setCell_far _ (az hb j) (az ob 1) _ d).trans ((World.cell?_setCell_far _ (az hb i) (az ob 1) _ d).trans o))
 rotate_left 1;all_goals refine wpAnyH_done bV (NoPanic.normal ?_) _
 all_goals
  try simp only[aQ,cD,cw,ct,cf,cN,cK]
  dsimp only[Exit.then];apply_assumption;have n:Mem (aW (aW w (az hb i) (.int .i32 b)) (az hb j) (.int .i32 a)).drew A {s with hp:=(s.hp.set i b).set j a}:=J.out.keep λ_ _=>rfl;have S2:Step w (aW (aW w (az hb i) (.int .i32 b)) (az hb j) (.int .i32 a)).drew A A {s with hp:=(s.hp.set i b).set j a}:=⟨n,(((bW _ w).setCell (p:=az hb i) ⟨_,c⟩ _).setCell (p:=az hb j) ⟨_,c⟩ _).drew,λ_ l=>cB l⟩
  let⟨X,al,ap,ad,g,t,u,Z,ag,y,z⟩:=n.ord;rw[r] at g;rw[c] at t;rw[f] at u;cases g
  cases t
  cases u
  have aa:i<bB s.hp:=by rw[x.out];exact F
  have ab:j<bB s.hp:=by rw[x.out];exact T
  have V:((s.hp.set i b).set j a)[i]?=ah b:=cG
  have x4:=n.fS c (i:=i) (v:=b) V;have x5:=n.fS c (i:=j) (v:=a) cG
  have ao:=n.lp;have q1:∃v,aU ((aW (aW w (az hb i) (.int .i32 b)) (az hb j) (.int .i32 a)).drew) (az pb b)=ah v:=⟨_,n.cell f (bP (by show b<bB A.pl;grind))⟩
  have q2:=n.frozen f b;have O:=n.Tu f b (iz i);have q3:∃v,aU (aW ((aW (aW w (az hb i) (.int .i32 b)) (az hb j) (.int .i32 a)).drew) (az pb b) (iz i)) (az pb a)=ah v:=⟨_,O.cell f (bP (by show a<bB (A.pl.set b _);grind))⟩
  have q4:=O.frozen f a;have M4:=O.Tu f a (iz j);obtain⟨v1,q1⟩:=q1;obtain⟨v3,q3⟩:=q3;have B:hb≠pb:=λe=>by have:=n.inj _ _ _ c (e▸f);cases this
  have C:ob≠pb:=λe=>by have:=n.inj _ _ _ r (e▸f);cases this
  have L:=bL M4;have M:=bL S2;have d5:(i:Int)<((bB ((s.hp.set i b).set j a):Nat):Int):=by simp only[gd];omega
  have d6:(j:Int)<((bB ((s.hp.set i b).set j a):Nat):Int):=by simp only[gd];omega
  simp only at y z;generalize((aW (aW w (az hb i) (.int .i32 b)) (az hb j) (.int .i32 a)).drew)=w2 at *;generalize bB ((s.hp.set i b).set j a)+bB (A.sp .heap)=q at *;generalize ac:bB ((s.hp.set i b).set j a)=H at *;have m:Hid (∀W:ay,(∀k,k≠pb->W.heap[k]?=w2.heap[k]?)->aU W (az ob 1)=ah (aj (ah (az hb 0)) H q)∧aU W (az ob 2)=ah (aj (ah (az pb 0)) (s.n+1) (s.n+1))∧aU W (az hb i)=ah (.int .i32 b)∧aU W (az hb j)=ah (.int .i32 a)):=λW I=>
   ⟨(cL (a:=az ob 1) (I ob C)).trans y,(cL (a:=az ob 2) (I ob C)).trans z,(cL (a:=az hb i) (I hb B)).trans x4,(cL (a:=az hb j) (I hb B)).trans x5⟩
  refine wp_region_noPanic ?_;refine wp_region_held_drew (S:=λW=>aU W (az ob 1)=ah (aj (ah (az hb 0)) H q)∧aU W (az ob 2)=ah (aj (ah (az pb 0)) (s.n+1) (s.n+1))∧aU W (az hb i)=ah (.int .i32 b)∧aU W (az hb j)=ah (.int .i32 a)) bV ?_ λhHeld=>?_
  .simp_all
  refine tk 0 ?_;refine tk 1 ?_;refine tk 2 ?_;refine tk 3 ?_;refine tk 4 ?_;refine tk 5 ?_;refine tk 6 ?_;refine tk 7 ?_;refine tk 8 ?_;refine tk 9 ?_;refine tk 10 ?_;refine tk 11 ?_;refine tk 12 ?_;refine tk 13 ?_;refine tk 14 ?_;refine tk 15 ?_;refine tk 16 ?_;refine tk 17 ?_;refine tk 18 ?_;refine tk 19 ?_;refine tk 20 ?_;refine tk 21 ?_;refine tk 22 ?_;refine tk 23 ?_;refine tk 24 ?_;refine rd 25 ?_ λhHeld=>?_
  ·(first|exact m.out _ (λk l=>rfl)|exact m.out _ (λk l=>cO _ _ _ _ l)|exact m.out _ λk l=>(cO _ _ _ _ l).trans (cO _ _ _ _ l))
  refine tk 26 ?_;refine rd 27 ?_ λhHeld=>?_
  ·(first|exact m.out _ (λk l=>rfl)|exact m.out _ (λk l=>cO _ _ _ _ l)|exact m.out _ λk l=>(cO _ _ _ _ l).trans (cO _ _ _ _ l))
  all_goals refine wpAnyH_done bV (NoPanic.normal ?_) _
  try simp only[aQ,cD,cw,ct,cf,cN,cK]
  exact⟨rfl,.tuple #[],by simp[aI,results245],rfl,_,M.out.trans ⟨L.out.keep λ_ _=>rfl,(((bW _ w2).setCell (p:=az pb b) ⟨_,f⟩ _).setCell (p:=az pb a) ⟨_,f⟩ _).drew,λ_ l=>cB l⟩⟩
theorem Zl{w}{A}{s}(h:Mem w A s)(ob)(c:A.fY .order=ah ob)(f:∀v∈s.hp,v<=s.n)(hl:bB s.hp<=4000):
  aB prog 246 #[pz ob,iz 1] w λe G=>e=aw (.tuple #[])∧∃m,G=bF w m:=by
 let⟨E,hb,pb,I,b,r,B,q,J,L,M⟩:=h.ord;rw[c] at b;cases b
 have n:Hid (∀m i j,i<bB s.hp->j<bB s.hp->_):=λm i j t u=>WG (bF w m) (h.keep λ_ _=>rfl) ob c f i j t u;generalize bB s.hp+bB (A.sp .heap)=o at *;generalize bB s.hp=C at *;go_enter func246,ntmps246
 go_wp2
 go_loopw[1] (λt1 W=>t1=iz 1∧W=w) λ_ _=>0
 case atStart=>exact⟨rfl,rfl⟩
 case round=>
  obtain⟨rfl,rfl⟩:=hrel;obtain⟨H,g⟩:=bK wr;subst g
  go_wp2
  go_loopw[4,5] (λF l W=>∃a m:Nat,2<=a∧a<=4∧F=iz 1∧l=iz a∧W=bF H m) λ_ l _=>4-(aG l).toNat
  case atStart=>exact⟨2,0,by omega,by omega,rfl,rfl,rfl⟩
  case round=>
   obtain⟨a,m,y,z,rfl,rfl,rfl⟩:=hrel;by_cases N:a<=3
   .have p:aM ((a:Int)<=3)=aK:=cZ bO;by_cases x:a<C
    .have d:=n.out m a 1 x bO;have k:IntKind.i64.wrap ((a:Int)+1)=(a:Int)+1:=by rw[cX];omega
     go_wp2_with(go_at_call 253;refine d.mono ?_;rintro e O ⟨rfl,D,rfl⟩);exact⟨⟨a+1,m+D,by omega,by omega,rfl,by simp,by first|rfl|rw[Sb]⟩,by simp[aG];omega⟩
    clear n
    go_wp2;exact⟨rfl,.tuple #[],by simp[aI,results246],rfl,_,rfl⟩
   have p:aM ((a:Int)<=3)=aL:=cP bO
   go_wp2;exact⟨rfl,.tuple #[],by simp[aI,results246],rfl,_,rfl⟩
theorem Mem.acO(h:Mem W A s)(g:A.fY .order=ah ob)(f:A.fY .heap=ah hb)(k)(E:k<=bB s.hp):
  Mem (aW W (az ob 1) (.slice (ah (az hb 0)) k (bB s.hp+bB (A.sp .heap)))) (A.up .heap hb ((s.hp.drop k).map i32++A.sp .heap)) {s with hp:=s.hp.take k}:=by
 have a:∀r,(A.up .heap hb ((s.hp.drop k).map i32++A.sp .heap)).fY r=A.fY r:=λr=>by show(if r=.heap then ah hb else A.fY r)=_;grind
 have c:∀r,r≠.heap->(A.up .heap hb ((s.hp.drop k).map i32++A.sp .heap)).sp r=A.sp r:=λr n=>cC n;have x:(A.up .heap hb ((s.hp.drop k).map i32++A.sp .heap)).sp .heap=(s.hp.drop k).map i32++A.sp .heap:=by simp[Ad.up]
 have o:∀r u z,r≠.heap->(A.up .heap hb ((s.hp.drop k).map i32++A.sp .heap)).jM r u z=A.jM r u z:=λr u z n=>by unfold Ad.jM;rw[a r,c r n]
 have m:∀r,(A.up .heap hb ((s.hp.drop k).map i32++A.sp .heap)).ptr r=A.ptr r:=λr=>by unfold Ad.ptr;rw[a r]
 have w:(A.up .heap hb ((s.hp.drop k).map i32++A.sp .heap)).jM .heap (bB (s.hp.take k)) 1=.slice (ah (az hb 0)) k (bB s.hp+bB (A.sp .heap)):=by grind[Ad.jM]
 have fS:∀r,r≠.heap->r≠.order->eA (A.up .heap hb ((s.hp.drop k).map i32++A.sp .heap)) {s with hp:=s.hp.take k} r=eA A s r:=by
  intro r b q;cases r<;>first|exact absurd rfl b|exact absurd rfl q|skip
  all_goals simp only[eA,ql]
  all_goals first|rfl|skip
  all_goals simp[o,c,m,iK]
  all_goals first|rfl|exact⟨rfl,rfl⟩
 refine⟨λr y b1 b q=>h.inj r y b1 ((a r).symm.trans b) ((a y).symm.trans q),λr b1 b=>?_,λr n=>by rw[a];exact h.fix r n,λd=>by rw[a];exact h.cls d,λd=>by rw[a];exact h.rows d,λl e=>h.win l ((a _).symm.trans e),λe=>h.I3 ((a _).symm.trans e),λe=>h.I2 ((a _).symm.trans e),λr j=>?_,λr j=>?_,?_,h.lv,h.lw,h.ls,h.lp,h.small,h.DJ⟩
 .rw[a] at b;by_cases v:r=.heap
  .subst v;rw[f] at b;cases b
   have t:hb≠ob:=λe=>by have:=h.inj _ _ _ f (e▸g);cases this
   rw[cO _ _ _ _ t,h.has _ _ f];grind[eA,List.append_assoc,List.take_append_drop]
  by_cases p:r=.order
  .subst p;rw[g] at b;cases b
   have C:=h.has _ _ g;grind[aW,eA]
  rw[fS r v p,cO _ _ _ _ λB=>p (h.inj _ _ _ b cG)];exact h.has r b1 b
 .rw[c r (by rintro rfl;cases j)];exact h.even r j
 .rw[c r (by rintro rfl;cases j)];have:=h.GF r j;cases r<;>first|exact this|cases j
 have D:=h.flat;grind
theorem Uc{w}{A}{s}(h:Mem w A s)(ob)(o:A.fY .order=ah ob)(D:∀v∈s.hp,v<=s.n)(h1:1<=bB s.hp)(ap:bB s.hp<=4000):
  aB prog 219 #[pz ob] w λe w'=>e=aw (.tuple #[.int .i32 ((s.pop.1.getD 0:Nat):Int),.bool s.pop.1.isSome])∧∃M,Step w w' A M s.pop.2∧∀r,M.fY r=A.fY r∧(r≠.heap->M.sp r=A.sp r):=by
 let⟨Y,hb,pb,cb,d,Q,H,ao,e0,e1,e2⟩:=h.ord;rw[o] at d;cases d
 by_cases hl:bB s.hp<=1
 .have S:bB s.hp=1:=bO
  have m:s.pop=(ai,s):=by unfold Sv.pop;rw[cY hl]
  rw[m];rw[S] at e1;have HM:=bL h;go_enter func219,ntmps219
  go_wp2;exact⟨rfl,.tuple #[.int .i32 0,.bool aL],by simp[aI,results219],rfl,A,⟨HM.out,bW _ _,λ_ R=>cB R⟩,λ_=>⟨rfl,λ_=>rfl⟩⟩
 have T:bB s.hp-1<bB s.hp:=bO
 have U:1<bB s.hp:=bO
 obtain⟨a,ha⟩:∃a,s.hp[1]?=ah a:=⟨_,bP U⟩
 obtain⟨b,G⟩:∃b,s.hp[bB s.hp-1]?=ah b:=⟨_,bP T⟩
 have m:s.pop=(ah a,{s with hp:=(s.hp.set 1 b).take (bB s.hp-1)}):=by grind[Sv.pop]
 have an:=D b (cH G);have ag:=D a (cH ha);rw[m];have L:=XI h ob o D 1 (bB s.hp-1) a b ha G;have x:∀v∈(s.hp.set 1 b).take (bB s.hp-1),v<=s.n:=λv hv=>by grind
 obtain⟨last,l⟩:∃last,bB s.hp=last+1:=⟨bB s.hp-1,by omega⟩
 have V:bB s.hp-1=last:=bO
 rw[V] at L x⊢;have L:aB prog 245 #[pz ob,iz 1,iz last] w _:=L;rw[l] at e1;have O:=bL x;have dl:((last:Int)==0)=aL:=cG
 have ab:aX (last:Int)=last:=by unfold aX;omega
 have hL:bB s.hp=last+1:=l;have HL:=bL hL;go_enter func219,ntmps219
 go_wp2_with(go_at_call 245;refine L.mono ?_;rintro e Z ⟨rfl,pl,S3⟩;refine dM ?_);delta aH;have J:=S3.mem;have k:({A with pl:=pl}:Ad).fY .heap=ah hb:=Q;have j:({A with pl:=pl}:Ad).fY .order=ah ob:=o;have I:({A with pl:=pl}:Ad).fY .nS=ah pb:=H;let⟨Y,al,a2,ac,d,u,z,aa,ad,C,P⟩:=J.ord;rw[j] at d;rw[k] at u;rw[I] at z;cases d
 cases u
 cases z
 have x1:=J.fS k (i:=last) (v:=a) (by show((s.hp.set 1 b).set last a)[last]?=_;rw[lE (by rw[gd,HL.out];omega)])
 have f1:=J.frozen j 1;have g:({s with hp:=(s.hp.set 1 b).set last a}:Sv).hp.length=last+1:=by simp only[gd];exact HL.out
 rw[g] at C;have B:({A with pl:=pl}:Ad).sp .heap=A.sp .heap:=rfl;rw[B] at C;have n:=J.acO j k last (by rw[g];omega);rw[g,B] at n;have a1:((s.hp.set 1 b).set last a).take last=(s.hp.set 1 b).take last:=by rw[KH (bT _)]
 have n:Mem (aW Z (az ob 1) (.slice (ah (az hb 0)) last (last+1+bB (A.sp .heap)))) (({A with pl:=pl}:Ad).up .heap hb ((((s.hp.set 1 b).set last a).drop last).map i32++A.sp .heap)) {s with hp:=(s.hp.set 1 b).take last}:=cG
 obtain⟨t,F⟩:=bK ((({A with pl:=pl}:Ad).up .heap hb ((((s.hp.set 1 b).set last a).drop last).map i32++A.sp .heap)));have c:∀r,t.fY r=A.fY r∧(r≠.heap->t.sp r=A.sp r):=λr=>by rw[F];refine⟨?_,λX=>cC X⟩;show(if r=.heap then ah hb else A.fY r)=_;grind
 rw[<-F] at n;have S4:Step w _ A t _:=S3.trans ⟨n,(bW _ _).setCell (p:=az ob 1) ⟨_,j⟩ _,λq ⟨r,X⟩=>cB ⟨r,(c r).1.symm.trans X⟩⟩;have a0:=n.lp;have f:t.fY .nS=ah pb:=(c .nS).1.trans H;have y:t.fY .order=ah ob:=(c .order).1.trans o;have q1:∃v,aU (aW Z (az ob 1) (.slice (ah (az hb 0)) last (last+1+bB (A.sp .heap)))) (az pb a)=ah v:=⟨_,n.cell f (bP (by show a<bB t.pl;grind))⟩
 obtain⟨v1,q1⟩:=q1;have q2:=n.frozen f a;have q3:aU (aW Z (az ob 1) (.slice (ah (az hb 0)) last (last+1+bB (A.sp .heap)))) (az ob 2)=ah (aj (ah (az pb 0)) (s.n+1) (s.n+1)):=by have:=n.cell y (i:=2) rfl;simpa only[Ad.jM,f,n.flat.2.2.2.1,dQ,gP,fH] using this
 have M5:=n.Tu f a (iz (-1));have S5:Step w _ A {t with pl:=t.pl.set a (iz (-1))} _:=S4.trans ⟨M5,(bW _ _).setCell (p:=az pb a) ⟨_,f⟩ _,λ_ R=>cB R⟩;have DW:=Zl M5 ob y O.out cG;have da:(a:Int)<s.n+1:=bO
 have E:=bL S5;have N:=bL c;simp only at C P;apply_assumption
 go_wp2_with(go_at_call 246;refine DW.mono ?_;rintro e w7 ⟨rfl,m7,rfl⟩);exact⟨rfl,.tuple #[.int .i32 a,.bool aK],by simp[aI,results219],rfl,_,E.out.trans (kI E.out.mem m7),λr=>N.out r⟩
theorem Mem.L6{B:ay}(h:Mem W A s)(j:A.fY .search=ah sb)(l){b:Nat}{sp:List aA}{w:aA}(F:w=aj (ah (az b 0)) (bB s.dK+1) (bB s.dK+1+bB sp / 1))(C:bB s.dK+1+bB sp / 1<=aY)(hb:B.heap[b]?=ah (aR (s.dK.map i64++[i64 l]++sp).toArray 3 (0,0)))(y:∀t u,t≠.dK->A.fY t=ah u->B.heap[u]?=W.heap[u]?∧u≠b):
  Mem (aW B (az sb 4) w) (A.up .dK b sp) {s with dK:=s.dK++[l]}:=by
 have E:sb≠b:=(y .search sb bS j).2;have a:∀r,r≠.dK->(A.up .dK b sp).fY r=A.fY r:=λr g=>cC g;have m:∀r,r≠.dK->(A.up .dK b sp).sp r=A.sp r:=λr g=>cC g;have o:∀r k z,r≠.dK->(A.up .dK b sp).jM r k z=A.jM r k z:=λr k z g=>by unfold Ad.jM;rw[a r g,m r g]
 have n:∀r,r≠.dK->(A.up .dK b sp).ptr r=A.ptr r:=λr g=>by unfold Ad.ptr;rw[a r g]
 have q:(A.up .dK b sp).jM .dK (bB s.dK+1) 1=w:=by rw[F];simp[Ad.jM,Ad.up]
 have fS:∀r,r≠.dK->r≠.search->eA (A.up .dK b sp) {s with dK:=s.dK++[l]} r=eA A s r:=by
  intro r d v;cases r<;>first|exact absurd rfl d|exact absurd rfl v|skip
  all_goals simp only[eA]
  all_goals first|rfl|skip
  all_goals simp[o,m,iK,n]
  all_goals rfl
 have D:eA (A.up .dK b sp) {s with dK:=s.dK++[l]} .search=(eA A s .search).set 4 w:=by simp only[eA,ql,cR,eD,q];simp[o,n];exact⟨rfl,rfl⟩
 refine⟨?_,?_,λr g=>?_,λc=>?_,λc=>?_,λl=>?_,λe=>?_,λe=>?_,λr x=>?_,λr x=>?_,?_,h.lv,h.lw,h.ls,h.lp,h.small,h.DJ⟩
 .intro r t b1 d v;by_cases f:r=.dK
  .grind[Ad.up,absurd]
  rw[a r f] at d;by_cases p:t=.dK
  .grind[Ad.up,absurd]
  rw[a t p] at v;exact h.inj _ _ _ d v
 .intro r b1 d;by_cases f:r=.dK
  .subst f;have p:b1=b:=by simpa[Ad.up] using d.symm
   grind[eA,Ad.up,Bm,Below.heap_setCell]
  rw[a r f] at d;by_cases p:r=.search
  .subst p;rw[j] at d;cases d
   have H:=(y .search sb bS j).1.trans (h.has _ _ j);grind[aW]
  rw[fS r f p,cO _ _ _ _ λG=>p (h.inj _ _ _ d cG)];exact(y r b1 f d).1.trans (h.has r b1 d)
 .rw[a r (by rintro rfl;cases g)];exact h.fix r g
 .rw[a _ dH];exact h.cls c
 .rw[a _ dH];exact h.rows c
 .rw[a _ dH];exact h.win l
 .rw[a _ dH] at e;exact h.I3 e
 .simp[Ad.up] at e
 .by_cases f:r=.dK
  .simp_all[Ad.up,lL]
  rw[m r f];exact h.even r x
 .by_cases f:r=.dK
  .grind[Ad.up,lL,kg]
  rw[m r f];have:kg {s with dK:=s.dK++[l]} r=kg s r:=by
   cases r<;>first|exact absurd rfl f|rfl
  rw[this];exact h.GF r x
 have I:=h.flat;grind
theorem Pn(h:Mem W A s)(c:A.fY .search=ah sb)(l):
  ∃d e,cz W sb 4 (aj d (bB s.dK) e)∧bG W (az sb 4)=aL∧bD W 0 3 1 (aj d (bB s.dK) e) (bB s.dK) (s.dK.map i64)∧
   ∀(f:ay)(O:Obj)(m:aA),bD f 0 3 1 m (bB s.dK+1) (s.dK.map i64++[i64 l])->(bC W O).grownBy f (aP (aT d (bB s.dK) e))->(aP m=aP (aT d (bB s.dK) e)∨∀k,aP m=ah k->(bC W O).heap.size<=k)->
    cz f sb 4 (aj d (bB s.dK) e)∧bG f (az sb 4)=aL∧(∃b k,m=aj (ah (az b 0)) (bB s.dK+1) k)∧(∀r n,r≠.dK->A.fY r=ah n->f.heap[n]?=W.heap[n]?)∧∃q,Step W (aW f (az sb 4) m) A q {s with dK:=s.dK++[l]}∧∀r,r≠.dK->q.fY r=A.fY r∧q.sp r=A.sp r:=by
 let⟨d,e,j⟩:=uz h (r:=.dK) rfl;have c1:=h.cell c (i:=4) rfl;rw[show A.jM .dK (bB s.dK) 1=aj d (bB s.dK) e from j] at c1;have y:=h.frozen c 4;have ow:=h.owns (r:=.dK) rfl;refine⟨d,e,c1,y,j▸ow,λf O m D u z=>?_⟩;rw[<-show A.jM .dK (kg s .dK) (lL .dK)=aj d (bB s.dK) e from j] at u z;let⟨b,sp,x,E,B,C,o,t⟩:=h.grown (r:=.dK) rfl (news:=[i64 l]) D u z;have hs:=(t .search sb dH c)
 have P:=h.L6 c l x B C t;refine⟨(cL (a:=az sb 4) hs.1).trans c1,(jZ (a:=az sb 4) hs.1).trans y,⟨b,_,x⟩,λr n g v=>(t r n g v).1,A.up .dK b sp,⟨P,?_,λk w=>?_⟩,λr g=>⟨cC g,cC g⟩⟩
 .have K:bI A.gE W f:=gA ((bW _ W).alloc O) u (λk w=>⟨.dK,by
   have:aP (A.jM .dK (kg s .dK) (lL .dK))=A.fY .dK:=by unfold Ad.jM;cases A.fY .dK<;>rfl
   rw[<-this];exact w⟩)
  exact K.setCell (p:=az sb 4) ⟨_,c⟩ _
 obtain⟨r,g⟩:=w;by_cases er:r=.dK
 .subst er;have:k=b:=by simpa[Ad.up] using g.symm
  subst this;obtain o|o:=o
  .exact cB ⟨_,o⟩
  exact cI o
 exact cB ⟨r,by simpa[Ad.up,er] using g⟩
def Jz:(prog.info? 3).map (λi=>(i.zero,i.size,i.bytes))=ah (ah (iz 0),1,8):=bV
def boV:aA->Nat
 | .bool aK=>1
 |_=>0
def BC:aA->Nat
 | aj _ n _=>n
 |_=>0
def Dx(f:Nat)(o:Option Nat)(s:Sv):Option (Bool×Sv):=match o with
 |none=>ah (aL,s)
 |some v=>if s.val (2*v+1)=0 then ah (aK,Sv.assign {s with dK:=s.dK++[bB s.dX]} (2*v+1)) else Sv.Aa f s
theorem Fg(f s):Sv.Aa (f+1) s=Dx f s.pop.1 s.pop.2:=by grind[Sv.Aa,Dx]
def Tri(w W:ay)(A:Ad)(s:Sv)(b:Bool)(s':Sv)(o:Option Nat)(ln:Nat):Prop:=
 ∃(A1:Ad)(s1:Sv)(f:Nat),Step w W A A1 s1∧Fit s1∧Dx f o s1=ah (b,s')∧s1.n=s.n∧bB s1.dK=bB s.dK∧bB s1.hp=ln∧1<=ln∧ln<=4000∧(∀v∈s1.hp,v<=s.n)∧(∀v,o=ah v->v<=s.n)∧∀r,A1.fY r=A.fY r∧(r≠.heap->A1.sp r=A.sp r)
theorem yM(a:Fit s)(c:∀v∈s.hp,v<=s.n)(h:1<=bB s.hp):Fit s.pop.2∧s.pop.2.n=s.n∧s.pop.2.dK=s.dK∧(∀v∈s.pop.2.hp,v<=s.n)∧(∀v,s.pop.1=ah v->v<=s.n∧s.pop.2.hp.length+1=bB s.hp)∧(s.pop.1=ai->s.pop.2.hp.length=bB s.hp)∧1<=s.pop.2.hp.length:=by
 let⟨b,d,f⟩:=NO (s:=s) (o:=s.pop.1) (s':=s.pop.2) rfl c;have g:s.pop.1=ai->s.pop.2.hp.length=bB s.hp:=λe=>by
  unfold Sv.pop at e⊢
  split at e
  .next hl=>rw[cY hl]
  cases e
 refine⟨?_,by rw[b],by rw[b],d,f,g,?_⟩
 .rw[b];exact⟨a.lv,a.lw,a.wD,a.KV,a.on,a.nd,a.cls,a.Lh,a.gj⟩
 grind[Sv.pop]
theorem aaC{w}{A}{s}(h:Mem w A s)(hF:Fit s)(sb)(Y:A.fY .search=ah sb)(F:∀v∈s.hp,v<=s.n)(h1:1<=bB s.hp)(V:bB s.hp<=4000)(a5:bB s.dK<=1073741824)(f b s')(hf:Sv.Aa f s=ah (b,s')):
  aB prog 168 #[pz sb] w λe w'=>e=aw (.bool b)∧∃R,Step w w' A R s'∧∀r,r≠.dX->r≠.dK->R.fY r=A.fY r∧(r≠.heap->R.sp r=A.sp r):=by
 let⟨ob,hb,pb,cb,I,b0,b7,bx,e0,e1,e2⟩:=h.ord;have c6:=h.cell Y (i:=6) rfl;simp only[Ad.ptr,I,kY] at c6;cases f with
 |zero=>cases hf
 |succ f=>
 rw[Fg] at hf;let⟨N,O,P,Q,B,M,p7⟩:=yM hF F h1;have PO:=Uc h ob I F h1 V;have ca:=h.small;have hV:Hid (∀(W:ay)(m:Ad),Step w W A m s.pop.2->(∀r,m.fY r=A.fY r∧(r≠.heap->m.sp r=A.sp r))->Tri w W A s b s' s.pop.1 s.pop.2.hp.length):=λW m S hA=>⟨m,_,f,S,N,hf,O,by rw[P],rfl,p7,by
  cases e:s.pop.1 with
  |none=>rw[M e];exact V
  |some v=>have:=(B v e).2;omega,Q,λv e=>(B v e).1,hA⟩
 clear h hF hf N O P Q B M p7 F e0 e1 e2;generalize s.pop.2=ce at *;generalize s.pop.1=o0 at *;go_enter func168,ntmps168
 go_wp2_with(go_at_call 219;refine PO.mono ?_;rintro e w3 ⟨rfl,A3,S3,T⟩);have V0:=hV.out w3 A3 S3 T;clear hV S3 T PO
 go_loopw[3,4] (λt3 t4 W=>∃(o:Option Nat)(ln:Nat),t3=.int .i32 ((o.getD 0:Nat):Int)∧t4=.bool o.isSome∧Tri w W A s b s' o ln) λ_ t4 W=>2*BC ((aU W (az ob 1)).getD aF)+boV t4
 case atStart=>grind
 case round=>
  obtain⟨o,ln,rfl,rfl,m,c,f1,S1,F1,hR,g,t,a1,b6,be,C,a4,p⟩:=hrel;have a:m.fY .search=ah sb:=(p .search).1.trans Y;have k:m.fY .order=ah ob:=(p .order).1.trans I;cases o with
  |none=>
   simp only[Dx,fw,jr] at hR;obtain⟨rfl,rfl⟩:=hR;have u:=bL S1;have n:=bL p;clear S1 F1 p C V0
   go_wp2;go_ret;exact⟨rfl,m,u.out,λr _ _=>n.out r⟩
  |some v=>
   have cd:v<=s.n:=a4 v rfl;have d:=S1.mem;let⟨wi,ab⟩:=d.fix .yy rfl;let⟨vb,aa⟩:=d.fix .jg rfl;have c7:=d.cell a (i:=7) rfl;simp only[Ad.jM,ab,d.flat.2.2.2.2.2.1,dQ,gP,fH,g] at c7;have c0:=d.cell a (i:=0) rfl;simp only[Ad.jM,aa,d.flat.1,dQ,gP,fH,g] at c0;have wv:=d.cell ab (i:=v) (v:=.int .i8 (-1)) (by show(aN (c.n+1) _)[v]?=_;rw[rD,cY bO])
   have vv:=d.D0 aa (l:=2*v+1) bO;have al:=d.cell a (i:=6) rfl;simp only[Ad.ptr,k,kY] at al;have IS:=Vd wr v (-1) bO;have a2:Jh v (-1)=2*v+1:=by unfold Jh;simp
   rw[a2] at IS;have dv:(v:Int)<s.n+1:=bO
   have bo:((2*v+1:Nat):Int)<2*(s.n:Int)+2:=bO
   have a6:=F1.ur;rw[g] at a6;generalize a3:2*v+1=lv at *;have u:=bL S1;have n:=bL p;have HR:=bL hR;have HL:=bL a3;by_cases z:c.val lv=0
   .have j:=HR.out;simp only[Dx,HL.out,cY z,fw,jr] at j;obtain⟨rfl,rfl⟩:=j;rw[z] at vv;have M2:Mem (bF wr 1) m c:=d.keep λ_ _=>rfl;let⟨ta,tc,bc,ch,t3,t4⟩:=Pn M2 a (bB c.dX);have zs:sb<hz wr:=d.lt a;have t1:cz wr sb 4 (aj ta (bB c.dK) tc):=bc;let⟨la,lc,a7⟩:=uz d (r:=.dX) rfl;have c3:=d.cell a (i:=3) rfl;rw[show m.jM .dX (bB c.dX) 1=aj la (bB c.dX) lc from a7] at c3;have HT:=bL t4;have OW:=bL t3;have U:=bL d;let⟨i0,ap,a9,ba,bb⟩:=eB Jz;have bR:bB c.dK<=1073741824:=by rw[t];exact a5
    clear t;generalize cc:bB c.dK=sl at *
    go_wp2_with(go_at_call 131;refine IS.mono ?_;rintro e w4 ⟨rfl,rfl⟩);refine wp_region_noPanic ?_;go_region_law(first|(refine fe rfl (.tmp 44) (.tmp 50) 39 rfl 0 3 i0 _ 1 8 underlying39 ap a9 ba bb rfl bS (aj ta sl tc) sl (c.dK.map i64) (by(try simp only[aQ,cD,cw,ct,cf,cN,cK]);first|rfl|(simp[bq];done)) (by exact fT OW.out _) (az (hz wr) 0) 1 1 [iz (bB c.dX)] (by(try simp only[aQ,cD,cw,ct,cf,cN,cK]);first|rfl|(simp[bq];done)) rfl (qF _ _ _) cM cJ bO bQ ?_;intro v8 w8 J y H;let⟨d1,g1,⟨b8,k8,a8⟩,bi,R,ST,L⟩:=HT.out w8 _ v8 J y H;subst a8;have HF:=bL (b9 ST L)));all_goals
     try simp only[aQ,cD,cw,ct,cf,cN,cK]
     refine NoPanic.normal ?_;dsimp only[Exit.then];apply_assumption;have S5:=(u.out.trans (kI U.out 1)).trans HF.out.1;have Z:R.fY .search=ah sb:=(HF.out.2 .search dH).1.trans a;have AS:=zi _ HF.out.1.mem sb Z lv (by show lv<2*c.n+2;rw[g];omega) (by show bB c.dX<=_;omega) ai;unfold i32 at AS;have ag:=bL S5
     go_wp2_with(go_at_call 161;refine AS.mono ?_;rintro e w9 ⟨rfl,A9,S9,an⟩);go_ret;refine⟨rfl,A9,?_,λr h1 h2=>?_⟩
     .exact ag.out.trans S9
     have q1:=an r h1;have q2:=HF.out.2 r h2;have q3:=n.out r;exact⟨q1.1.trans (q2.1.trans q3.1),λhr=>q1.2.trans (q2.2.trans (q3.2 hr))⟩
   have bj:(c.val lv==0)=aL:=by simpa using z
   have j:=HR.out;simp only[Dx,HL.out,cC z] at j;cases f1 with
   |zero=>cases j
   |succ f2=>
   rw[Fg] at j;have D:∀v∈c.hp,v<=c.n:=by rw[g];exact C
   let⟨N,O,P,Q,B,M,p7⟩:=yM F1 D bO;have PO:=Uc d ob k D bO bO;have x:BC ((aU wr (az ob 1)).getD aF)=ln:=by rw[d.cell k (i:=1) rfl];simp only[eQ,Ad.jM];let⟨ao,q⟩:=d.fix .heap rfl;rw[q];simp only[BC];exact a1
   have ac:=bL x;have HP:Hid (_∧_∧_∧_∧_∧_∧_):=⟨N,O,P,Q,B,M,p7⟩
   have ad:=bL j;have U:=bL d;generalize c.val lv=vl at *;generalize c.pop.1=o1 at *;generalize c.pop.2=s2 at *
   go_wp2_with(first|(go_at_call 219;refine PO.mono ?_;rintro e w4 ⟨rfl,A4,S4,E⟩)|(go_at_call 131;refine IS.mono ?_;rintro e w4 ⟨rfl,rfl⟩));let⟨N,O,P,Q,B,M,p7⟩:=HP.out;have X:A4.fY .order=ah ob:=(E .order).1.trans k;have G:BC ((aU w4 (az ob 1)).getD aF)=bB s2.hp:=by rw[S4.mem.cell X (i:=1) rfl];simp only[eQ,Ad.jM];let⟨ao,q⟩:=S4.mem.fix .heap rfl;rw[q];rfl
   have a0:bB s2.hp<=4000:=by
    cases o1 with
    |none=>have:=M rfl;omega
    |some v=>have:=(B v rfl).2;omega
   refine⟨⟨o1,bB s2.hp,rfl,rfl,A4,s2,f2,u.out.trans S4,N,ad.out,O.trans g,by rw[P];exact t,rfl,p7,a0,by rw[<-g];exact Q,λv e=>by rw[<-g];exact(B v e).1,λr=>⟨(E r).1.trans (n.out r).1,λhr=>((E r).2 hr).trans ((n.out r).2 hr)⟩⟩,?_⟩;rw[G,ac.out];cases o1 with
   |none=>have:=M rfl;simp only[kJ,iM,boV];omega
   |some v=>have:=(B v rfl).2;simp only[iM,boV];omega
structure Rn(s:Sv):Prop where
 fit:Fit s
 hp:∀v∈s.hp,v<=s.n
 one:1<=bB s.hp
 all:bB s.dK+bB s.hp<=4000
theorem Bn:∀(f:Nat)(s:Sv)(b:Bool)(d:Sv),Rn s->Sv.Aa f s=ah (b,d)->Rn d∧d.n=s.n∧bB d.cl=bB s.cl∧d.fin=s.fin∧(b=aK->bB d.hp<bB s.hp)∧bB d.hp<=bB s.hp
 |0,_,_,_,_,h=>by cases h
 |f+1,s,b,d,l,h=>by
  let⟨c,k,p,q,u,w,p7⟩:=yM l.fit l.hp l.one;have g:s.pop.2.cl.length=bB s.cl:=aeC
  have j:s.pop.2.fin=s.fin:=aeC
  have r:=l.all;rw[Fg] at h;generalize s.pop.1=o at *;generalize s.pop.2=a at *;cases o with
  |none=>simp only[Dx,fw,jr] at h;obtain⟨rfl,rfl⟩:=h;have:=w rfl;exact⟨⟨c,by rw[k];exact q,p7,by rw[p];omega⟩,k,g,j,λe=>(by cases e),by omega⟩
  |some v=>
   let⟨x,hl⟩:=u v rfl;simp only[Dx] at h
   split at h
   .next t=>
    simp only[fw,jr] at h;obtain⟨rfl,rfl⟩:=h;have m:Fit {a with dK:=a.dK++[bB a.dX]}:=⟨c.lv,c.lw,c.wD,c.KV,c.on,c.nd,c.cls,c.Lh,c.gj⟩
    refine⟨⟨m.assign cG t,by show ∀v∈a.hp,v<=a.n;rw[k];exact q,p7,?_⟩,k,g,j,λ_=>by show bB a.hp<_;omega,by show bB a.hp<=_;omega⟩;show bB (a.dK++[bB a.dX])+bB a.hp<=4000;rw[p];simp;omega
   have n:Rn a:=⟨c,by rw[k];exact q,p7,by rw[p];omega⟩
   let⟨y,z,B,C,D,E⟩:=Bn f a b d n h;grind
theorem wR:∀(f:Nat)(s:Sv)(o:Option Nat)(a:Sv),Sv.follow f s=ah (o,a)->a.n=s.n∧a.dK=s.dK∧a.hp=s.hp∧a.fin=s.fin∧bB a.cl=bB s.cl
 |0,_,_,_,h=>by cases h
 |f+1,s,o,a,h=>by
  rw[Sv.follow] at h;cases hl:s.dX[s.seen]? with
  |none=>grind
  |some l=>
   rw[hl] at h;let⟨d,_,e,g,j,k⟩:=Hg.visit {s with seen:=s.seen+1} (lk l);cases b:Sv.visit {s with seen:=s.seen+1} (lk l) with
   |mk n m=>
    rw[b] at d e g j k;simp only[b] at h;cases n with
    |some c=>grind
    |none=>let⟨p,q,r,t,u⟩:=wR f m o a h;grind
def Yw:aA->Nat
 | ak ai=>1
 |_=>0
def acV(w W:ay)(A:Ad)(s:Sv)(b:Bool)(s':Sv):Prop:=
 ∃(A1:Ad)(s1:Sv)(f:Nat),Step w W A A1 s1∧Rn s1∧Sv.run f s1=ah (b,s')∧s1.n=s.n∧bB s1.cl=bB s.cl∧∀r,r≠.dX->r≠.dK->(∀l,r≠.win l)->A1.fY r=A.fY r
theorem Ux(h:Mem W A s)(b:A.fY .order=ah ob):BC ((aU W (az ob 1)).getD aF)=bB s.hp:=by rw[h.cell b (i:=1) rfl];simp only[eQ,Ad.jM];let⟨c,a⟩:=h.fix .heap rfl;rw[a];rfl
theorem aaQ{w}{A}{s}(h:Mem w A s)(hR:Rn s)(sb)(a4:A.fY .search=ah sb)(a0:bB s.cl<=4398046511100)(f b s')(hf:Sv.run f s=ah (b,s')):
  aB prog 128 #[pz sb,iz 64] w λe w'=>e=aw (.int .i8 (if b then 1 else -1))∧∃A',Step w w' A A' s'∧∀r,r≠.dX->r≠.dK->(∀l,r≠.win l)->A'.fY r=A.fY r:=by
 have V0:acV w w A s b s':=⟨A,s,f,⟨h,bW _ _,λ_ hk=>cB hk⟩,hR,hf,rfl,rfl,λ_ _ _ _=>rfl⟩
 let⟨ob,a3⟩:=h.fix .order rfl;go_enter func128,ntmps128
 go_wp2
 go_loopw[1] (λt1 W=>t1=iz 64∧acV w W A s b s') λ_ W=>2*BC ((aU W (az ob 1)).getD aF)+Yw ((aU W (az sb 13)).getD aF)
 case atStart=>exact⟨rfl,V0⟩
 case round=>
  obtain⟨rfl,U,s1,f1,S1,R1,a,ac,y,L⟩:=hrel;have k:U.fY .search=ah sb:=(L .search bS bS eZ).trans a4;have z:U.fY .order=ah ob:=(L .order bS bS eZ).trans a3;have P:=S1.mem.cell k (i:=13) rfl;cases f1 with
  |zero=>cases a
  |succ f1=>
  rw[Sv.run] at a;cases j:s1.fin with
  |true=>
   let⟨p,hp⟩:=S1.mem.DJ;simp only[j,iX,hp] at P;simp only[j,iX,fw,jr] at a;obtain⟨rfl,rfl⟩:=a;have u:=bL S1;have t:=bL L
   go_wp2;go_ret;exact⟨rfl,U,u.out,t.out⟩
  |false=>
   simp only[j,gL,jF] at P a;cases M:Sv.follow (2*s1.n+3) s1 with
   |none=>rw[M] at a;cases a
   |some os=>
   obtain⟨o,q⟩:=os;rw[M] at a;have FO:=QQ S1.mem R1.fit sb k (by rw[y];exact a0) _ o q M;let⟨g1,g2,N,g4,g5⟩:=wR _ _ _ _ M;have a2:2*BC ((aU wr (az ob 1)).getD aF)+Yw ((aU wr (az sb 13)).getD aF)=2*bB s1.hp+1:=by rw[Ux S1.mem z,P];rfl
   have V:=bL a2;have u:=bL S1;have t:=bL L;have n:=bL R1;have aa:=S1.mem.cls;have ag:=bL aa;cases o with
   |some c=>
    simp only at a;by_cases R:bB q.dK=0
    .rw[cY R] at a;have I:=bL a;have ad:Hid (∀F:Fit q,Rn {q with fin:=aK}):=λF=>⟨⟨F.lv,F.lw,F.wD,F.KV,F.on,F.nd,F.cls,F.Lh,F.gj⟩,by show ∀v∈q.hp,v<=q.n;rw[N,g1];exact n.out.hp,by show 1<=bB q.hp;rw[N];exact n.out.one,by show bB q.dK+bB q.hp<=4000;rw[g2,N];exact n.out.all⟩
     go_wp2_with(go_at_call 163;refine FO.mono ?_;rintro e w3 ⟨rfl,Z,A3,T,F3,x⟩;refine dM ?_);delta aH;let⟨cb,ap⟩:=(ag.out c).2 (Z c rfl);have C:U.opt (ah c)=pz cb:=by simp[Ad.opt,Ad.ptr,ap]
     rw[C];have d:A3.fY .search=ah sb:=(x .search bS eZ).1.trans k;have LE:=Jj w3 T.mem sb d;have FI:=EE T.mem sb d (pz cb);rw[R] at LE;have LE:aB prog 164 #[pz sb] w3 λe w'=>e=aw (iz 0)∧w3=w':=LE;have J:=bL T;have al:=bL F3;have m:=bL x;apply_assumption
     go_wp2_with(first|(go_at_call 164;refine LE.mono ?_;rintro e w4 ⟨rfl,rfl⟩)|(go_at_call 160;refine FI.mono ?_;rintro e w4 ⟨rfl,H,E,g⟩));have B:H.fY .order=ah ob:=(g .order).1.trans ((m.out .order bS eZ).1.trans z);have D:H.fY .search=ah sb:=(g .search).1.trans d;refine⟨⟨rfl,H,_,f1,(u.out.trans J.out).trans E,ad.out al.out,I.out,g1.trans ac,g5.trans y,λr G Q O=>(g r).1.trans ((m.out r G O).1.trans (t.out r G Q O))⟩,?_⟩;let⟨p,hp⟩:=E.mem.DJ;rw[V.out,Ux E.mem B,E.mem.cell D (i:=13) rfl];simp only[iX,hp,eQ,Yw,N];omega
    .rw[cC R] at a;cases a
   |none=>
    simp only at a;have ao:Hid (∀F:Fit q,Rn q):=λF=>⟨F,by rw[N,g1];exact n.out.hp,by rw[N];exact n.out.one,by rw[g2,N];exact n.out.all⟩;cases S:Sv.Aa (bB q.hp+1) q with
    |none=>rw[S] at a;cases a
    |some bs=>
    obtain⟨tb,s3⟩:=bs;rw[S] at a;have X:=bL S;have I:=bL a
    go_wp2_with(go_at_call 163;refine FO.mono ?_;rintro e w3 ⟨rfl,Z,A3,T,F3,x⟩;refine dM ?_);delta aH;have d:A3.fY .search=ah sb:=(x .search bS eZ).1.trans k;have Y:=ao.out F3;have TR:=aaC T.mem F3 sb d Y.hp Y.one (by have:=Y.all;omega) (by have:=Y.all;omega) _ tb s3 X.out;let⟨k1,k2,k3,k4,k5,k6⟩:=Bn _ _ _ _ Y X.out;have J:=bL T;have m:=bL x;have an:=bL k1;have C:U.opt ai=ak ai:=rfl;rw[C];cases tb with
    |false=>
     have ab:=I.out;simp only[fw,jr] at ab;obtain⟨rfl,rfl⟩:=ab;apply_assumption
     go_wp2_with(go_at_call 168;refine TR.mono ?_;rintro e w4 ⟨rfl,H,E,g⟩);go_ret;exact⟨rfl,H,(u.out.trans J.out).trans E,λr G Q O=>(g r G Q).1.trans ((m.out r G O).1.trans (t.out r G Q O))⟩
    |true=>
     apply_assumption
     go_wp2_with(go_at_call 168;refine TR.mono ?_;rintro e w4 ⟨rfl,H,E,g⟩);have B:H.fY .order=ah ob:=(g .order bS bS).1.trans ((m.out .order bS eZ).1.trans z);have D:H.fY .search=ah sb:=(g .search bS bS).1.trans d;refine⟨⟨rfl,H,s3,f1,(u.out.trans J.out).trans E,an.out,I.out,k2.trans (g1.trans ac),k3.trans (g5.trans y),λr G Q O=>(g r G Q).1.trans ((m.out r G O).1.trans (t.out r G Q O))⟩,?_⟩;have a1:=k5 (by trivial);rw[V.out,Ux E.mem B,E.mem.cell D (i:=13) rfl];simp only[k4,g4,j,gL,jF,eQ,Yw];rw[N] at a1;omega
theorem Qo(w):aB prog 129 #[iz 1] w λe d=>e=aw (iz 1)∧w=d:=by
 go_enter func129,ntmps129
 go_wp2
 go_loopw[3] (λa W=>∃k:Int,(k=1∨k=2)∧a=iz k∧W=w) λa _=>2-(aG a).toNat
 case atStart=>grind
 case round=>
  obtain⟨k,c,rfl,rfl⟩:=hrel;obtain rfl|rfl:=c
  .go_wp2;grind[aG]
  obtain⟨f,b⟩:=bK wr;subst b
  go_wp2
  go_loopw[0,3] (λt0 a W=>t0=iz 1∧a=iz 2∧W=f) λ_ _ _=>0
  case atStart=>exact⟨rfl,rfl,rfl⟩
  case round=>
   obtain⟨rfl,rfl,rfl⟩:=hrel
   go_wp2;go_ret;exact⟨rfl,rfl⟩
theorem Tb{w}{A}{s}(h:Mem w A s)(q:Rn s)(sb)(j:A.fY .search=ah sb)(g:bB s.cl<=4398046511100)(f b k)(t:Sv.run f s=ah (b,k)):
  aB prog 86 #[pz sb] w λe v=>e=aw (.bool b)∧∃n,Step w v A n k∧∀r,r≠.dX->r≠.dK->(∀l,r≠.win l)->n.fY r=A.fY r:=by
 have p:=aaQ h q sb j g f b k t;have o:=Qo w;go_enter func86,ntmps86
 go_wp2
 go_loopw[3] (λu W=>u=iz 1∧W=w) λ_ _=>0
 case atStart=>exact⟨rfl,rfl⟩
 case round=>
  obtain⟨rfl,rfl⟩:=hrel;cases b with
  |true=>go_wp2_with(first|(go_at_call 128;refine p.mono ?_;rintro e m ⟨rfl,c,d,a⟩)|(go_at_call 129;refine o.mono ?_;rintro e m ⟨rfl,rfl⟩));go_ret;exact⟨rfl,c,d,a⟩
  |false=>go_wp2_with(first|(go_at_call 128;refine p.mono ?_;rintro e m ⟨rfl,c,d,a⟩)|(go_at_call 129;refine o.mono ?_;rintro e m ⟨rfl,rfl⟩));go_ret;exact⟨rfl,c,d,a⟩
end
section
theorem jE(z n):aJ #[z] n=(aN n z).toArray:=by grind[aJ]
def YT:(prog.info? 268).map (λi=>(i.zero,i.size,i.bytes))=ah (ah (.int .u64 0),1,8):=bV
def YS:(prog.info? 237).map (λi=>(i.zero,i.size,i.bytes))=ah (ah (.int .i32 0),1,4):=bV
theorem Qg(w:ay)(n:Nat)(l:n<=1048577):(aV 267 (iz n) (iz n)).run prog w=.ok (aj (ah (az w.heap.size 0)) n n) (bC w (aq (aN n (.int .u64 0)).toArray 268)):=by let⟨k,d,e,f,h⟩:=eB YT;have c:=oo (P:=prog) w 267 268 k _ underlying267 d e .i64 .i64 (n:Int) (n:Int) bO (kh _) (by rw[h];omega) bO;rw[f] at c;simp only[eS,iq] at c;rw[<-jE];exact c
theorem Qe(w:ay)(n:Nat)(l:n<=1048577):(aV 189 (iz n) (iz n)).run prog w=.ok (aj (ah (az w.heap.size 0)) n n) (bC w (aq (aN n (.int .i32 0)).toArray 237)):=by let⟨k,d,e,f,h⟩:=eB YS;have c:=oo (P:=prog) w 189 237 k _ underlying189 d e .i64 .i64 (n:Int) (n:Int) bO (kh _) (by rw[h];omega) bO;rw[f] at c;simp only[eS,iq] at c;rw[<-jE];exact c
theorem Cm(w:ay)(n:Nat)(l:n<=1048577):(aV 39 (iz n) (iz n)).run prog w=.ok (aj (ah (az w.heap.size 0)) n n) (bC w (aq (aN n (iz 0)).toArray 3)):=by let⟨k,d,e,f,h⟩:=eB Jz;have c:=oo (P:=prog) w 39 3 k _ underlying39 d e .i64 .i64 (n:Int) (n:Int) bO (kh _) (by rw[h];omega) bO;rw[f] at c;simp only[eS,iq] at c;rw[<-jE];exact c
structure uZ(w W:ay)(n ob hb pb cb:Nat)(hs ps:List aA):Prop where
 o:W.heap[ob]?=ah (aq #[aj (ah ⟨cb,0,ai⟩) (n+1) (n+1),aj (ah ⟨hb,0,ai⟩) (n+1) (n+1),aj (ah ⟨pb,0,ai⟩) (n+1) (n+1),.int .u64 1024] 270)
 h:W.heap[hb]?=ah (.cells hs.toArray 237)
 p:W.heap[pb]?=ah (.cells ps.toArray 3)
 c:W.heap[cb]?=ah (aq (aN (n+1) (.int .u64 0)).toArray 268)
 hl:bB hs=n+1
 pl:bB ps=n+1
 ne:ob≠hb∧ob≠pb∧ob≠cb∧hb≠pb∧hb≠cb∧pb≠cb
 new:w.heap.size<=ob∧w.heap.size<=hb∧w.heap.size<=pb∧w.heap.size<=cb
 below:aC w.heap.size w W
variable{w W:ay}{n ob hb pb cb i b a j g:Nat}{hs ps:List aA}
def uZ.drew(h:uZ w W n ob hb pb cb hs ps)(m):uZ w (bF W m) n ob hb pb cb hs ps:=
 ⟨h.o,h.h,h.p,h.c,h.hl,h.pl,h.ne,h.new,⟨h.below.os,h.below.tape,h.below.output,h.below.size,h.below.block⟩⟩
theorem pL(w c d e f):(bC (bC (bC (bC w c) d) e) f).heap[w.heap.size]?=ah c∧(bC (bC (bC (bC w c) d) e) f).heap[w.heap.size+1]?=ah d∧(bC (bC (bC (bC w c) d) e) f).heap[w.heap.size+1+1]?=ah e∧(bC (bC (bC (bC w c) d) e) f).heap[w.heap.size+1+1+1]?=ah f∧aC w.heap.size w (bC (bC (bC (bC w c) d) e) f):=by
 have z0:(bC w c).heap.size=w.heap.size+1:=bQ
 have k:(bC (bC w c) d).heap.size=w.heap.size+1+1:=bQ
 have h:(bC (bC (bC w c) d) e).heap.size=w.heap.size+1+1+1:=bQ
 refine⟨?_,?_,?_,?_,(((Below.alloc (Below.alloc ((cW _ _).alloc (bT _) c) bO d) bO e)).alloc bO f)⟩
 .grind[Below.heap_alloc,heap_alloc_new]
 .grind[Below.heap_alloc,heap_alloc_new]
 .grind[Below.heap_alloc,heap_alloc_new]
 rw[<-h];exact eW _ f
theorem yK(f:Nat->aA)(z:aA){m:Nat}(h:i<m):((aO i).map f++aN (m-i) z).set i (f i)=(aO (i+1)).map f++aN (m-(i+1)) z:=by
 have e:m-i=(m-(i+1))+1:=bO
 rw[gJ _ _ bQ,e,lg,qH,fZ];simp
theorem uZ.set(h:uZ w W n ob hb pb cb hs ps)(i x y):
  uZ w (aW (aW W (az hb i) x) (az pb i) y) n ob hb pb cb (hs.set i x) (ps.set i y):=by
 let⟨c,d,l,e,f,k⟩:=h.ne;refine⟨?_,?_,?_,?_,by simp[h.hl],by simp[h.pl],h.ne,h.new,?_⟩
 .rw[cO _ _ _ _ d,cO _ _ _ _ c];exact h.o
 .rw[cO _ _ _ _ e];unfold aW;simp[oP,h.h]
 .have:=h.p;grind[aW]
 .rw[cO _ _ _ _ k.symm,cO _ _ _ _ f.symm];exact h.c
 exact(h.below.setCell (p:=az hb i) h.new.2.1 _).setCell (p:=az pb i) h.new.2.2.1 _
theorem I6(w:ay)(n:Nat)(J:n<=2000):
  aB prog 123 #[ae af n] w λe E=>∃ob hb pb cb:Nat,e=aw (ak (ah ⟨ob,0,ai⟩))∧uZ w E n ob hb pb cb ((aO (n+1)).map i32) ((aO (n+1)).map i64):=by
 have m:IntKind.i64.wrap ((n:Int)+1)=(n:Int)+1:=aew
 have M:∀W:ay,_:=λW=>by have q:=Qg W (n+1) bO;rw[show((n+1:Nat):Int)=(n:Int)+1 from by simp] at q;exact q
 have N:∀W:ay,_:=λW=>by have q:=Qe W (n+1) bO;rw[show((n+1:Nat):Int)=(n:Int)+1 from by simp] at q;exact q
 have O:∀W:ay,_:=λW=>by have q:=Cm W (n+1) bO;rw[show((n+1:Nat):Int)=(n:Int)+1 from by simp] at q;exact q
 go_enter func123,ntmps123
 go_wp2_with fail
 go_cut[3] from 5 to 15 λD F=>∃ob hb pb cb:Nat,D=ak (ah ⟨ob,0,ai⟩)∧uZ w F n ob hb pb cb (aN (n+1) (.int .i32 0)) (aN (n+1) (ae af 0))
 case first=>
  go_region_law(fail);all_goals
   try simp only[aQ,cD,cw,ct,cf,cN,cK]
   go_wp2_with fail;go_meet
   case rel=>
    refine⟨_,_,_,_,rfl,uZ.drew ⟨(pL w _ _ _ _).2.2.2.1,?_,?_,?_,by simp,by simp,⟨by omega,by omega,by omega,by omega,by omega,by omega⟩,⟨by omega,by omega,by omega,by omega⟩,(pL w _ _ _ _).2.2.2.2⟩ 1⟩;all_goals
     rw[List.toArray_replicate];first
     |exact(pL w _ _ _ _).1
     |exact(pL w _ _ _ _).2.1
     |exact(pL w _ _ _ _).2.2.1
 case rest=>
  obtain⟨ob,hb,pb,cb,rfl,z⟩:=hcut;have P:aU wc ⟨ob,1,ai⟩=ah (aj (ah ⟨hb,0,ai⟩) (n+1) (n+1)):=by simp[aU,z.o]
  apply_assumption
  go_wp2_with fail
  go_loopw[21] (λo W=>∃i:Nat,i<=n+1∧o=ae af i∧uZ w W n ob hb pb cb ((aO i).map i32++aN (n+1-i) (.int .i32 0)) ((aO i).map i64++aN (n+1-i) (ae af 0))) λo _=>n+1-(aG o).toNat
  case atStart=>exact⟨0,by omega,rfl,z⟩
  case round=>
   obtain⟨i,I,rfl,f⟩:=hrel;by_cases l:i<n+1
   .have u:bB ((aO i).map i32++aN (n+1-i) (aS .i32 0))=n+1:=f.hl;have y:bB ((aO i).map i64++aN (n+1-i) (aS .i64 0))=n+1:=f.pl;obtain⟨T,Q⟩:∃v,aU wr ⟨hb,i,ai⟩=ah v:=⟨_,by simp only[aU,f.h];rw[kF,bP (by rw[u];exact l)];rfl⟩
    have G:bG wr ⟨hb,i,ai⟩=aL:=by simp[bG,f.h]
    have t:hb≠pb:=f.ne.2.2.2.1;have p:(aW wr ⟨hb,i,ai⟩ (.int .i32 i)).heap[pb]?=wr.heap[pb]?:=cO _ _ _ _ t.symm;obtain⟨U,R⟩:∃v,aU (aW wr ⟨hb,i,ai⟩ (.int .i32 i)) ⟨pb,i,ai⟩=ah v:=⟨_,by simp only[aU,p,f.p];rw[kF,bP (by rw[y];exact l)];rfl⟩
    have H:bG (aW wr ⟨hb,i,ai⟩ (.int .i32 i)) ⟨pb,i,ai⟩=aL:=by simp only[bG,p,f.p];simp
    have c:Hid (∀W:ay,(∀k,k≠hb->k≠pb->W.heap[k]?=wr.heap[k]?)->aU W ⟨ob,1,ai⟩=ah (aj (ah ⟨hb,0,ai⟩) (n+1) (n+1))∧aU W ⟨ob,2,ai⟩=ah (aj (ah ⟨pb,0,ai⟩) (n+1) (n+1))):=λW C=>by
     have:=C ob f.ne.1 f.ne.2.1;constructor
     .simp[aU,this,f.o]
     simp[aU,this,f.o]
    have A:IntKind.i32.wrap (i:Int)=i:=by rw[IntKind.wrap_i32];omega
    have m:IntKind.i64.wrap ((i:Int)+1)=(i:Int)+1:=aew
    have dn:(i:Int)<n+1:=bO
    have s:=bL f
    go_wp2_with fail;refine wp_region_noPanic ?_;refine wp_region_held_drew (S:=λW=>aU W ⟨ob,1,ai⟩=ah (aj (ah ⟨hb,0,ai⟩) (n+1) (n+1))∧aU W ⟨ob,2,ai⟩=ah (aj (ah ⟨pb,0,ai⟩) (n+1) (n+1))) bV ?_ λhHeld=>?_
    ·(first|exact c.out _ (λk d h=>rfl)|exact c.out _ (λk d h=>cO _ _ _ _ d)|exact c.out _ λk d h=>(cO _ _ _ _ h).trans (cO _ _ _ _ d))
    refine tk 0 ?_;refine tk 1 ?_;refine tk 2 ?_;refine tk 3 ?_;refine tk 4 ?_;refine tk 5 ?_;refine tk 6 ?_;refine tk 7 ?_;refine tk 8 ?_;refine tk 9 ?_;refine tk 10 ?_;refine tk 11 ?_;refine tk 12 ?_;refine tk 13 ?_;refine rd 14 ?_ λhHeld=>?_
    ·(first|exact c.out _ (λk d h=>rfl)|exact c.out _ (λk d h=>cO _ _ _ _ d)|exact c.out _ λk d h=>(cO _ _ _ _ h).trans (cO _ _ _ _ d))
    refine tk 15 ?_;refine rd 16 ?_ λhHeld=>?_
    ·(first|exact c.out _ (λk d h=>rfl)|exact c.out _ (λk d h=>cO _ _ _ _ d)|exact c.out _ λk d h=>(cO _ _ _ _ h).trans (cO _ _ _ _ d))
    all_goals refine wpAnyH_done bV (NoPanic.normal ?_) _
    try simp only[aQ,cD,cw,ct,cf,cN,cK]
    go_wp2_with fail;refine⟨⟨i+1,by omega,by simp,?_⟩,by simp[aG];omega⟩;have:=(s.out.set i (i32 i) (i64 i)).drew 1;rw[yK i32 _ l,yK i64 _ l] at this;exact this
   have x:i=n+1:=bO
   have s:=bL f
   go_wp2_with fail;go_ret;have:=s.out;rw[x] at this;simp only[iN,KJ,gC] at this;exact⟨ob,hb,pb,cb,rfl,this⟩
abbrev tP(b:Array Bool)(todo L:List Nat):Array Bool:=b.mapIdx λj x=>x||(todo.contains j&&!L.contains j)
variable{L xs:List Nat}
theorem Ml{b:Array Bool}{todo:List Nat}(e:L.Nodup)(f:i∈todo):(tP b todo L).setIfInBounds i aK=tP b todo (L.erase i):=by
 have d:∀(L:List Nat)(j:Nat)(h:j<(tP b todo L).size),(tP b todo L)[j]=(b[j]'(by simpa[tP] using h)||(todo.contains j&&!L.contains j)):=λL j h=>by exact Array.getElem_mapIdx ..
 have c:∀L,(tP b todo L).size=b.size:=λL=>by simp[tP]
 apply Array.ext
 .rw[Array.size_setIfInBounds,c,c]
 grind
def D9:List Nat->List (List Nat)
 | []=>[[]]
 |x::xs=>D9 xs++(D9 xs).map (x::·)
theorem yR:∀{todo L:List Nat},L.Sublist todo->L∈D9 todo
 | [],L,h=>by cases h;simp[D9]
 |x::xs,L,h=>by
  rw[D9,cU];cases h with
  |cons _ h=>exact cB (yR h)
  |cons_cons _ h=>exact cI (gI.2 ⟨_,yR h,rfl⟩)
theorem Bb{P:Program}{c:Array Oper}{Q:Exit->Act->ay->Prop}{m:Region.Mode}{b:Array Bool}{todo:List Nat}(h:todo.Nodup)(x:(D9 todo).all (λL=>L.isEmpty||decide (Region.ready m c (tP b todo L)=L))=aK){J:List Nat->Act->ay->Prop}{fuel:Nat}(hs:∀L a w,L.Sublist todo->J L a w->∀i∈L,wpOp P c Q i (λo s=>J (L.erase i) o s) a w)(y:∀a w,J [] a w->wpAny P m c Q fuel (tP b todo []) a w):
  ∀(k:Nat)(L:List Nat)(a:Act)(w:ay),bB L=k->L.Sublist todo->J L a w->wpAny P m c Q (k+fuel) (tP b todo L) a w
 |0,L,a,w,v,_,t=>by have:L=[]:=eE v;grind
 |k+1,L,a,w,v,f,t=>by
  have l:L≠[]:=λe=>by grind
  have d:Region.ready m c (tP b todo L)=L:=by have:=List.all_eq_true.1 x L (yR f);simpa[l] using this
  rw[show k+1+fuel=(k+fuel)+1 from by omega];refine wpAny_all d l λi u=>?_;have q:L.Nodup:=h.sublist f;rw[Ml q (f.subset u)];refine wpOp_mono (λo s p=>?_) (hs L a w f t i u);exact Bb h x hs y k (L.erase i) o s cG ((List.erase_sublist ..).trans f) p
def QC:(prog.info? 184).map (λi=>(i.zero,i.size,i.bytes))=ah (ah (.int .i8 0),1,1):=bV
def abc:(prog.info? 272).map (λi=>(i.zero,i.size,i.bytes))=ah (ah (aj ai 0 0),1,24):=bV
def YV:(prog.info? 306).map (λi=>(i.zero,i.size,i.bytes))=ah (ah (.agg #[iz 0,ak ai]),2,16):=bV
def QF:(prog.info? 4).map (λi=>(i.zero,i.size,i.bytes))=ah (ah (.bool aL),1,1):=bV
theorem zK(w:ay)(n:Nat)(l:n<=1048577):(aV 185 (iz n) (iz n)).run prog w=.ok (aj (ah (az w.heap.size 0)) n n) (bC w (aq (aN n (.int .i8 0)).toArray 184)):=by let⟨k,d,e,f,h⟩:=eB QC;have c:=oo (P:=prog) w 185 184 k _ underlying185 d e .i64 .i64 (n:Int) (n:Int) bO (kh _) cG bO;rw[f] at c;simp only[eS,iq] at c;rw[<-jE];exact c
theorem UJ(w:ay)(n:Nat)(l:n<=1048577):(aV 186 (iz n) (iz n)).run prog w=.ok (aj (ah (az w.heap.size 0)) n n) (bC w (aq (aN n (aj ai 0 0)).toArray 272)):=by let⟨k,d,e,f,h⟩:=eB abc;have c:=oo (P:=prog) w 186 272 k _ underlying186 d e .i64 .i64 (n:Int) (n:Int) bO (kh _) cG bO;rw[f] at c;simp only[eS,iq] at c;rw[<-jE];exact c
theorem Qh(w:ay)(n:Nat)(l:n<=1048577):(aV 187 (iz n) (iz n)).run prog w=.ok (aj (ah (az w.heap.size 0)) n n) (bC w (aq (aJ #[iz 0,ak ai] (n*2)) 306)):=by let⟨k,d,e,f,h⟩:=eB YV;have c:=oo (P:=prog) w 187 306 k _ underlying187 d e .i64 .i64 (n:Int) (n:Int) bO (kh _) cG bO;rw[f] at c;simp only[eS] at c;exact c
theorem zL(w:ay)(n:Nat)(l:n<=1048577):(aV 120 (iz n) (iz n)).run prog w=.ok (aj (ah (az w.heap.size 0)) n n) (bC w (aq (aN n (.bool aL)).toArray 4)):=by let⟨k,d,e,f,h⟩:=eB QF;have c:=oo (P:=prog) w 120 4 k _ underlying120 d e .i64 .i64 (n:Int) (n:Int) bO (kh _) cG bO;rw[f] at c;simp only[eS,iq] at c;rw[<-jE];exact c
def wL(n:Nat):Nat->Obj
 |3=>aq (aN (2*n+2) (.int .i8 0)).toArray 184
 |7=>aq (aN (2*n+2) (aj ai 0 0)).toArray 272
 |10=>aq (aJ #[ae af 0,ak ai] ((n+1)*2)) 306
 |21=>aq (aN (n+1) (.bool aL)).toArray 4
 |24=>aq (aN (n+1) (ae af 0)).toArray 3
 |_=>aq (aN (n+1) (.int .i8 0)).toArray 184
def YN(n:Nat):Nat->Nat
 |3=>2*n+2
 |7=>2*n+2
 |_=>n+1
def xv(n:Nat)(B:Nat->Nat)(L:List Nat)(i:Nat):aA:=if i∈L then aF else if i=12 then ak (ah ⟨B 12,0,ai⟩) else aj (ah ⟨B i,0,ai⟩) (YN n i) (YN n i)
def Dn(L:List Nat)(i:Nat):Prop:=(i∈[3,7,10,15,18,21,24]∧i∉L)∨((i=12∨i=100∨i=101∨i=102)∧12∉L)
def uI(n:Nat)(B:Nat->Nat):Nat->Obj
 |12=>aq #[aj (ah ⟨B 102,0,ai⟩) (n+1) (n+1),aj (ah ⟨B 100,0,ai⟩) (n+1) (n+1),aj (ah ⟨B 101,0,ai⟩) (n+1) (n+1),.int .u64 1024] 270
 |100=>aq ((aO (n+1)).map i32).toArray 237
 |101=>aq ((aO (n+1)).map i64).toArray 3
 |102=>aq (aN (n+1) (.int .u64 0)).toArray 268
 |i=>wL n i
structure NS(w W:ay)(n:Nat)(L:List Nat)(B:Nat->Nat):Prop where
 has:∀i,Dn L i->W.heap[B i]?=ah (uI n B i)∧w.heap.size<=B i
 inj:∀i j,Dn L i->Dn L j->B i=B j->i=j
 below:aC w.heap.size w W
theorem Em(n B)(c:i∈[3,7,10,15,18,21,24]):uI n B i=wL n i:=by simp at c;obtain rfl|rfl|rfl|rfl|rfl|rfl|rfl:=c<;>rfl
variable{B B':Nat->Nat}
theorem Md(n)(h:∀j,j=100∨j=101∨j=102->B' j=B j)(i):uI n B' i=uI n B i:=by simp_all[uI]
theorem NS.make(h:NS w W n L B)(v:L.Nodup)(x:i∈[3,7,10,15,18,21,24]):NS w (bC W (wL n i)) n (L.erase i) (λj=>if j=i then W.heap.size else B j):=by
 have m:i<100:=cG
 have d:i≠12:=cG
 have q:∀j,uI n (λj=>if j=i then(hz W) else B j) j=uI n B j:=λj=>Md n (λk u=>cC bO) j;have yO:∀j,Dn (L.erase i) j->j≠i->Dn L j:=λj c p=>by
  obtain⟨f,l⟩|⟨f,l⟩:=c
  .exact cB ⟨f,λo=>l ((qA v).2 ⟨p,o⟩)⟩
  exact cI ⟨f,λo=>l ((qA v).2 ⟨λe=>d e.symm,o⟩)⟩
 have lt:∀j,Dn L j->B j<hz W:=λj c=>(bY.1 (h.has j c).1).1;refine⟨λj c=>?_,λj k c u e=>?_,h.below.alloc h.below.size _⟩
 .rw[q];by_cases e:j=i
  .subst e;rw[cY rfl,Em n B x];exact⟨eW _ _,h.below.size⟩
  rw[cC e];have:=h.has j (yO j c e);grind[Below.heap_alloc]
 by_cases s:j=i
 .grind
 by_cases t:k=i
 .grind
 simp only[cC s,cC t] at e;exact h.inj j k (yO j c s) (yO k u t) e
theorem NS.order{v:ay}(h:NS w W n L B)(z:L.Nodup)(c:uZ W v n ob hb pb cb ((aO (n+1)).map i32) ((aO (n+1)).map i64)):
  NS w v n (L.erase 12) (λj=>if j=12 then ob else if j=100 then hb else if j=101 then pb else if j=102 then cb else B j):=by
 have yO:∀j,Dn (L.erase 12) j->j≠12->j≠100->j≠101->j≠102->j∈[3,7,10,15,18,21,24]∧Dn L j:=λj d u N O P=>by
  obtain⟨f,l⟩|⟨f,l⟩:=d
  .exact⟨f,cB ⟨f,λy=>l ((qA z).2 ⟨u,y⟩)⟩⟩
  omega
 have lt:∀j,Dn L j->B j<W.heap.size:=λj d=>(bY.1 (h.has j d).1).1;have hz:=h.below.size;let⟨Q,R,S,T,U,V⟩:=c.ne;let⟨Z,z2,z3,z4⟩:=c.new;refine⟨λj d=>?_,λj k d x e=>?_,?_⟩
 .by_cases o:j=12
  .subst o;exact⟨c.o,by grind⟩
  by_cases p:j=100
  .subst p;exact⟨c.h,by simp;omega⟩
  by_cases s:j=101
  .subst s;exact⟨c.p,by simp;omega⟩
  by_cases t:j=102
  .subst t;exact⟨c.c,by simp;omega⟩
  let⟨f,l⟩:=yO j d o p s t;have:=h.has j l;rw[Em n _ f] at this⊢;simp only[cC o,cC p,cC s,cC t];exact⟨(c.below.block _ (lt j l)).trans this.1,this.2⟩
 .have m:∀j,Dn (L.erase 12) j->(j=12∨j=100∨j=101∨j=102)∨(j∈[3,7,10,15,18,21,24]∧Dn L j∧j≠12∧j≠100∧j≠101∧j≠102∧B j<W.heap.size):=cG
  obtain q|⟨_,A,C,D,E,F,X⟩:=m j d<;>obtain r|⟨_,G,H,I,J,M,Y⟩:=m k x
  .grind
  .grind
  .grind
  simp only[cC H,cC I,cC J,cC M,cC C,cC D,cC E,cC F] at e;exact h.inj j k A G e
 exact h.below.trans ⟨c.below.os,c.below.tape,c.below.output,c.below.size,λk x=>c.below.block k bO⟩
def xq{P:Program}{c:Array Oper}{Q:Exit->Act->ay->Prop}{d:Region.Mode}{f:Nat}{ls ls':Array Bool}{a:Act}(h:ls=ls')(k:wpAny P d c Q f ls' a w):wpAny P d c Q f ls a w:=h▸k
def Xk(n:Nat)(v8 v12 v15 v17 v20 v23 v26 v29:aA):Act:={tmps:=#[ae af n,aF,ak ai,aF,aF,ae af n,ae af (2*(n:Int)),ae af (2*(n:Int)+2),v8,ae af n,ae af (2*(n:Int)),ae af (2*(n:Int)+2),v12,ae af n,ae af ((n:Int)+1),v15,ae af n,v17,ae af n,ae af ((n:Int)+1),v20,ae af n,ae af ((n:Int)+1),v23,ae af n,ae af ((n:Int)+1),v26,ae af n,ae af ((n:Int)+1),v29,aF,aF,aF,aF,aF,aF,aF,aF,aF,aF,aF,aF,aF,aF,aF,aF,aF,aF,aF,aF,aF,aF,aF,aF],defers:=[]}
theorem fC(l:L.Nodup)(d:j≠i)(f:B' j=B j):xv n B' (L.erase i) j=xv n B L j:=by
 have e:j∈L.erase i↔j∈L:=(qA l).trans ⟨λh=>h.2,λh=>⟨d,h⟩⟩;unfold xv;by_cases h:j∈L
 .rw[cY h,cY (e.2 h)]
 rw[cC h,cC λk=>h (e.1 k),f];by_cases c:j=12
 .rw[cY c,cY c,<-c,f]
 rw[cC c,cC c]
theorem rN(c:L.Nodup):xv n B' (L.erase i) i=if i=12 then ak (ah ⟨B' 12,0,ai⟩) else aj (ah ⟨B' i,0,ai⟩) (YN n i) (YN n i):=by grind[xv]
def NS.alloc(h:NS w W n L B)(O):NS w (bC W O) n L B:=
 ⟨λi c=>⟨(dB _ _ _ (bY.1 (h.has i c).1).1).trans (h.has i c).1,(h.has i c).2⟩,h.inj,h.below.alloc h.below.size _⟩
def vz(n:Nat)(B:Nat->Nat)(z:aA):Obj:=aq #[aj (ah ⟨B 3,0,ai⟩) (2*n+2) (2*n+2),aj (ah ⟨B 7,0,ai⟩) (2*n+2) (2*n+2),aj (ah ⟨B 10,0,ai⟩) (n+1) (n+1),aj ai 0 0,aj ai 0 0,ae af 0,ak (ah ⟨B 12,0,ai⟩),aj (ah ⟨B 15,0,ai⟩) (n+1) (n+1),aj (ah ⟨B 18,0,ai⟩) (n+1) (n+1),ae af 0,aj ai 0 0,z,.bool aL,ak ai,aj (ah ⟨B 21,0,ai⟩) (n+1) (n+1),aj ai 0 0,aj ai 0 0,aj (ah ⟨B 24,0,ai⟩) (n+1) (n+1),ae af 0] 191
theorem mf{cs:List aA}{c:aE}(h:W.heap[b]?=ah (.cells cs.toArray c))(i v):(aW W (az b i) v).heap[b]?=ah (aq (cs.set i v).toArray c):=by grind[aW]
def Cx:nW->Option Nat
 | .search=>ah 200| .jg=>ah 3| .wout=>ah 7| .src=>ah 10| .order=>ah 12| .heap=>ah 100| .nS=>ah 101| .uA=>ah 102| .yy=>ah 15| .Wu=>ah 18| .marks=>ah 21| .levels=>ah 24
 |_=>ai
variable{r:nW}
theorem Vo{c:nW}(h:Cx r=ah i)(d:Cx c=ah i):r=c:=by cases r<;>cases c<;>simp[Cx] at h d<;>first|rfl|omega
theorem xT(h:Cx r=ah i)(c:i≠200):Dn [] i:=by cases r<;>simp[Cx] at h<;>subst h<;>first|exact absurd rfl c|(unfold Dn;simp;done)
theorem aa2{C:ay}{q:Nat}{z:aA}(I:n<=2000)(f:NS w C n [] B)(x:C.heap[q]?=ah (vz n B z))(y:w.heap.size<=q)(o:∀i,Dn [] i->B i≠q)(D:∀k,k≠B 15->k≠B 18->W.heap[k]?=C.heap[k]?)(t:W.heap[B 15]?=ah (aq (aN (n+1) (aS .i8 (-1))).toArray 184))(u:W.heap[B 18]?=ah (aq (aN (n+1) (aS .i8 (-1))).toArray 184)):
  ∃A:Ad,A.fY .search=ah q∧Mem W A (Sv.new n)∧∀k,A.gE k->w.heap.size<=k:=by
 have dn:∀i,i=3∨i=7∨i=10∨i=15∨i=18∨i=21∨i=24∨i=12∨i=100∨i=101∨i=102->Dn [] i:=λi m=>by unfold Dn;simp;omega
 have d:∀i,Dn [] i->i≠15->i≠18->W.heap[B i]?=ah (uI n B i):=λi m G H=>
  (D _ (λe=>G (f.inj i 15 m (dn 15 bQ) e)) λe=>H (f.inj i 18 m (dn 18 bQ) e)).trans (f.has i m).1
 have hs:W.heap[q]?=ah (vz n B z):=(D q (λe=>o 15 (dn 15 bQ) e.symm) λe=>o 18 (dn 18 bQ) e.symm).trans x;refine⟨{fY:=λr=>(Cx r).map λi=>if i=200 then q else B i,sp:=λ_=>[],src:=(aJ #[iz 0,ak ai] ((n+1)*2)).toList,pl:=(aO (n+1)).map i64,room:=z,VR:=pz 0},rfl,?_,?_⟩
 .refine⟨λr J b E F=>?_,λr b hb=>?_,λr s=>?_,λc=>?_,λc=>?_,λl _=>xM n l,λ_=>rfl,λ_=>rfl,λr _=>⟨0,by simp⟩,λr s=>?_,by simp,by simp[Sv.new],by simp[Sv.new],?_,by simp[Sv.new],I,⟨_,rfl⟩⟩
  .obtain⟨i,m,rfl⟩:=Dm.1 E;let⟨j,v,e⟩:=Dm.1 F;have:i=j:=by
    by_cases h:i=200
    .by_cases p:j=200
     .rw[h,p]
     simp only[cY h,cC p] at e;exact absurd e (o j (xT v p))
    by_cases p:j=200
    .simp only[cC h,cY p] at e;exact absurd e.symm (o i (xT m h))
    simp only[cC h,cC p] at e;exact f.inj i j (xT m h) (xT v p) e.symm
   subst this;exact Vo m v
  .cases r<;>simp[Cx] at hb<;>subst hb
   .rw[hs];simp[vz,eA,ql,Ad.jM,Ad.ptr,Cx,Sv.new,Bm]
   .rw[d 3 (dn 3 bQ) bO bO];simp[uI,wL,eA,Sv.new,Bm]
   .rw[d 7 (dn 7 bQ) bO bO];simp only[uI,wL,eA,Sv.new,Bm];congr 3;apply iv;intro j;rw[jH];simp only[rD]
    split<;>rfl
   .rw[d 10 (dn 10 bQ) bO bO];simp[uI,wL,eA,Bm]
   .rw[d 12 (dn 12 bQ) bO bO];simp[uI,eA,Ad.jM,Cx,Sv.new,Bm]
   .rw[d 100 (dn 100 bQ) bO bO];simp[uI,eA,Sv.new,Bm]
   .rw[d 101 (dn 101 bQ) bO bO];simp[uI,eA,Bm]
   .rw[d 102 (dn 102 bQ) bO bO];simp[uI,eA,Sv.new,Bm]
   .rw[t];simp[eA,Sv.new,Bm]
   .rw[u];simp[eA,Sv.new,Bm]
   .rw[d 21 (dn 21 bQ) bO bO];simp[uI,wL,eA,Sv.new,Bm]
   grind[uI,wL,eA,Sv.new,Bm]
  .cases r<;>first|exact⟨_,rfl⟩|(cases s;done)
  .simp[Cx,Sv.new]
  .simp[Cx,Sv.new]
  .cases r<;>first|(cases s;done)|skip
   .simp[kg,Sv.new,aY]
   .simp[kg,Sv.new,aY]
   simp[kg,xM,aY]
  simp[Sv.new,aJ]
 rintro k ⟨r,s⟩;obtain⟨i,m,rfl⟩:=Dm.1 s;by_cases h:i=200
 .rw[cY h];exact y
 rw[cC h];exact(f.has i (xT m h)).2
theorem FW(w:ay)(n:Nat)(hn:n<=2000):
  aB prog 83 #[iz n] w λe w'=>∃o A,e=aw (pz o)∧A.fY .search=ah o∧Mem w' A (Sv.new n)∧(∀k,A.gE k->w.heap.size<=k)∧aC w.heap.size w w':=by
 have C:IntKind.i64.wrap ((n:Int)+1)=(n:Int)+1:=aew
 have N:IntKind.i64.wrap (2*(n:Int))=2*(n:Int):=aew
 have O:IntKind.i64.wrap (2*(n:Int)+2)=2*(n:Int)+2:=aew
 have c1:((n+1:Nat):Int)=(n:Int)+1:=bQ
 have c2:((2*n+2:Nat):Int)=2*(n:Int)+2:=bQ
 have m1:∀W:ay,_:=λW=>by have q:=zK W (2*n+2) bO;rw[c2] at q;exact q
 have m2:∀W:ay,_:=λW=>by have q:=UJ W (2*n+2) bO;rw[c2] at q;exact q
 have m3:∀W:ay,_:=λW=>by have q:=Qh W (n+1) bO;rw[c1] at q;exact q
 have m4:∀W:ay,_:=λW=>by have q:=zK W (n+1) bO;rw[c1] at q;exact q
 have m5:∀W:ay,_:=λW=>by have q:=zL W (n+1) bO;rw[c1] at q;exact q
 have m6:∀W:ay,_:=λW=>by have q:=Cm W (n+1) bO;rw[c1] at q;exact q
 clear c1 c2;go_enter func83,ntmps83
 go_wp2
 go_cut[3] from 5 to 31 λv3 wx=>∃(B:Nat->Nat)(o:Nat)(z:aA),v3=pz o∧NS w wx n [] B∧wx.heap[o]?=ah (vz n B z)∧w.heap.size<=o∧∀i,Dn [] i->B i≠o
 case first=>
  refine wp_region_noPanic ?_;refine wp_region_any bV ?_;refine Hz 0 ?_;refine Hz 1 ?_;refine Hz 2 ?_;refine Hz 4 ?_;refine Hz 5 ?_;refine Hz 6 ?_;refine Hz 8 ?_;refine Hz 9 ?_;refine Hz 11 ?_;refine Hz 13 ?_;refine Hz 14 ?_;refine Hz 16 ?_;refine Hz 17 ?_;refine Hz 19 ?_;refine Hz 20 ?_;refine Hz 22 ?_;refine Hz 23 ?_;refine xq (ls':=tP #[aK,aK,aK,aL,aK,aK,aK,aL,aK,aK,aL,aK,aL,aK,aK,aL,aK,aK,aL,aK,aK,aL,aK,aK,aL,aL,aL,aL] [3,7,10,12,15,18,21,24] [3,7,10,12,15,18,21,24]) bV ?_;refine Bb (todo:=[3,7,10,12,15,18,21,24]) (fuel:=3) bS bV (J:=λL a W=>∃B,a=Xk n (xv n B L 3) (xv n B L 7) (xv n B L 10) (xv n B L 12) (xv n B L 15) (xv n B L 18) (xv n B L 21) (xv n B L 24)∧NS w W n L B) ?_ ?_ 8 [3,7,10,12,15,18,21,24] _ _ rfl (List.Sublist.refl _) ?_
  .intro L a W hL hJ i t;obtain⟨B,rfl,d⟩:=hJ;have c:L.Nodup:=(by decide:([3,7,10,12,15,18,21,24]:List Nat).Nodup).sublist hL;have ht:=hL.subset t;clear t hL;simp only[fA,lH,GY] at ht;obtain rfl|rfl|rfl|rfl|rfl|rfl|rfl|rfl:=ht
   .refine pR rfl λK m=>?_;unfold Xk;try simp only[cD,cw,ct]
    go_simp;refine m _ _ ⟨λj=>if j=3 then W.heap.size else B j,?_,(by have:=d.make c (i:=3) bQ;grind[wL])⟩;rw[rN (B':=λj=>if j=3 then W.heap.size else B j) (i:=3) c,fC (B:=B) (B':=λj=>if j=3 then W.heap.size else B j) (i:=3) (j:=7) c bS bQ,fC (B:=B) (B':=λj=>if j=3 then W.heap.size else B j) (i:=3) (j:=10) c bS bQ,fC (B:=B) (B':=λj=>if j=3 then W.heap.size else B j) (i:=3) (j:=12) c bS bQ,fC (B:=B) (B':=λj=>if j=3 then W.heap.size else B j) (i:=3) (j:=15) c bS bQ,fC (B:=B) (B':=λj=>if j=3 then W.heap.size else B j) (i:=3) (j:=18) c bS bQ,fC (B:=B) (B':=λj=>if j=3 then W.heap.size else B j) (i:=3) (j:=21) c bS bQ,fC (B:=B) (B':=λj=>if j=3 then W.heap.size else B j) (i:=3) (j:=24) c bS bQ];rfl
   .refine pR rfl λK m=>?_;unfold Xk;try simp only[cD,cw,ct]
    go_simp;refine m _ _ ⟨λj=>if j=7 then W.heap.size else B j,?_,(by have:=d.make c (i:=7) bQ;grind[wL])⟩;rw[fC (B:=B) (B':=λj=>if j=7 then W.heap.size else B j) (i:=7) (j:=3) c bS bQ,rN (B':=λj=>if j=7 then W.heap.size else B j) (i:=7) c,fC (B:=B) (B':=λj=>if j=7 then W.heap.size else B j) (i:=7) (j:=10) c bS bQ,fC (B:=B) (B':=λj=>if j=7 then W.heap.size else B j) (i:=7) (j:=12) c bS bQ,fC (B:=B) (B':=λj=>if j=7 then W.heap.size else B j) (i:=7) (j:=15) c bS bQ,fC (B:=B) (B':=λj=>if j=7 then W.heap.size else B j) (i:=7) (j:=18) c bS bQ,fC (B:=B) (B':=λj=>if j=7 then W.heap.size else B j) (i:=7) (j:=21) c bS bQ,fC (B:=B) (B':=λj=>if j=7 then W.heap.size else B j) (i:=7) (j:=24) c bS bQ];rfl
   .refine pR rfl λK m=>?_;unfold Xk;try simp only[cD,cw,ct]
    go_simp;refine m _ _ ⟨λj=>if j=10 then W.heap.size else B j,?_,(by have:=d.make c (i:=10) bQ;grind[wL])⟩;rw[fC (B:=B) (B':=λj=>if j=10 then W.heap.size else B j) (i:=10) (j:=3) c bS bQ,fC (B:=B) (B':=λj=>if j=10 then W.heap.size else B j) (i:=10) (j:=7) c bS bQ,rN (B':=λj=>if j=10 then W.heap.size else B j) (i:=10) c,fC (B:=B) (B':=λj=>if j=10 then W.heap.size else B j) (i:=10) (j:=12) c bS bQ,fC (B:=B) (B':=λj=>if j=10 then W.heap.size else B j) (i:=10) (j:=15) c bS bQ,fC (B:=B) (B':=λj=>if j=10 then W.heap.size else B j) (i:=10) (j:=18) c bS bQ,fC (B:=B) (B':=λj=>if j=10 then W.heap.size else B j) (i:=10) (j:=21) c bS bQ,fC (B:=B) (B':=λj=>if j=10 then W.heap.size else B j) (i:=10) (j:=24) c bS bQ];rfl
   .refine pR rfl λK m=>?_;unfold Xk;try simp only[cD,cw,ct]
    go_simp
    go_at_call 123
    refine(I6 W n hn).mono ?_;rintro e w5 ⟨ob,hb,pb,cb,rfl,hO⟩;refine m _ _ ⟨λj=>if j=12 then ob else if j=100 then hb else if j=101 then pb else if j=102 then cb else B j,?_,d.order c hO⟩;rw[fC (B:=B) (B':=λj=>if j=12 then ob else if j=100 then hb else if j=101 then pb else if j=102 then cb else B j) (i:=12) (j:=3) c bS bQ,fC (B:=B) (B':=λj=>if j=12 then ob else if j=100 then hb else if j=101 then pb else if j=102 then cb else B j) (i:=12) (j:=7) c bS bQ,fC (B:=B) (B':=λj=>if j=12 then ob else if j=100 then hb else if j=101 then pb else if j=102 then cb else B j) (i:=12) (j:=10) c bS bQ,rN (B':=λj=>if j=12 then ob else if j=100 then hb else if j=101 then pb else if j=102 then cb else B j) (i:=12) c,fC (B:=B) (B':=λj=>if j=12 then ob else if j=100 then hb else if j=101 then pb else if j=102 then cb else B j) (i:=12) (j:=15) c bS bQ,fC (B:=B) (B':=λj=>if j=12 then ob else if j=100 then hb else if j=101 then pb else if j=102 then cb else B j) (i:=12) (j:=18) c bS bQ,fC (B:=B) (B':=λj=>if j=12 then ob else if j=100 then hb else if j=101 then pb else if j=102 then cb else B j) (i:=12) (j:=21) c bS bQ,fC (B:=B) (B':=λj=>if j=12 then ob else if j=100 then hb else if j=101 then pb else if j=102 then cb else B j) (i:=12) (j:=24) c bS bQ];rfl
   .refine pR rfl λK m=>?_;unfold Xk;try simp only[cD,cw,ct]
    go_simp;refine m _ _ ⟨λj=>if j=15 then W.heap.size else B j,?_,(by have:=d.make c (i:=15) bQ;grind[wL])⟩;rw[fC (B:=B) (B':=λj=>if j=15 then W.heap.size else B j) (i:=15) (j:=3) c bS bQ,fC (B:=B) (B':=λj=>if j=15 then W.heap.size else B j) (i:=15) (j:=7) c bS bQ,fC (B:=B) (B':=λj=>if j=15 then W.heap.size else B j) (i:=15) (j:=10) c bS bQ,fC (B:=B) (B':=λj=>if j=15 then W.heap.size else B j) (i:=15) (j:=12) c bS bQ,rN (B':=λj=>if j=15 then W.heap.size else B j) (i:=15) c,fC (B:=B) (B':=λj=>if j=15 then W.heap.size else B j) (i:=15) (j:=18) c bS bQ,fC (B:=B) (B':=λj=>if j=15 then W.heap.size else B j) (i:=15) (j:=21) c bS bQ,fC (B:=B) (B':=λj=>if j=15 then W.heap.size else B j) (i:=15) (j:=24) c bS bQ];rfl
   .refine pR rfl λK m=>?_;unfold Xk;try simp only[cD,cw,ct]
    go_simp;refine m _ _ ⟨λj=>if j=18 then W.heap.size else B j,?_,(by have:=d.make c (i:=18) bQ;grind[wL])⟩;rw[fC (B:=B) (B':=λj=>if j=18 then W.heap.size else B j) (i:=18) (j:=3) c bS bQ,fC (B:=B) (B':=λj=>if j=18 then W.heap.size else B j) (i:=18) (j:=7) c bS bQ,fC (B:=B) (B':=λj=>if j=18 then W.heap.size else B j) (i:=18) (j:=10) c bS bQ,fC (B:=B) (B':=λj=>if j=18 then W.heap.size else B j) (i:=18) (j:=12) c bS bQ,fC (B:=B) (B':=λj=>if j=18 then W.heap.size else B j) (i:=18) (j:=15) c bS bQ,rN (B':=λj=>if j=18 then W.heap.size else B j) (i:=18) c,fC (B:=B) (B':=λj=>if j=18 then W.heap.size else B j) (i:=18) (j:=21) c bS bQ,fC (B:=B) (B':=λj=>if j=18 then W.heap.size else B j) (i:=18) (j:=24) c bS bQ];rfl
   .refine pR rfl λK m=>?_;unfold Xk;try simp only[cD,cw,ct]
    go_simp;refine m _ _ ⟨λj=>if j=21 then W.heap.size else B j,?_,(by have:=d.make c (i:=21) bQ;grind[wL])⟩;rw[fC (B:=B) (B':=λj=>if j=21 then W.heap.size else B j) (i:=21) (j:=3) c bS bQ,fC (B:=B) (B':=λj=>if j=21 then W.heap.size else B j) (i:=21) (j:=7) c bS bQ,fC (B:=B) (B':=λj=>if j=21 then W.heap.size else B j) (i:=21) (j:=10) c bS bQ,fC (B:=B) (B':=λj=>if j=21 then W.heap.size else B j) (i:=21) (j:=12) c bS bQ,fC (B:=B) (B':=λj=>if j=21 then W.heap.size else B j) (i:=21) (j:=15) c bS bQ,fC (B:=B) (B':=λj=>if j=21 then W.heap.size else B j) (i:=21) (j:=18) c bS bQ,rN (B':=λj=>if j=21 then W.heap.size else B j) (i:=21) c,fC (B:=B) (B':=λj=>if j=21 then W.heap.size else B j) (i:=21) (j:=24) c bS bQ];rfl
   refine pR rfl λK m=>?_;unfold Xk;try simp only[cD,cw,ct]
   go_simp;refine m _ _ ⟨λj=>if j=24 then W.heap.size else B j,?_,(by have:=d.make c (i:=24) bQ;grind[wL])⟩;rw[fC (B:=B) (B':=λj=>if j=24 then W.heap.size else B j) (i:=24) (j:=3) c bS bQ,fC (B:=B) (B':=λj=>if j=24 then W.heap.size else B j) (i:=24) (j:=7) c bS bQ,fC (B:=B) (B':=λj=>if j=24 then W.heap.size else B j) (i:=24) (j:=10) c bS bQ,fC (B:=B) (B':=λj=>if j=24 then W.heap.size else B j) (i:=24) (j:=12) c bS bQ,fC (B:=B) (B':=λj=>if j=24 then W.heap.size else B j) (i:=24) (j:=15) c bS bQ,fC (B:=B) (B':=λj=>if j=24 then W.heap.size else B j) (i:=24) (j:=18) c bS bQ,fC (B:=B) (B':=λj=>if j=24 then W.heap.size else B j) (i:=24) (j:=21) c bS bQ,rN (B':=λj=>if j=24 then W.heap.size else B j) (i:=24) c];rfl
  .rintro a W ⟨B,rfl,d⟩;have al:=bL d;clear d;unfold Xk;refine xq (ls':=#[aK,aK,aK,aK,aK,aK,aK,aK,aK,aK,aK,aK,aK,aK,aK,aK,aK,aK,aK,aK,aK,aK,aK,aK,aK,aL,aL,aL]) bV ?_;simp only[xv,lH,jF];refine wpAny_all (rs:=[25]) bV bQ λi t=>?_;simp only[dL] at t;subst t;refine pR rfl λK m=>?_;go_simp;refine m _ _ ?_;clear m K;refine wpAny_all (rs:=[26]) bV bQ λi t=>?_;simp only[dL] at t;subst t;refine pR rfl λK m=>?_;go_simp;refine m _ _ ?_;clear m K;refine wpAny_all (rs:=[27]) bV bQ λi t=>?_;simp only[dL] at t;subst t;refine pR rfl λK m=>?_;go_simp;refine m _ _ ?_;clear m K;refine wpAny_done bV (NoPanic.normal ?_) _
   go_wp2;go_meet
   case rel=>have h0:=al.out;exact⟨B,W.heap.size,iz 2000,rfl,h0.alloc _,eW _ _,h0.below.size,λi t e=>by have:=(bY.1 (h0.has i t).1).1;omega⟩
  refine⟨λ_=>0,rfl,⟨λi t=>?_,λi j t=>?_,(cW _ _).drew⟩⟩
  .exfalso;unfold Dn at t;simp at t;omega
  grind[Dn]
 case rest=>
  obtain⟨B,o,z,rfl,d,M,a1,I⟩:=hcut;clear m1 m2 m3 m4 m5 m6 C N O;have D:=(d.has 15 (cB ⟨by simp,by simp⟩)).1;have E:=(d.has 18 (cB ⟨by simp,by simp⟩)).1;have V:B 15≠B 18:=λe=>by have:=d.inj 15 18 (cB ⟨by simp,by simp⟩) (cB ⟨by simp,by simp⟩) e;omega
  have Q:B 15≠o:=I 15 (cB ⟨by simp,by simp⟩);have R:B 18≠o:=I 18 (cB ⟨by simp,by simp⟩);have y8:aU wc (az o 8)=ah (aj (ah ⟨B 18,0,ai⟩) (n+1) (n+1)):=by simp[aU,M,vz]
  have y7:aU wc (az o 7)=ah (aj (ah ⟨B 15,0,ai⟩) (n+1) (n+1)):=by simp[aU,M,vz]
  have T:=bL d;have ap:=bL M;have ao:=bL I;have ab:Hid (w.heap.size<=B 15):=(d.has 15 (cB ⟨by simp,by simp⟩)).2;have ac:Hid (w.heap.size<=B 18):=(d.has 18 (cB ⟨by simp,by simp⟩)).2;clear d M I;have D:wc.heap[B 15]?=ah (aq (aN (n+1) (.int .i8 0)).toArray 184):=D;have E:wc.heap[B 18]?=ah (aq (aN (n+1) (.int .i8 0)).toArray 184):=E;generalize ad:B 15=f at *;generalize ag:B 18=l at *;have Z:=bL ad;have aa:=bL ag;clear ad ag;have V0:Hid ((∀k,k≠f->k≠l->wc.heap[k]?=wc.heap[k]?)∧wc.heap[f]?=ah (aq (aN 0 (aS .i8 (-1))++aN (n+1-0) (aS .i8 0)).toArray 184)∧wc.heap[l]?=ah (aq (aN 0 (aS .i8 (-1))++aN (n+1-0) (aS .i8 0)).toArray 184)∧bI (λk=>k=f∨k=l) wc wc):=⟨λ_ _ _=>rfl,D,E,bW _ _⟩
  obtain⟨w0,a2⟩:=bK wc;subst a2;apply_assumption
  go_wp2
  go_loopw[37] (λX W=>∃i:Nat,i<=n+1∧X=iz i∧Hid ((∀k,k≠f->k≠l->W.heap[k]?=w0.heap[k]?)∧W.heap[f]?=ah (aq (aN i (aS .i8 (-1))++aN (n+1-i) (aS .i8 0)).toArray 184)∧W.heap[l]?=ah (aq (aN i (aS .i8 (-1))++aN (n+1-i) (aS .i8 0)).toArray 184)∧bI (λk=>k=f∨k=l) w0 W)) λX _=>n+1-(aG X).toNat
  case atStart=>grind
  case round=>
   obtain⟨i,t,rfl,HV⟩:=hrel;by_cases an:i<n+1
   .let⟨Y,F,G,H⟩:=HV.out;have y:bB (aN i (aS .i8 (-1))++aN (n+1-i) (aS .i8 0))=n+1:=bX
    obtain⟨v1,q1⟩:∃v,aU wr (az f i)=ah v:=⟨_,by simp only[aU,F];rw[kF,bP (by rw[y];exact an)];rfl⟩
    have f1:bG wr (az f i)=aL:=by simp only[bG,F];simp
    have U:(aW wr (az f i) (.int .i8 (-1))).heap[l]?=wr.heap[l]?:=cO _ _ _ _ V.symm;obtain⟨v2,q2⟩:∃v,aU (aW wr (az f i) (.int .i8 (-1))) (az l i)=ah v:=⟨_,by simp only[aU,U,G];rw[kF,bP (by rw[y];exact an)];rfl⟩
    have f2:bG (aW wr (az f i) (.int .i8 (-1))) (az l i)=aL:=by simp only[bG,U,G];simp
    have s:Hid (∀W:ay,(∀k,k≠f->k≠l->W.heap[k]?=wr.heap[k]?)->aU W (az o 7)=ah (aj (ah (az f 0)) (n+1) (n+1))∧aU W (az o 8)=ah (aj (ah (az l 0)) (n+1) (n+1))):=λW hW=>by have:=(hW o Q.symm R.symm).trans (Y o Q.symm R.symm);exact⟨(cL (a:=az o 7) this).trans y7,(cL (a:=az o 8) this).trans y8⟩
    have C:IntKind.i64.wrap ((i:Int)+1)=(i:Int)+1:=aew
    have dn:(i:Int)<n+1:=bO
    have P:Hid ((aN i (aS .i8 (-1))++aN (n+1-i) (aS .i8 0)).set i (aS .i8 (-1))=aN (i+1) (aS .i8 (-1))++aN (n+1-(i+1)) (aS .i8 0)):=by
     show _=_;have e:n+1-i=(n+1-(i+1))+1:=bO
     rw[gJ _ _ bQ,e,lg,List.replicate_succ'];simp
    clear Y F G H U V0 D E y7 y8 y
    go_wp2;refine wp_region_noPanic ?_;refine wp_region_held_drew (S:=λW=>aU W (az o 7)=ah (aj (ah (az f 0)) (n+1) (n+1))∧aU W (az o 8)=ah (aj (ah (az l 0)) (n+1) (n+1))) bV ?_ λhHeld=>?_
    ·(first|exact s.out _ (λk u x=>rfl)|exact s.out _ (λk u x=>cO _ _ _ _ u)|exact s.out _ λk u x=>(cO _ _ _ _ x).trans (cO _ _ _ _ u))
    refine tk 0 ?_;refine tk 1 ?_;refine tk 2 ?_;refine tk 3 ?_;refine tk 4 ?_;refine tk 5 ?_;refine tk 6 ?_;refine tk 7 ?_;refine tk 8 ?_;refine tk 9 ?_;refine tk 10 ?_;refine rd 11 ?_ λhHeld=>?_
    ·(first|exact s.out _ (λk u x=>rfl)|exact s.out _ (λk u x=>cO _ _ _ _ u)|exact s.out _ λk u x=>(cO _ _ _ _ x).trans (cO _ _ _ _ u))
    refine tk 12 ?_;refine rd 13 ?_ λhHeld=>?_
    ·(first|exact s.out _ (λk u x=>rfl)|exact s.out _ (λk u x=>cO _ _ _ _ u)|exact s.out _ λk u x=>(cO _ _ _ _ x).trans (cO _ _ _ _ u))
    all_goals refine wpAnyH_done bV (NoPanic.normal ?_) _
    try simp only[aQ,cD,cw,ct,cf,cN,cK]
    go_wp2;refine⟨⟨i+1,by omega,by simp,?_⟩,by simp[aG];omega⟩;let⟨Y,F,G,H⟩:=HV.out;refine⟨λk u x=>?_,?_,?_,?_⟩
    .exact((cO _ _ _ _ x).trans (cO _ _ _ _ u)).trans (Y k u x)
    .rw[<-P.out];exact(cO _ _ _ _ V).trans (mf F i _)
    .rw[<-P.out];exact mf ((cO _ _ _ _ V.symm).trans G) i _
    exact((H.setCell (p:=az f i) (cB rfl) _).setCell (p:=az l i) (cI rfl) _).drew
   have a0:i=n+1:=bO
   clear V0 D E y7 y8
   go_wp2;go_ret;let⟨Y,F,G,H⟩:=HV.out;rw[a0] at F G;simp only[iN,KJ,gC] at F G;let⟨A,g1,g2,g3⟩:=aa2 hn T.out ap.out a1 ao.out (W:=wr) (by rw[Z.out,aa.out];exact Y) (by rw[Z.out];exact F) (by rw[aa.out];exact G);refine⟨o,A,rfl,g1,g2,g3,T.out.below.trans ⟨H.os,H.tape,H.output,H.size,λk hk=>H.block k (cQ hk T.out.below.size) λh=>?_⟩⟩;have q1:=ab.out;have q2:=ac.out;omega
theorem Nz(w x):aB prog 240 #[.int .i32 x] w λe c=>e=aw (.bool aL)∧w=c:=by
 go_enter func240,ntmps240
 go_wp2;go_ret;exact⟨by simp,rfl⟩
theorem lX(w x y):aB prog 207 #[.int .i32 x,.int .i32 y] w λe c=>e=aw (.bool (aM (x<y)))∧w=c:=by
 go_enter func207,ntmps207
 go_wp2_with(first|(go_at_call 240;refine(Nz w x).mono ?_;rintro e d ⟨rfl,rfl⟩)|(go_at_call 240;refine(Nz w y).mono ?_;rintro e d ⟨rfl,rfl⟩));go_ret;exact⟨rfl,rfl⟩
def ky(W:ay)(g:Nat)(xs:List Nat):Prop:=W.heap[g]?=ah (aq (xs.map i32).toArray 192)
theorem ky.cell(h:ky W g xs){x:Nat}(c:xs[i]?=ah x):aU W (az g i)=ah (.int .i32 x):=by unfold ky at h;simp[aU,h,c,i32]
theorem ky.frozen(h:ky W g xs)(i):bG W (az g i)=aL:=by unfold ky at h;simp[bG,h]
theorem ky.set(h:ky W g xs)(i x:Nat):ky (aW W (az g i) (.int .i32 x)) g (xs.set i x):=by unfold ky at h⊢;rw[pW];exact mf h i (i32 x)
def EX(W:ay)(g n i j:Nat)(xs0:List Nat):Prop:=
 ∃(P S R:List Nat)(x:Nat),ky W g (P++x::S++R)∧bB P=j∧bB P+bB S=i∧bB (P++x::S++R)=n∧(P++S).Pairwise (·<=·)∧(∀y∈S,x<y)∧(P++x::S++R).Perm xs0
def qo(h:a<b):(a:Int)<b:=bO
def Dc(h:a+1<b):(a:Int)+1<(b:Int):=bO
def cast_pos(a:Nat):(0:Int)<(a:Int)+1:=bO
theorem A8(h:a<=1048576):aX (a:Int)=a:=by unfold aX;omega
def sD(h:a<=1048576):IntKind.i64.wrap (a:Int)=a:=aew
def fq(h:a<=1048576):IntKind.i64.wrap ((a:Int)+1)=(a:Int)+1:=aew
theorem EX.two(h:EX W g n i (j+1) xs):∃p x:Nat,j+1<n∧cz W g j (.int .i32 p)∧cz W g (j+1) (.int .i32 x)∧
  bG W (az g j)=aL∧bG W (az g (j+1))=aL∧
  (x<p->∀m,EX (aW (aW (bF W m) (az g (j+1)) (.int .i32 p)) (az g j) (.int .i32 x)) g n i j xs)∧
  (¬x<p->∃Q R,ky W g (Q++R)∧bB Q=i+1∧Q.Pairwise (·<=·)∧(Q++R).Perm xs):=by
 obtain⟨t,S,R,x,f,u,G,A,D,H,I⟩:=h;obtain⟨P,p,rfl⟩:∃P p,t=P++[p]:=by
  have l:t≠[]:=λe=>by rw[e] at u;simp at u
  exact⟨t.dropLast,t.getLast l,(List.dropLast_concat_getLast l).symm⟩
 have k:bB P=j:=by simp at u;exact u
 have v:P++[p]++x::S++R=P++p::x::(S++R):=bQ
 have C:=A;have z:=f;rw[v] at f A;have gp:(P++p::x::(S++R))[j]?=ah p:=by rw[dr bO];simp[k]
 have N:(P++p::x::(S++R))[j+1]?=ah x:=by rw[dr bO];simp[k]
 refine⟨p,x,by simp at A;omega,f.cell gp,f.cell N,f.frozen _,f.frozen _,λq m=>?_,λq=>?_⟩
 .have O:ky (bF W m) g (P++p::x::(S++R)):=f;have o:=(O.set (j+1) p).set j x;have e:((P++p::x::(S++R)).set (j+1) p).set j x=P++x::(p::S)++R:=by
   rw[gJ _ _ bO,gJ _ _ bO];have J:j+1-bB P=1:=bO
   have M:j-bB P=0:=bO
   rw[J,M];simp
  rw[e] at o;have c:(P++x::(p::S)++R).Perm (P++[p]++x::S++R):=by simp only[fW,eU,ff];exact List.Perm.append_left P (List.Perm.swap p x (S++R))
  refine⟨P,p::S,R,x,o,k,by simp at G⊢;omega,?_,by simpa using D,λy s=>?_,c.trans I⟩
  .rw[c.length_eq];exact C
  obtain rfl|s:=fA.1 s
  .exact q
  exact H y s
 refine⟨P++[p]++x::S,R,z,by simp at G⊢;omega,?_,I⟩;rw[kQ] at D⊢;obtain⟨F,T,U⟩:=D;have E:∀a∈P++[p],a<=x:=λa d=>by
  obtain d|d:=cU.1 d
  .rw[kQ] at F;have:=F.2.2 a d p bQ;omega
  simp at d;omega
 refine⟨F,lR.2 ⟨λy s=>ir (H y s),T⟩,λa d b hb=>?_⟩;obtain rfl|hb:=fA.1 hb
 .exact E a d
 exact U a d b hb
theorem Ty{w}{g}{xs}(c)(h:ky w g xs)(V:bB xs<=1048576)(hc:bB xs<=c):
  aB prog 201 #[aj (ah (az g 0)) (bB xs) c,iz 0,iz (bB xs)] w λe Y=>e=aw (.tuple #[])∧∃M,ky Y g M∧M.Perm xs∧M.Pairwise (·<=·)∧bI (λk=>k=g) w Y:=by
 have U:Hid (∃Q R,ky w g (Q++R)∧bB Q=min 1 (bB xs)∧Q.Pairwise (·<=·)∧(Q++R).Perm xs∧bI (λk=>k=g) w w):=by
  cases xs with
  |nil=>exact⟨[],[],h,rfl,yv,List.Perm.refl _,bW _ _⟩
  |cons x r=>exact⟨[x],r,h,by simp,by simp,List.Perm.refl _,bW _ _⟩
 generalize q:bB xs=n at *;go_enter func201,ntmps201
 go_wp2
 go_loopw[6] (λI W=>∃i:Nat,1<=i∧I=iz i∧Hid (∃Q R,ky W g (Q++R)∧bB Q=min i n∧Q.Pairwise (·<=·)∧(Q++R).Perm xs∧bI (λk=>k=g) w W)) λI _=>n-(aG I).toNat
 case atStart=>exact⟨1,by omega,rfl,U⟩
 case round=>
  obtain⟨i,aa,rfl,O⟩:=hrel;by_cases ab:i<n
  .have D:IntKind.i64.wrap ((i:Int)+1)=(i:Int)+1:=by rw[cX];omega
   have V1:Hid (EX wr g n i i xs∧bI (λk=>k=g) w wr):=by
    let⟨Q,R,l,v,m,f,o⟩:=O.out;have hl:=f.length_eq;rw[cR,q] at hl;cases R with
    |nil=>simp at hl;omega
    |cons x R=>exact⟨⟨Q,[],R,x,by simpa using l,by omega,by simp;omega,by simp at hl⊢;omega,by simpa using m,by simp,by simpa using f⟩,o⟩
   go_wp2
   go_loopw[7] (λJ W=>∃j:Nat,j<=i∧J=iz j∧Hid (EX W g n i j xs∧bI (λk=>k=g) w W)) λJ _=>(aG J).toNat
   case atStart=>exact⟨i,bT _,rfl,V1⟩
   case round=>
    obtain⟨j,ac,rfl,u⟩:=hrel;cases j with
    |zero=>
     have HO:Hid (∃Q R,ky wr g (Q++R)∧bB Q=min (i+1) n∧Q.Pairwise (·<=·)∧(Q++R).Perm xs∧bI (λk=>k=g) w wr):=by let⟨⟨P,S,R,x,l,v,m,f,o,h6,h7⟩,h8⟩:=u.out;have:P=[]:=eE v;subst this;exact⟨x::S,R,l,by simp at m⊢;omega,lR.2 ⟨λy hy=>ir (h6 y hy),by simpa using o⟩,h7,h8⟩
     go_wp2;go_quiet(fail)
     go_wp2;let⟨Q,R,E,F,G,H,q5⟩:=HO.out;exact⟨⟨i+1,by omega,by simp,Q,R,E,F,G,H,q5.drewN _⟩,by simp[aG];omega⟩
    |succ j=>
     let⟨p,x,d,cp,cx,fp,fx,t,A⟩:=EX.two u.out.1;have N:=bL u.out.2;have HY:=bL t;have Z:=bL A;have T:=λW:ay=>lX W (x:Int) (p:Int);have X:=A8 (a:=j) (bZ (ir (yt d)) V);have C:=sD (a:=j) (bZ (ir (yt d)) V);have d1:=qo (yt d);have d2:=Dc d;have d4:(0:Int)<=(j:Int)+1:=Int.le_of_lt (cast_pos j);by_cases s:x<p
     .go_wp2;go_quiet((go_at_call 207;exact eN ((T _).mono λ_ _ x=>⟨x.1,x.2.symm⟩)))
      go_wp2;refine wp_region_noPanic ?_;refine wp_region_held_drew (S:=λ_=>True) bV ?_ λhHeld=>?_
      .exact trivial
      refine tk 0 ?_;refine tk 1 ?_;refine tk 2 ?_;refine tk 3 ?_;refine tk 4 ?_;refine tk 5 ?_;refine tk 6 ?_;refine tk 7 ?_;refine tk 8 ?_;refine tk 10 ?_;refine tk 11 ?_;refine tk 12 ?_;refine wpAnyH_ready (rs:=[9,13]) bV bQ ?_;refine AllReadyH.cons rfl (λK z=>?_) (AllReadyH.cons rfl (λK z=>?_) AllReadyH.nil);try simp[cD,cw,ct]
      go_simp;refine z.out _ _ ?_ λhHeld=>?_
      .exact trivial
      try simp[aQ,cD,cw,ct,cf,cK,cN]
      refine rd 13 ?_ λhHeld=>?_
      .exact trivial
      refine tk 14 ?_;refine rd 15 ?_ λhHeld=>?_
      .exact trivial
      refine tk 16 ?_;refine rd 17 ?_ λhHeld=>?_
      .exact trivial
      rotate_left 1;try simp[cD,cw,ct]
      go_simp;refine z.out _ _ ?_ λhHeld=>?_
      .exact trivial
      try simp[aQ,cD,cw,ct,cf,cK,cN]
      refine rd 9 ?_ λhHeld=>?_
      .exact trivial
      refine tk 14 ?_;refine rd 15 ?_ λhHeld=>?_
      .exact trivial
      refine tk 16 ?_;refine rd 17 ?_ λhHeld=>?_
      .exact trivial
      rotate_left 1;all_goals refine wpAnyH_done bV (NoPanic.normal ?_) _
      all_goals
       try simp[aQ,cD,cw,ct,cf,cN,cK]
       go_wp2;refine⟨⟨j,by omega,by simp,HY.out s (nq+1),?_⟩,by simp[aG]⟩;exact((N.out.drewN (nq+1)).setCell (p:=(az g (j+1))) rfl _).setCell (p:=az g j) rfl _
     go_wp2;go_quiet((go_at_call 207;exact eN ((T _).mono λ_ _ x=>⟨x.1,x.2.symm⟩)))
     go_wp2;let⟨Q,R,E,F,G,H⟩:=Z.out s;exact⟨⟨i+1,by omega,by simp,Q,R,E,by rw[F];omega,G,H,N.out.drewN _⟩,by simp[aG];omega⟩
  clear U
  go_wp2;refine⟨rfl,.tuple #[],by simp[aI,results201],rfl,?_⟩;let⟨Q,R,l,v,m,f,o⟩:=O.out;have hl:=f.length_eq;rw[cR,q] at hl;have:R=[]:=eE bO;subst this;rw[gC] at l f;exact⟨Q,l,f,m,o⟩
end
theorem UW(w:ay)(x:Nat)(d:x<=12):aB prog 192 #[.int .u64 x] w λe c=>∃k:Int,e=aw (iz k)∧w=c:=by
 have h:x=0∨x=1∨x=2∨x=3∨x=4∨x=5∨x=6∨x=7∨x=8∨x=9∨x=10∨x=11∨x=12:=bO
 obtain rfl|rfl|rfl|rfl|rfl|rfl|rfl|rfl|rfl|rfl|rfl|rfl|rfl:=h;all_goals
  go_enter func192,ntmps192
  go_wp2;go_ret;exact⟨_,rfl,rfl⟩
theorem aa6(w:ay)(x:Nat)(c:x<=12):aB prog 145 #[.int .u64 x] w λe d=>∃k:Int,e=aw (iz k)∧w=d:=by
 have f:IntKind.u64.wrap (x:Int)=x:=aeD
 go_enter func145,ntmps145
 go_wp2_with(go_at_call 192;refine(UW w x c).mono ?_;rintro e h ⟨k,rfl,rfl⟩);go_ret;exact⟨_,rfl,rfl⟩
theorem XZ(w){g}{d}(c)(h:ky w g d)(u:bB d<=12)(o:bB d<=c)(f):
  aB prog 162 #[aj (ah (az g 0)) (bB d) c,iz 0,iz (bB d),iz f] w λe j=>e=aw (.tuple #[])∧∃i,ky j g i∧i.Perm d∧i.Pairwise (·<=·)∧bI (λk=>k=g) w j:=by
 have m:=Ty c h bO o;have s:aM ((bB d:Int)<=12)=aK:=cZ bO;have q:=sD (a:=bB d) bO;generalize bB d=n at *;go_enter func162,ntmps162
 go_wp2
 go_loopw[1,2,3,8,9] (λt1 r _ _ _ W=>t1=iz 0∧r=iz n∧W=w) λ_ _ _ _ _ _=>0
 case atStart=>exact⟨rfl,rfl,rfl⟩
 case round=>
  obtain⟨rfl,rfl,rfl⟩:=hrel
  go_wp2_with(go_at_call 201;refine m.mono ?_;rintro e v ⟨rfl,l⟩);exact⟨rfl,.tuple #[],by simp[aI,results162],rfl,l⟩
theorem Tx{w}{g}{d}(c)(h:ky w g d)(q:bB d<=12)(u:bB d<=c):
  aB prog 126 #[aj (ah (az g 0)) (bB d) c] w λe r=>e=aw (.tuple #[])∧∃l,ky r g l∧l.Perm d∧l.Pairwise (·<=·)∧bI (λk=>k=g) w r:=by
 have PD:=λ(m:Nat)(j:Int)=>XZ (bF w m) c h q u j;have o:=λ(m:Nat)=>aa6 (bF w m) (bB d) q;have x:IntKind.u64.wrap (bB d:Int)=bB d:=aeD
 have i:=bL PD;have f:=bL o;clear h PD o;generalize bB d=n at *;go_enter func126,ntmps126
 go_wp2_with(first|(go_at_call 162;refine(i.out 0 _).mono ?_;rintro e v ⟨rfl,s⟩)|(go_at_call 145;refine(f.out 0).mono ?_;rintro e v ⟨k,rfl,rfl⟩));exact⟨rfl,.tuple #[],by simp[aI,results126],rfl,s⟩
def ic(W:ay)(g n:Nat)(G:Nat->Nat):Prop:=W.heap[g]?=ah (aq ((aO n).map λt=>i32 (G t)).toArray 192)
variable{W:ay}{g n a b t k a' p:Nat}{G R:Nat->Nat}
theorem ic.cell(h:ic W g n G)(t)(c:t<n):cz W g t (.int .i32 (G t:Int)):=by grind[ic,aU,i32]
theorem ic.frozen(h:ic W g n G)(t):bG W (az g t)=aL:=by grind[ic,bG]
def ic.drew(h:ic W g n G)(m):ic (bF W m) g n G:=h
def ic.below{W':ay}(h:ic W g n G)(c:aC W.heap.size W W'):ic W' g n G:=(c.block g (bY.1 h).1).trans h
theorem ic.congr{H:Nat->Nat}(h:ic W g n G)(e:∀t,t<n->H t=G t):ic W g n H:=by simp_all[ic]
theorem ic.set(h:ic W g n G)(i x:Nat):ic (aW W (az g i) (.int .i32 x)) g n (λt=>if t=i then x else G t):=by
 have c:ky W g ((aO n).map G):=by unfold ic at h;unfold ky;rw[h,kL];rfl
 have:=c.set i x;unfold ky at this;unfold ic;rw[this];congr 3;refine iv λt=>?_;grind
theorem NZ(w){g n}(c a){b}(l){G}(h:ic w g n G)(d:a<n)(f:b<n)(j:G a<=G b):
  aB prog 252 #[aj (ah (az g 0)) n c,iz a,iz b,.pointer l] w λe o=>e=aw (.tuple #[iz a,iz b])∧∃m,o=bF w m:=by
 have c1:=h.cell a d;have c2:=h.cell b f;have i:=λW:ay=>lX W (G b:Int) (G a:Int);have q:=qo d;have r:=qo f;clear h d f;generalize G a=x at *;generalize G b=y at *;go_enter func252,ntmps252
 go_wp2;go_quiet((go_at_call 207;exact eN ((i _).mono λ_ _ x=>⟨x.1,x.2.symm⟩)))
 go_wp2;exact⟨rfl,.tuple #[iz a,iz b],by simp[aI,results252],rfl,_,rfl⟩
theorem UI(w){g n}(c a b d o){G}(h:ic w g n G)(u:a<n)(j:b<n)(v:d<n)(f:G a<=G b)(i:G b<=G d):
  aB prog 239 #[aj (ah (az g 0)) n c,iz a,iz b,iz d,.pointer o] w λe A=>e=aw (iz b)∧∃m,A=bF w m:=by
 have r:∀m,_:=λm=>NZ (bF w m) c a o (h.drew m) u j f;have s:∀m,_:=λm=>NZ (bF w m) c b o (h.drew m) j v i;have q:=bL r;have y:=bL s;clear h f i u j v r s;go_enter func239,ntmps239
 go_wp2_with(go_at_call 252;refine(q.out 0).mono ?_;rintro e B ⟨rfl,l,rfl⟩;refine dM ?_);delta aH;apply_assumption
 go_wp2_with(go_at_call 252;refine(y.out l).mono ?_;rintro e C ⟨rfl,x,rfl⟩;refine dM ?_);delta aH;apply_assumption
 go_wp2_with(go_at_call 252;refine(q.out (l+x)).mono ?_;rintro e D ⟨rfl,z,rfl⟩);go_ret;exact⟨rfl,l+x+z,by simp⟩
theorem YC{w}{g n}(c a j){G}(h:ic w g n G)(i:a+2<n)(u:n<=1048576)(d:G a<=G (a+1))(f:G (a+1)<=G (a+2)):
  aB prog 238 #[aj (ah (az g 0)) n c,iz ((a+1:Nat):Int),.pointer j] w λe s=>e=aw (iz ((a+1:Nat):Int))∧∃m,s=bF w m:=by
 have M:=UI w c a (a+1) (a+2) j h bO bO i d f;have l:IntKind.i64.wrap (((a+1:Nat):Int)-1)=(a:Int):=aew
 have o:IntKind.i64.wrap (((a+1:Nat):Int)+1)=((a+2:Nat):Int):=aew
 generalize((a+1:Nat):Int)=p at *;generalize((a+2:Nat):Int)=q at *;clear h i d f;go_enter func238,ntmps238
 go_wp2_with(go_at_call 239;refine M.mono ?_;rintro e v ⟨rfl,r,rfl⟩);go_ret;exact⟨rfl,r,rfl⟩
theorem FY(w){g n}(c){p}(d){G}(h:ic w g n G)(hp:1<=p)(o:p+1<n)(j:n<=1048576)(f:G (p-1)<=G p)(i:G p<=G (p+1)):
  aB prog 238 #[aj (ah (az g 0)) n c,iz p,.pointer d] w λe l=>e=aw (iz p)∧∃m,l=bF w m:=by
 obtain⟨a,rfl⟩:∃a,p=a+1:=⟨p-1,by omega⟩
 exact YC c a d h bO j f i
theorem Ru{w}{g n}(c a b){G}(h:ic w g n G)(B:a+13<=b)(O:b<=n)(P:n<=1000000)(d:∀s t,a<s->s<=t->t<b->G s<=G t):
  aB prog 204 #[aj (ah (az g 0)) n c,iz a,iz b] w λe F=>e=aw (.tuple #[iz ((a+(b-a) / 4*2:Nat):Int),iz 1])∧aC w.heap.size w F:=by
 obtain⟨I,z⟩:∃I:Nat,I=a+(b-a) / 4*1:=⟨_,rfl⟩
 obtain⟨J,q⟩:∃J:Nat,J=a+(b-a) / 4*2:=⟨_,rfl⟩
 obtain⟨K,A⟩:∃K:Nat,K=a+(b-a) / 4*3:=⟨_,rfl⟩
 have H:((a:Int)+((b:Int)-a) / 4)=(I:Int):=bO
 have L:((a:Int)+((b:Int)-a) / 4*2)=(J:Int):=bO
 have M:((a:Int)+((b:Int)-a) / 4*3)=(K:Int):=bO
 rw[<-q];have f:∀m,ic (bF (bC w (aq #[iz 0] 3)) m) g n G:=λm=>ic.drew (h.below ((cW (hz w) w).alloc (bT _) _)) m;have o:Hid (∀m,bz w (bF (bC w (aq #[iz 0] 3)) m)):=λm=>((cW (hz w) w).alloc (bT _) _).trans ⟨rfl,rfl,rfl,bT _,λ_ _=>rfl⟩;have u:Hid (∀m,_):=λm=>FY (p:=I) (bF (bC w (aq #[iz 0] 3)) m) c (ah (az (hz w) 0)) (f m) bO bO bO (d _ _ bO bO bO) (d _ _ bO bO bO);have v:Hid (∀m,_):=λm=>FY (p:=J) (bF (bC w (aq #[iz 0] 3)) m) c (ah (az (hz w) 0)) (f m) bO bO bO (d _ _ bO bO bO) (d _ _ bO bO bO);have x:Hid (∀m,_):=λm=>FY (p:=K) (bF (bC w (aq #[iz 0] 3)) m) c (ah (az (hz w) 0)) (f m) bO bO bO (d _ _ bO bO bO) (d _ _ bO bO bO);have l:Hid (∀m,_):=λm=>UI (bF (bC w (aq #[iz 0] 3)) m) c I J K (ah (az (hz w) 0)) (f m) bO bO bO (d _ _ bO bO bO) (d _ _ bO bO bO);have c0:aU (bC w (aq #[iz 0] 3)) (az (hz w) 0)=ah (iz 0):=bQ
 have N:(8:Int)<=(b:Int)-a:=bO
 have C:IntKind.i64.wrap ((b:Int)-a)=(b:Int)-a:=aew
 clear h f z q A d;by_cases y:(50:Int)<=(b:Int)-a
 .go_enter func204,ntmps204
  go_wp2_with(go_at_call 238;refine(u.out 0).mono ?_;rintro e i ⟨rfl,j,rfl⟩;refine dM ?_);delta aH;apply_assumption
  go_wp2_with(go_at_call 238;refine(v.out j).mono ?_;rintro e i ⟨rfl,r,rfl⟩;refine dM ?_);delta aH;apply_assumption
  go_wp2_with(go_at_call 238;refine(x.out (j+r)).mono ?_;rintro e i ⟨rfl,D,rfl⟩;refine dM ?_);delta aH;apply_assumption
  go_wp2_with(go_at_call 239;refine(l.out (j+r+D)).mono ?_;rintro e i ⟨rfl,E,rfl⟩);exact⟨rfl,.tuple #[iz J,iz 1],by simp[aI,results204],rfl,(o.out 0).trans ⟨rfl,rfl,rfl,bT _,λ_ _=>rfl⟩⟩
 go_enter func204,ntmps204
 go_wp2_with(go_at_call 239;refine(l.out 0).mono ?_;rintro e i ⟨rfl,E,rfl⟩);exact⟨rfl,.tuple #[iz J,iz 1],by simp[aI,results204],rfl,(o.out 0).trans ⟨rfl,rfl,rfl,bT _,λ_ _=>rfl⟩⟩
def ig(a b:Nat)(G:Nat->Nat):Nat->Nat:=λt=>if a<=t∧t+1<b then G (t+1) else if a<=t∧t+1=b then G a else G t
structure GO(a b:Nat)(G:Nat->Nat):Prop where
 up:∀s t,a<s->s<t->t<b->G s<G t
 top:∀t,a<t->t<b->G t<G a
theorem YR(w){g n}(c){a b}{G}(h:ic w g n G)(P:a<=b)(hb:b<=n)(hn:n<=1000000)(hs:GO a b G):
  aB prog 201 #[aj (ah (az g 0)) n c,iz a,iz b] w λe L=>e=aw (.tuple #[])∧ic L g n (ig a b G)∧bI (λk=>k=g) w L:=by
 have X:Hid (ic w g n (ig a (min (a+1) b) G)∧bI (λk=>k=g) w w):=by
  refine⟨h.congr λt U=>?_,bW _ _⟩;unfold ig;by_cases e:a+1<=b
  .grind
  grind
 have F:Hid (GO a b G):=hs;go_enter func201,ntmps201
 go_wp2
 go_loopw[6] (λD W=>∃i:Nat,a+1<=i∧i<=b+1∧D=iz i∧Hid (ic W g n (ig a (min i b) G)∧bI (λk=>k=g) w W)) λD _=>b+1-(aG D).toNat
 case atStart=>grind
 case round=>
  obtain⟨i,S,T,rfl,V⟩:=hrel;by_cases f:i<b
  .have N:=bM i b;have C:IntKind.i64.wrap ((i:Int)+1)=(i:Int)+1:=by rw[cX];omega
   obtain⟨k,rfl⟩:∃k,i=k+1:=⟨i-1,by omega⟩
   have M:Hid (ic wr g n (ig a (k+1) G)∧bI (λk=>k=g) w wr):=cG
   have Q:a<=k:=bO
   have z:k+1<n:=bO
   go_wp2
   go_loopw[7] (λl W=>(l=iz ((k:Int)+1)∧Hid (ic W g n (ig a (k+1) G)∧bI (λk=>k=g) w W))∨(l=iz k∧Hid (ic W g n (ig a (k+2) G)∧bI (λk=>k=g) w W))) λl _=>(aG l).toNat
   case atStart=>exact cB ⟨by go_num,M⟩
   case round=>
    obtain⟨rfl,d⟩|⟨rfl,d⟩:=hrel
    .have s:=d.out.1.cell (k+1) z;have j:=d.out.1.cell k bO;have Z:=d.out.1.frozen (k+1);have Y:=d.out.1.frozen k;have ex:ig a (k+1) G (k+1)=G (k+1):=by unfold ig;rw[cC bO,cC bO]
     have ep:ig a (k+1) G k=G a:=by unfold ig;rw[cC bO,cY bO]
     rw[ex] at s;rw[ep] at j;have B:G (k+1)<G a:=F.out.top (k+1) bO f;have o:Hid (∀m,ic (aW (aW (bF wr m) (az g (k+1)) (.int .i32 (G a:Int))) (az g k) (.int .i32 (G (k+1):Int))) g n (ig a (k+2) G)∧bI (λk=>k=g) w (aW (aW (bF wr m) (az g (k+1)) (.int .i32 (G a:Int))) (az g k) (.int .i32 (G (k+1):Int)))):=λm=>by
      refine⟨(((d.out.1.drew m).set (k+1) (G a)).set k (G (k+1))).congr λt U=>?_,eY (eY (d.out.2.drewN m) (p:=(az g (k+1))) rfl _) (p:=az g k) rfl _⟩;unfold ig;by_cases u:t=k
      .subst u;rw[cY bO,cY rfl]
      by_cases I:t=k+1
      .subst I;rw[cC bO,cY bO,cC u,cY rfl]
      rw[cC u,cC I];by_cases J:a<=t∧t+1<k+1
      .rw[cY bO,cY J]
      rw[cC bO,cC bO,cC J,cC bO]
     have r:=λW:ay=>lX W (G (k+1):Int) (G a:Int);have O:aM ((G (k+1):Int)<(G a:Int))=aK:=cZ bO;have H:aM ((a:Int)<k+1)=aK:=cZ bO;have A:IntKind.i64.wrap ((k:Int)+1-1)=(k:Int):=aew
     generalize G (k+1)=x at *;generalize G a=y at *
     go_wp2;go_quiet((go_at_call 207;exact eN ((r _).mono λ_ _ x=>⟨x.1,x.2.symm⟩)))
     go_wp2
     go_region
     all_goals go_wp2
     exact⟨cI ⟨rfl,o.out _⟩,by simp[aG]⟩
    have E:Hid (∀m,ic (bF wr m) g n (ig a (min (k+1+1) b) G)∧bI (λk=>k=g) w (bF wr m)):=λm=>by
     rw[ik bO];exact⟨d.out.1.drew m,d.out.2.drewN m⟩
    by_cases v:a<k
    .have s:=d.out.1.cell k bO;have j:=d.out.1.cell (k-1) bO;have ex:ig a (k+2) G k=G (k+1):=by unfold ig;rw[cY bO]
     have ep:ig a (k+2) G (k-1)=G k:=by unfold ig;rw[cY bO,Nat.sub_add_cancel bO]
     rw[ex] at s;rw[ep] at j;have B:G k<G (k+1):=F.out.up k (k+1) v bO f;have r:=λW:ay=>lX W (G (k+1):Int) (G k:Int);have O:aM ((G (k+1):Int)<(G k:Int))=aL:=cP bO;obtain⟨q,rfl⟩:∃q,k=q+1:=⟨k-1,by omega⟩
     rw[lQ] at j;have H:aM ((a:Int)<q+1)=aK:=cZ bO;have A:IntKind.i64.wrap ((q:Int)+1-1)=(q:Int):=aew
     simp[Dv,xi];generalize G (q+1+1)=x at *;generalize G (q+1)=y at *
     go_wp2;go_quiet((go_at_call 207;exact eN ((r _).mono λ_ _ x=>⟨x.1,x.2.symm⟩)))
     go_wp2;exact⟨⟨q+1+1+1,by omega,by omega,by simp,E.out _⟩,by simp[aG];omega⟩
    have H:=bN a k
    go_wp2;go_quiet(fail)
    go_wp2;exact⟨⟨k+1+1,by omega,by omega,by simp,E.out _⟩,by simp[aG];omega⟩
  have N:=bN i b;have o:Hid (ic wr g n (ig a b G)∧bI (λk=>k=g) w wr):=cG
  go_wp2
  go_end0
  exact⟨rfl,o.out⟩
theorem Ue{w}{g n}(c){a b}{G}(h:ic w g n G)(j:a+2<=b)(E:b<=n)(F:n<=1000000)(hs:GO a b G)(i:b<a+50):
  aB prog 206 #[aj (ah (az g 0)) n c,iz a,iz b] w λe v=>e=aw (.bool aL)∧∃m,v=bF w m:=by
 have A:=h.cell (a+1) bO;have z:=h.cell a bO;have o:G (a+1)<G a:=hs.top (a+1) bO bO;have f:=λW:ay=>lX W (G (a+1):Int) (G a:Int);have q:=fq (a:=a) bO;have r:IntKind.i64.wrap ((a:Int)+1-1)=(a:Int):=aew
 have s:IntKind.i64.wrap ((b:Int)-a)=(b:Int)-a:=aew
 have C:aM ((a:Int)+1<(b:Int))=aK:=cZ bO;have D:((a:Int)+1==(b:Int))=aL:=bX
 have B:aM ((b:Int)-a<50)=aK:=cZ bO;have l:a+1<n:=bO
 generalize G (a+1)=x at *;generalize G a=y at *;go_enter func206,ntmps206
 go_wp2
 go_loopw[7,8] (λd u W=>d=iz ((a:Int)+1)∧u=iz 0∧W=w) λ_ _ _=>0
 case atStart=>exact⟨by simp,rfl,rfl⟩
 case round=>
  obtain⟨rfl,rfl,rfl⟩:=hrel
  go_wp2
  go_loopw[7] (λd W=>d=iz ((a:Int)+1)∧W=wr) λ_ _=>0
  case atStart=>exact⟨rfl,rfl⟩
  case round=>
   obtain⟨rfl,rfl⟩:=hrel
   go_wp2;go_quiet((go_at_call 207;exact eN ((f _).mono λ_ _ x=>⟨x.1,x.2.symm⟩)))
   go_wp2;go_ret;exact⟨rfl,_,rfl⟩
theorem NF(G)(h:b<=t):ig a b G t=G t:=by grind[ig]
theorem ND(G)(h:a<b):ig a b G (b-1)=G a:=by grind[ig]
theorem NH(G)(h:a<=t)(c:t+1<b):ig a b G t=G (t+1):=by unfold ig;rw[cY bO]
theorem IB(h:ic W g n (ig a (k+1) G))(c:a<=k)(x y)(d:x=G (k+1))(e:y=G a)(m):
  ic (aW (aW (bF W m) (az g (k+1)) (.int .i32 y)) (az g k) (.int .i32 x)) g n (ig a (k+2) G):=by
 subst d e;refine(((h.drew m).set (k+1) (G a)).set k (G (k+1))).congr λt f=>?_;grind[ig]
theorem Fz(a G t):ig a (a+1) G t=G t:=by grind[ig]
theorem TH(h:GO a b G)(f:a<=k)(d:k+1<b):ig a b G k<=ig a b G (k+1):=by
 rw[NH G f d];by_cases e:k+2<b
 .rw[NH G bO bO];exact ir (h.up (k+1) (k+2) bO bO bO)
 have c:k+1=b-1:=bO
 rw[c,ND G bO];exact ir (h.top (b-1) bO bO)
theorem PL{w}{g n}(c){a b}{G}(h:ic w g n G)(hb:b<=n)(hn:n<=1000000)(hs:GO a b G)(ab:a+50<=b):
  aB prog 206 #[aj (ah (az g 0)) n c,iz a,iz b] w λe Y=>e=aw (.bool aK)∧ic Y g n (ig a b G)∧bI (λk=>k=g) w Y:=by
 have al:=fq (a:=a) bO;have F:Hid (ic w g n (ig a (a+1) G)∧bI (λk=>k=g) w w):=⟨h.congr λt _=>Fz a G t,bW _ _⟩
 have H:Hid (GO a b G):=hs;obtain⟨y,X⟩:=bK (G a);have s:=bL X;clear h hs X;go_enter func206,ntmps206
 go_wp2
 go_loopw[7,8] (λr D W=>r=iz ((a:Int)+1)∧((D=iz 0∧Hid (ic W g n (ig a (a+1) G)∧bI (λk=>k=g) w W))∨(D=iz 1∧Hid (ic W g n (ig a b G)∧bI (λk=>k=g) w W)))) λ_ D _=>2-(aG D).toNat
 case atStart=>grind
 case round=>
  clear F;obtain⟨rfl,⟨rfl,C⟩|⟨rfl,C⟩⟩:=hrel
  .have an:IntKind.i64.wrap ((a:Int)+1-1)=(a:Int):=by rw[cX];omega
   have ao:IntKind.i64.wrap ((b:Int)-a)=(b:Int)-a:=aew
   have ap:IntKind.i64.wrap ((a:Int)+1-(a:Int))=1:=aew
   have a0:IntKind.i64.wrap ((b:Int)-((a:Int)+1))=(b:Int)-((a:Int)+1):=aew
   have db:aM ((a:Int)+1<(b:Int))=aK:=cZ bO;have de:((a:Int)+1==(b:Int))=aL:=bX
   have d5:aM ((b:Int)-a<50)=aL:=cP bO;have ac:a+1<n:=bO
   go_wp2
   go_loopw[7] (λr W=>r=iz ((a:Int)+1)∧Hid (ic W g n (ig a (a+1) G)∧bI (λk=>k=g) w W)) λ_ _=>0
   case atStart=>exact⟨rfl,C⟩
   case round=>
    obtain⟨rfl,d⟩:=hrel;clear C;have v:=d.out.1.cell (a+1) bO;have u:=d.out.1.cell a bO;rw[NF G (bT _)] at v;rw[Fz,<-s.out] at u;have ag:G (a+1)<y:=by rw[s.out];exact H.out.top (a+1) bO bO
    have U:=d.out.1.frozen (a+1);have T:=d.out.1.frozen a;have i:=λW:ay=>lX W (G (a+1):Int) (y:Int);have A:aM ((G (a+1):Int)<(y:Int))=aK:=cZ bO;have P:Hid (∀m,ic (aW (aW (bF wr m) (az g (a+1)) (.int .i32 y)) (az g a) (.int .i32 (G (a+1):Int))) g n (ig a (a+2) G)∧bI (λk=>k=g) w (aW (aW (bF wr m) (az g (a+1)) (.int .i32 y)) (az g a) (.int .i32 (G (a+1):Int)))):=λm=>⟨IB (k:=a) d.out.1 (bT a) (G (a+1)) y rfl s.out m,eY (S:=λk=>k=g) (eY (S:=λk=>k=g) (d.out.2.drewN m) (p:=(az g (a+1))) rfl _) (p:=az g a) rfl _⟩;generalize G (a+1)=x at *;clear d
    go_wp2;go_quiet((go_at_call 207;exact eN ((i _).mono λ_ _ x=>⟨x.1,x.2.symm⟩)))
    go_wp2
    go_region
    all_goals go_wp2
    have Z:Hid _:=P.out (nq+1);generalize aW (aW (bF wr (nq+1)) (az g (a+1)) (.int .i32 y)) (az g a) (.int .i32 x)=w2 at *;clear v u U T i A P
    go_loopw[10] (λq W=>∃j:Nat,a+2<=j∧j<=b∧q=iz j∧Hid (ic W g n (ig a j G)∧bI (λk=>k=g) w W)) λq _=>b-(aG q).toNat
    case atStart=>exact⟨a+2,bT _,by omega,by go_num,Z⟩
    case round=>
     obtain⟨j,L,M,rfl,f⟩:=hrel;by_cases o:j<b
     .obtain⟨k,rfl⟩:∃k,j=k+1:=⟨j-1,by omega⟩
      have v:=f.out.1.cell (k+1) bO;have u:=f.out.1.cell k bO;have Q:=ND (b:=k+1) G (show a<k+1 by omega);rw[lQ] at Q;rw[NF G (bT _)] at v;rw[Q,<-s.out] at u;have V:G (k+1)<y:=by rw[s.out];exact H.out.top (k+1) bO o
      have U:=f.out.1.frozen (k+1);have T:=f.out.1.frozen k;have i:=λW:ay=>lX W (G (k+1):Int) (y:Int);have A:aM ((G (k+1):Int)<(y:Int))=aK:=cZ bO;have O:IntKind.i64.wrap ((k:Int)+1-1)=(k:Int):=aew
      have B:IntKind.i64.wrap ((k:Int)+1+1)=(k:Int)+1+1:=aew
      have J:aM ((k:Int)+1<(b:Int))=aK:=cZ bO;have E:Hid (∀m,ic (aW (aW (bF wr m) (az g (k+1)) (.int .i32 y)) (az g k) (.int .i32 (G (k+1):Int))) g n (ig a (k+2) G)∧bI (λk=>k=g) w (aW (aW (bF wr m) (az g (k+1)) (.int .i32 y)) (az g k) (.int .i32 (G (k+1):Int)))):=λm=>⟨IB f.out.1 bO (G (k+1)) y rfl s.out m,eY (S:=λk=>k=g) (eY (S:=λk=>k=g) (f.out.2.drewN m) (p:=(az g (k+1))) rfl _) (p:=az g k) rfl _⟩;have N:k+1<n:=bO
      generalize G (k+1)=z at *;simp only[Dv,xi]
      go_wp2;go_quiet((go_at_call 207;exact eN ((i _).mono λ_ _ x=>⟨x.1,x.2.symm⟩)))
      go_wp2
      go_region
      all_goals go_wp2
      exact⟨⟨k+2,by omega,by omega,by go_num,E.out _⟩,by simp[aG];omega⟩
     have I:=bN j b;obtain rfl:j=b:=bO
     go_wp2;exact⟨⟨rfl,cI ⟨rfl,f⟩⟩,by simp[aG]⟩
  have db:aM ((a:Int)+1<(b:Int))=aK:=cZ bO;have dq:=bN b b
  go_wp2
  go_loopw[7] (λr W=>∃j:Nat,a+1<=j∧j<=b∧r=iz j∧Hid (ic W g n (ig a b G)∧bI (λk=>k=g) w W)) λr _=>b-(aG r).toNat
  case atStart=>exact⟨a+1,bT _,by omega,by go_num,C⟩
  case round=>
   obtain⟨j,L,M,rfl,f⟩:=hrel;by_cases o:j<b
   .obtain⟨k,rfl⟩:∃k,j=k+1:=⟨j-1,by omega⟩
    have v:=f.out.1.cell (k+1) bO;have u:=f.out.1.cell k bO;have ad:ig a b G k<=ig a b G (k+1):=TH H.out bO o;have i:=λW:ay=>lX W (ig a b G (k+1):Int) (ig a b G k:Int);have A:aM ((ig a b G (k+1):Int)<(ig a b G k:Int))=aL:=cP bO;have O:IntKind.i64.wrap ((k:Int)+1-1)=(k:Int):=aew
    have B:IntKind.i64.wrap ((k:Int)+1+1)=(k:Int)+1+1:=aew
    have J:aM ((k:Int)+1<(b:Int))=aK:=cZ bO;have N:k+1<n:=bO
    have l:Hid (∀m,ic (bF wr m) g n (ig a b G)∧bI (λk=>k=g) w (bF wr m)):=λm=>⟨f.out.1.drew m,f.out.2.drewN m⟩;generalize ig a b G (k+1)=z at v i A;generalize ig a b G k=y2 at u i A;have aa:(!aM (z<y2))=aK:=by have:=of_decide_eq_false A;rw[cP bO];rfl
    simp only[Dv,xi]
    go_wp2;go_quiet((go_at_call 207;exact eN ((i _).mono λ_ _ x=>⟨x.1,x.2.symm⟩)))
    go_wp2;exact⟨⟨k+2,by omega,by omega,by go_num,l.out _⟩,by simp[aG];omega⟩
   have I:=bN j b;obtain rfl:j=b:=bO
   have l:Hid (∀m,ic (bF wr m) g n (ig a j G)∧bI (λk=>k=g) w (bF wr m)):=λm=>⟨f.out.1.drew m,f.out.2.drewN m⟩
   go_wp2;go_quiet(fail)
   go_wp2;go_ret;exact⟨rfl,l.out _⟩
def sI(a p:Nat)(G:Nat->Nat)(t:Nat):Nat:=if t=p then G a else if t=a then G p else G t
def wH(a p:Nat)(G:Nat->Nat)(t:Nat):Nat:=if t=a then G (p-1) else if t=p-1 then G p else if t=p then G a else G t
theorem Ud{w}{g n}(c){a b}(p){G}(h:ic w g n G)(ab:a+2<=p)(J:p<b)(hb:b<=n)(hn:n<=1000000)(hs:GO a b G):
  aB prog 209 #[aj (ah (az g 0)) n c,iz a,iz b,iz p] w λe w'=>e=aw (.tuple #[iz ((p-1:Nat):Int),.bool aK])∧ic w' g n (wH a p G)∧bI (λk=>k=g) w w':=by
 have Q:Hid (GO a b G):=hs;have q:=h.cell a bO;have Z:=h.cell p bO;have fa:=h.frozen a;have fp:=h.frozen p;have A:Hid (∀m,ic (aW (aW (bF w m) (az g a) (.int .i32 (G p:Int))) (az g p) (.int .i32 (G a:Int))) g n (sI a p G)∧bI (λk=>k=g) w (aW (aW (bF w m) (az g a) (.int .i32 (G p:Int))) (az g p) (.int .i32 (G a:Int)))):=λm=>⟨((h.drew m).set a (G p)).set p (G a),eY (S:=λk=>k=g) (eY (S:=λk=>k=g) ((bW _ _).drewN m) (p:=az g a) rfl _) (p:=az g p) rfl _⟩;have H:a<n:=bO
 have a0:p<n:=bO
 have a1:=fq (a:=a) bO;have a2:IntKind.i64.wrap ((b:Int)-1)=(b:Int)-1:=aew
 clear h hs;obtain⟨x,O⟩:=bK (G a);obtain⟨y,P⟩:=bK (G p);rw[<-O,<-P] at A;rw[<-O] at q;rw[<-P] at Z;have l:Hid (x=G a∧y=G p):=⟨O,P⟩
 clear O P;go_enter func209,ntmps209
 go_wp2
 go_region
 all_goals go_wp2
 have C:Hid (ic ((aW (aW w (az g a) (.int .i32 y)) (az g p) (.int .i32 x)).drew) g n (sI a p G)∧bI (λk=>k=g) w ((aW (aW w (az g a) (.int .i32 y)) (az g p) (.int .i32 x)).drew)):=⟨(A.out 0).1.drew 1,(A.out 0).2.drewN 1⟩
 generalize((aW (aW w (az g a) (.int .i32 y)) (az g p) (.int .i32 x)).drew)=w2 at *;clear q Z fa fp A
 go_loopw[10] (λu W=>∃i:Nat,a+1<=i∧i<=p∧u=iz i∧Hid (ic W g n (sI a p G)∧bI (λk=>k=g) w W)) λu _=>p-(aG u).toNat
 case atStart=>exact⟨a+1,bT _,by omega,by go_num,C⟩
 case round=>
  obtain⟨i,ad,ag,rfl,o⟩:=hrel;clear C;have q:=o.out.1.cell a H;have s:sI a p G a=y:=by unfold sI;rw[cC bO,cY rfl,l.out.2]
  rw[s] at q;by_cases X:i<p
  .have L:=o.out.1.cell i bO;have F:sI a p G i=G i:=by grind[sI]
   rw[F] at L;have I:G i<y:=by rw[l.out.2];exact Q.out.up i p bO X J
   have B:=λW:ay=>lX W (G i:Int) (y:Int);have r:aM (G i<y)=aK:=cZ I;have D:aM ((i:Int)<=b-1)=aK:=cZ bO;have a3:IntKind.i64.wrap ((i:Int)+1)=(i:Int)+1:=aew
   have an:i<n:=bO
   have d:Hid (∀m,ic (bF wr m) g n (sI a p G)∧bI (λk=>k=g) w (bF wr m)):=λm=>⟨o.out.1.drew m,o.out.2.drewN m⟩;clear o F s;generalize G i=z at *
   go_wp2;go_quiet((go_at_call 207;exact eN ((B _).mono λ_ _ x=>⟨x.1,x.2.symm⟩)))
   go_wp2;exact⟨⟨i+1,by omega,by omega,by go_num,d.out _⟩,by simp[aG];omega⟩
  obtain rfl:i=p:=bO
  have L:=o.out.1.cell i bO;have F:sI a i G i=x:=by unfold sI;rw[cY rfl,l.out.1]
  rw[F] at L;have I:y<x:=by rw[l.out.2,l.out.1];exact Q.out.top i bO J
  have B:=λW:ay=>lX W (x:Int) (y:Int);have r:aM (x<y)=aL:=cP bO;have D:aM ((i:Int)<=b-1)=aK:=cZ bO;have d:Hid (∀m,ic (bF wr m) g n (sI a i G)∧bI (λk=>k=g) w (bF wr m)):=λm=>⟨o.out.1.drew m,o.out.2.drewN m⟩;clear o F s
  go_wp2;go_quiet((go_at_call 207;exact eN ((B _).mono λ_ _ x=>⟨x.1,x.2.symm⟩)))
  go_wp2;have C:Hid _:=d.out nq;generalize bF wr nq=w3 at *;clear d q L B r D
  go_loopw[11] (λv W=>∃j:Nat,i<=j+1∧j+1<=b∧v=iz j∧Hid (ic W g n (sI a i G)∧bI (λk=>k=g) w W)) λv _=>(aG v).toNat
  case atStart=>exact⟨b-1,by omega,by omega,by go_num,C⟩
  case round=>
   obtain⟨j,ao,ap,rfl,f⟩:=hrel;clear C;have q:=f.out.1.cell a H;have s:sI a i G a=y:=by unfold sI;rw[cC bO,cY rfl,l.out.2]
   rw[s] at q;by_cases al:i<=j
   .have T:=f.out.1.cell j bO;obtain⟨z,V⟩:=bK (sI a i G j);rw[<-V] at T;have ac:y<=z:=by
     rw[V,l.out.2];unfold sI;by_cases e:j=i
     .rw[cY e,<-l.out.1,<-l.out.2];omega
     rw[cC e,cC bO];exact ir (Q.out.up i j bO bO bO)
    have B:=λW:ay=>lX W (z:Int) (y:Int);have r:(!aM (z<y))=aK:=by rw[cP bO];rfl
    have U:aM ((i:Int)<=j)=aK:=cZ bO;have a4:IntKind.i64.wrap ((j:Int)-1)=(j:Int)-1:=aew
    have Y:j<n:=bO
    have d:Hid (∀m,ic (bF wr m) g n (sI a i G)∧bI (λk=>k=g) w (bF wr m)):=λm=>⟨f.out.1.drew m,f.out.2.drewN m⟩;clear f s V
    go_wp2;go_quiet((go_at_call 207;exact eN ((B _).mono λ_ _ x=>⟨x.1,x.2.symm⟩)))
    go_wp2;exact⟨⟨j-1,by omega,by omega,by go_num,d.out _⟩,by simp[aG];omega⟩
   obtain rfl:i=j+1:=bO
   have T:=f.out.1.cell j bO;have ej:sI a (j+1) G j=G j:=by unfold sI;rw[cC bO,cC bO]
   rw[ej] at T;have fa:=λm=>(f.out.1.drew m).frozen a;have fj:=λm=>(f.out.1.drew m).frozen j;have U:aM ((j:Int)+1<=(j:Int))=aL:=cP bO;have aa:aM ((j:Int)<j+1)=aK:=cZ bO;have Y:j<n:=bO
   have A:Hid (∀m,ic (aW (aW (bF wr m) (az g j) (.int .i32 y)) (az g a) (.int .i32 (G j:Int))) g n (wH a (j+1) G)∧bI (λk=>k=g) w (aW (aW (bF wr m) (az g j) (.int .i32 y)) (az g a) (.int .i32 (G j:Int)))):=λm=>by
    refine⟨(((f.out.1.drew m).set j y).set a (G j)).congr λt ht=>?_,eY (S:=λk=>k=g) (eY (S:=λk=>k=g) (f.out.2.drewN m) (p:=az g j) rfl _) (p:=az g a) rfl _⟩;unfold wH sI;rw[lQ];by_cases E:t=a
    .rw[cY E,cY E]
    rw[cC E,cC E];by_cases M:t=j
    .rw[cY M,cY M,l.out.2]
    rw[cC M,cC M];by_cases N:t=j+1
    .rw[cY N,cY N]
    rw[cC N,cC N,cC E]
   clear f s ej;generalize G j=z at *;simp[Dv,xi]
   go_wp2;go_quiet(fail)
   go_wp2
   go_region
   all_goals go_wp2
   go_ret2
   exact⟨by simp,A.out _⟩
theorem XH:(aO 256).all (λx=>x==0||(if h:x<Lib.len8tab.size then aM (1<=Lib.len8tab[x].toNat)&&aM (Lib.len8tab[x].toNat<=8) else aL))=aK:=by decide+kernel
theorem Ic:Lib.len8tab.size=256:=by decide+kernel
theorem XG(s:type_of% Lib.len8tab)(hz:s.size=256)(d:(aO 256).all (λx=>x==0||(if h:x<s.size then aM (1<=s[x].toNat)&&aM (s[x].toNat<=8) else aL))=aK)(x)(h:x<s.size)(c:1<=x):1<=s[x].toNat∧s[x].toNat<=8:=by grind
def Nr(x)(h:x<Lib.len8tab.size)(c:1<=x):1<=Lib.len8tab[x].toNat∧Lib.len8tab[x].toNat<=8:=XG Lib.len8tab Ic XH x h c
theorem Qp(w:ay)(x:Nat)(j:13<=x)(l:x<=1000):aB prog 192 #[.int .u64 x] w λe d=>∃k:Nat,e=aw (iz k)∧1<=k∧k<=100∧w=d:=by
 have f:aM ((x:Int)≥4294967296)=aL:=cP bO;have i:aM ((x:Int)≥65536)=aL:=cP bO;have TS:=Ic;by_cases h:256<=x
 .have c:aM ((x:Int)≥256)=aK:=cZ bO;go_enter func192,ntmps192
  go_wp2;all_goals first
   |(exfalso;omega)
   |(have T:=Nr (x / 256) bO bO
     generalize Lib.len8tab[x / 256].toNat=k at T;go_ret;refine⟨8+k,?_,by omega,by omega,rfl⟩;have e:aX (8+aX (k:Int))=((8+k:Nat):Int):=by grind[aX]
     rw[e];rfl)
 have c:aM ((x:Int)≥256)=aL:=cP bO;go_enter func192,ntmps192
 go_wp2;all_goals first
  |(exfalso;omega)
  |(have T:=Nr x bO bO
    generalize Lib.len8tab[x].toNat=k at T;go_ret;refine⟨k,?_,by omega,by omega,rfl⟩;have e:aX (aX (k:Int))=(k:Int):=by grind[aX]
    rw[e];rfl)
theorem YM(w:ay)(x:Nat)(f:13<=x)(h:x<=1000):aB prog 145 #[.int .u64 x] w λe i=>∃k:Nat,e=aw (iz k)∧1<=k∧k<=100∧w=i:=by
 have j:IntKind.u64.wrap (x:Int)=x:=aeD
 go_enter func145,ntmps145
 go_wp2_with(go_at_call 192;refine(Qp w x f h).mono ?_;rintro e l ⟨k,rfl,c,d,rfl⟩);go_ret;exact⟨_,rfl,c,d,rfl⟩
def GV(a b:Nat)(G:Nat->Nat):Prop:=a=0∨∀t,a<=t->t<b->G (a-1)<G t
theorem GO.rot(h:GO a b G)(f:a<=a'):GO a' b (ig a (a'+1) G):=by
 refine⟨λs t hs c e=>?_,λt e d=>?_⟩
 .have:=h.up s t bO c e;grind[ig]
 have:=h.top t bO d;grind[ig]
theorem Yb(G)(c:a<=a')(d:a'<b∨a'=a)(t):ig a' b (ig a (a'+1) G) t=ig a b G t:=by unfold ig;grind
theorem GO.prt(h:GO a b R)(f:a+2<=p)(i:p<b):GO a (p-1) (wH a p R):=by
 refine⟨λs t hs c d=>?_,λt d e=>?_⟩
 .have:=h.up s t bO c bO;grind[wH]
 have:=h.up t (p-1) bO bO bO;grind[wH]
theorem Yc(G)(c:a<=a')(d:a'+2<=p)(t):ig a (p+1) G t=ig a' (p-1) (wH a' p (ig a (a'+1) G)) t:=by unfold ig wH;grind
theorem GV.rot(h:GV a b G)(hs:GO a b G)(i:a<=a')(j:a'<b∨a'=a):GV a' b (ig a (a'+1) G):=by
 by_cases e:a'=a
 .subst e;obtain h|h:=h
  .exact cB h
  refine cI λt d c=>?_;grind[absurd,ig]
 refine cI λt d c=>?_;have l:=hs.top a' bO bO;by_cases f:t=a'
 .unfold ig;grind
 have m:=hs.up a' t bO bO c;unfold ig;grind
theorem GV.prt(h:GV a b R)(e:a+2<=p)(f:p<b):GV a (p-1) (wH a p R):=by
 obtain h|h:=h
 .exact cB h
 by_cases c:a=0
 .exact cB c
 refine cI λt i d=>?_;grind[wH]
theorem Yk(N):∀(w:ay)(g n c a b f:Nat)(G:Nat->Nat),b-a<N->ic w g n G->a<=b->b<=n->n<=1000000->GO a b G->GV a b G->1<=f->f<=100->
  aB prog 162 #[aj (ah (az g 0)) n c,iz a,iz b,iz f] w λe v=>e=aw (.tuple #[])∧ic v g n (ig a b G)∧bI (λk=>k=g) w v:=by
 induction N with
 |zero=>intro w g n c a b f G hN;exact absurd hN (iR _)
 |succ N IH=>
  intro w g n c a b f G hN h a3 S H hs hl al an;have HS:Hid (GO a b G∧GV a b G):=⟨hs,hl⟩
  have HI:=bL IH;have ab:Hid (ic w g n (ig a (a+1) G)∧bI (λk=>k=g) w w):=⟨h.congr λt _=>Fz a G t,bW _ _⟩
  have dl:((f:Int)==0)=aL:=bX
  clear IH h hs hl;go_enter func162,ntmps162
  go_wp2
  go_loopw[1,2,3,8,9] (λt1 t2 t3 t8 t9 W=>t2=iz b∧t3=iz f∧t8=.bool aK∧t9=.bool aK∧∃a':Nat,a<=a'∧(a'<b∨a'=a)∧t1=iz a'∧Hid (ic W g n (ig a (a'+1) G)∧bI (λk=>k=g) w W)) λt1 _ _ _ _ _=>b-(aG t1).toNat
  case atStart=>grind
  case round=>
   clear ab;obtain⟨rfl,rfl,rfl,rfl,a',z,P,rfl,A⟩:=hrel;have a1:IntKind.i64.wrap ((b:Int)-a')=(b:Int)-a':=aew
   have HD:Hid (∀W,ic W g n (ig a' b (ig a (a'+1) G))->ic W g n (ig a b G)):=λW C=>C.congr λt _=>(Yb G z P t).symm;have d:Hid (GO a' b (ig a (a'+1) G)∧GV a' b (ig a (a'+1) G)):=⟨HS.out.1.rot z,HS.out.2.rot HS.out.1 z P⟩
   have HP:Hid (∀W p,a'+2<=p->ic W g n (ig a' (p-1) (wH a' p (ig a (a'+1) G)))->ic W g n (ig a (p+1) G)):=λW p hp C=>C.congr λt _=>Yc G z hp t;generalize ig a (a'+1) G=R at A HD d HP;by_cases a2:b<=a'+12
   .have ac:aM ((b:Int)-a'<=12)=aK:=cZ bO;have IN:=λm=>YR (bF wr m) c (A.out.1.drew m) bO S H d.out.1;have aa:=bL IN;clear IN
    go_wp2_with(go_at_call 201;refine(aa.out 0).mono ?_;rintro e E ⟨rfl,r⟩);exact⟨rfl,.tuple #[],by simp[aI,results162],rfl,HD.out _ r.1,A.out.2.trans r.2⟩
   have ac:aM ((b:Int)-a'<=12)=aL:=cP bO;have Q:a'+13<=b:=bO
   obtain⟨p,hp⟩:=bK (a'+(b-a') / 4*2);have J:Hid (aB prog 204 #[aj (ah (az g 0)) n c,iz a',iz b] wr λe v=>e=aw (.tuple #[iz p,iz 1])∧bz wr v):=by
    have:=Ru c a' b A.out.1 Q S H (λs t h1 h2 h3=>by
     obtain Z|Z:=Nat.lt_or_eq_of_le h2
     .exact ir (d.out.1.up s t h1 Z h3)
     rw[Z];exact bT _)
    rw[<-hp] at this;exact this
   have I:Hid (∀E,bz wr E->ic E g n R∧bI (λk=>k=g) w E):=λE F=>⟨A.out.1.below F,A.out.2.trans ⟨F.os,F.tape,F.output,F.size,λk hk _=>F.block k hk⟩⟩;have o:a'+2<=p:=bO
   have i:p<b:=bO
   have U:8*(p-1-a')≥b-a':=bO
   have ao:p-1-a'<b-(p-1):=bO
   clear hp A
   go_wp2_with(go_at_call 204;refine J.out.mono ?_;rintro e E ⟨rfl,HB⟩;have j:Hid _:=I.out E HB;clear I HB J);by_cases ag:a'+50<=b
   .go_wp2_with(go_at_call 206;refine(PL c j.out.1 S H d.out.1 ag).mono ?_;rintro e w4 ⟨rfl,r⟩);exact⟨rfl,.tuple #[],by simp[aI,results162],rfl,HD.out _ r.1,j.out.2.trans r.2⟩
   obtain⟨q,V⟩:=bK (p-1);have M:Hid (∀W,ic W g n R->aB prog 209 #[aj (ah (az g 0)) n c,iz a',iz b,iz p] W λe v=>e=aw (.tuple #[iz q,.bool aK])∧ic v g n (wH a' p R)∧bI (λk=>k=g) W v):=λW C=>by
    have:=Ud c p C o i S H d.out.1;rw[<-V] at this;exact this
   have L:Hid (∀W,ic W g n (wH a' p R)->aB prog 162 #[aj (ah (az g 0)) n c,iz a',iz q,iz f] W λe v=>e=aw (.tuple #[])∧ic v g n (ig a' q (wH a' p R))∧bI (λk=>k=g) W v):=λW C=>HI.out W g n c a' q f (wH a' p R) bO C bO bO H (by rw[V];exact d.out.1.prt o i) (by rw[V];exact d.out.2.prt o i) al an;have h1:IntKind.i64.wrap ((q:Int)-a')=(q:Int)-a':=aew
   have h2:IntKind.i64.wrap ((b:Int)-q)=(b:Int)-q:=aew
   have h3:IntKind.i64.wrap ((q:Int)+1)=(q:Int)+1:=aew
   have Z:aM ((q:Int)-a'<(b:Int)-q)=aK:=cZ bO;have HQ:Hid (q=p-1∧a'+2<=p∧p<b∧p<=n∧8*(p-1-a')≥b-a'):=⟨V,o,i,by omega,U⟩
   have a7:8*((q:Int)-a')≥(b:Int)-a':=bO
   clear V U ao
   go_wp2_with(go_at_call 206;refine(Ue c j.out.1 bO S H d.out.1 bO).mono ?_;rintro e w4 ⟨rfl,m4,X⟩;have l:Hid (ic w4 g n R∧bI (λk=>k=g) w w4):=(by rw[X];exact⟨j.out.1.drew m4,j.out.2.drewN m4⟩);clear X j);by_cases hz:a'=0
   .have ad:aM (0<a')=aL:=cP bO;clear hz;go_quiet(fail)
    go_wp2_with(first|(go_at_call 209;refine jD (M.out _ (by exact l.out.1)) ?_;rintro e w5 ⟨rfl,r⟩)|(go_at_call 162;refine jD (L.out _ r.1) ?_;rintro e w6 ⟨rfl,O⟩));have D:=HQ.out;have u:=O.1;rw[D.1] at u;refine⟨⟨rfl,rfl,by rw[cZ bO],rfl,p,by omega,cB i,?_,HP.out _ p o u,(l.out.2.drewN nq).trans (r.2.trans O.2)⟩,by simp[aG];omega⟩;have e:(q:Int)+1=(p:Int):=bO
    rw[e]
   have HK:Hid (∃k,a'=k+1):=⟨a'-1,by omega⟩
   let⟨k,hk⟩:=HK.out;have ad:aM (0<a')=aK:=cZ bO;have a5:IntKind.i64.wrap ((a':Int)-1)=(k:Int):=aew
   have ap:aX ((a':Int)-1)=(k:Int):=by unfold aX;omega
   have a0:(a':Int)-1=(k:Int):=bO
   have cx:=l.out.1.cell k bO;have cp:=l.out.1.cell p bO;have T:R k<R p:=by
    obtain h|h:=d.out.2
    .omega
    have:=h p bO i;rwa[hk,lQ] at this
   have Y:=λW:ay=>lX W (R k:Int) (R p:Int);have dx:aM ((R k:Int)<(R p:Int))=aK:=cZ bO;have B:aM (R k<R p)=aK:=cZ T;have a4:k<n:=bO
   have a6:p<n:=bO
   clear hz hk HK T;generalize R k=x at cx Y dx B;generalize R p=y at cp Y dx B;go_quiet((go_at_call 207;exact eN ((Y _).mono λ_ _ x=>⟨x.1,x.2.symm⟩)));clear cx cp Y dx B
   go_wp2_with(first|(go_at_call 209;refine jD (M.out _ (by exact l.out.1)) ?_;rintro e w5 ⟨rfl,r⟩)|(go_at_call 162;refine jD (L.out _ r.1) ?_;rintro e w6 ⟨rfl,O⟩));have D:=HQ.out;have u:=O.1;rw[D.1] at u;refine⟨⟨rfl,rfl,by rw[cZ bO],rfl,p,by omega,cB i,?_,HP.out _ p o u,(l.out.2.drewN nq).trans (r.2.trans O.2)⟩,by simp[aG];omega⟩;have e:(q:Int)+1=(p:Int):=bO
   rw[e]
theorem ky.nS{c:List Nat}(h:ky W g c):ic W g (bB c) (λt=>c.getD t 0):=by unfold ky at h;unfold ic;rw[h];congr 2;grind
theorem ic.list{ys:List Nat}(h:ic W g (bB ys) G)(e:∀t,t<bB ys->G t=ys.getD t 0):ky W g ys:=by unfold ic at h;unfold ky;rw[h];congr 2;grind
theorem aca{m:Nat}{r:List Nat}(e:r.Pairwise (· < ·))(l:∀x∈r,x<m):GO 0 (bB (m::r)) (λt=>(m::r).getD t 0):=by
 refine⟨λs t hs f d=>?_,λt d h=>?_⟩
 .obtain⟨s,rfl⟩:∃i,s=i+1:=⟨s-1,by omega⟩
  obtain⟨t,rfl⟩:∃j,t=j+1:=⟨t-1,by omega⟩
  have c:t<bB r:=by simpa using d
  have:=yn.1 e s t bO c bO;simpa[c,show s<bB r by omega] using this
 grind[List.getElem_mem]
theorem TI(m r t)(c:t<bB (r++[m])):ig 0 (bB (m::r)) (λt=>(m::r).getD t 0) t=(r++[m]).getD t 0:=by grind[ig]
theorem Ps{w}{g}(m r c)(h:ky w g (m::r))(v:r.Pairwise (· < ·))(y:∀x∈r,x<m)(q:13<=bB (m::r))(A:bB (m::r)<=1000):
  aB prog 126 #[.slice (ah (az g 0)) (bB (m::r)) c] w λe f=>e=aw (.tuple #[])∧ky f g (r++[m])∧bI (λk=>k=g) w f:=by
 have j:Hid (∀d:Nat,1<=d->d<=100->aB prog 162 #[.slice (ah (az g 0)) (bB (m::r)) c,iz 0,iz (bB (m::r):Int),iz d] w λe f=>e=aw (.tuple #[])∧ky f g (r++[m])∧bI (λk=>k=g) w f):=λd C D=>by have:=Yk (bB (m::r)+1) w g (bB (m::r)) c 0 (bB (m::r)) d _ bO h.nS (dt _) (bT _) bO (aca v y) (cB rfl) C D;refine jD this ?_;rintro e f ⟨rfl,F,z⟩;refine⟨rfl,ic.list (ys:=r++[m]) (G:=ig 0 (bB (m::r)) λt=>(m::r).getD t 0) ?_ λt B=>TI m r t B,z⟩;grind
 have u:=YM w (bB (m::r)) q A;have i:=bL u;have H:IntKind.u64.wrap (bB (m::r):Int)=(bB (m::r):Int):=aeD
 generalize bB (m::r)=n at *;go_enter func126,ntmps126
 go_wp2_with(first|(go_at_call 162;refine(j.out _ l o).mono ?_;rintro e E ⟨rfl,s⟩)|(go_at_call 145;refine jD i.out ?_;rintro e E ⟨k,rfl,l,o,rfl⟩));exact⟨rfl,.tuple #[],by simp[aI,results126],rfl,s⟩
theorem Pt{w}{g}(d c)(h:ky w g d)(i:bB d<=12∨(bB d<=1000∧∃m r,d=m::r∧r.Pairwise (· < ·)∧∀x∈r,x<m))(s:bB d<=c):
  aB prog 126 #[aj (ah (az g 0)) (bB d) c] w λe j=>e=aw (.tuple #[])∧∃l,ky j g l∧l.Perm d∧l.Pairwise (·<=·)∧bI (λk=>k=g) w j:=by
 by_cases f:bB d<=12
 .exact Tx c h f s
 obtain i|⟨i,m,r,rfl,o,q⟩:=i
 .exact absurd i f
 refine(Ps m r c h o q bO i).mono ?_;rintro e j ⟨rfl,v,u⟩;refine⟨rfl,r++[m],v,List.perm_append_singleton m r,kQ.2 ⟨o.imp ir,Aq _ _,λx z y A=>?_⟩,u⟩;grind
