import Derived.Test.YtlehlgipbhfioaaGreatBe
import Derived.Test.YtlehlgipbhfioaaGreatBl
import Derived.WideKeyEntry
namespace Go.Proofs.YtlehlgipbhfioaaGreat
set_option maxHeartbeats 4000000
set_option maxRecDepth 100000
set_option linter.all false
open Go.RowKit Go.Maps Go.Proofs.Tryz
open Go.Value renaming int->ae,slice->aj,pointer->ak,int->aS,slice->aT,ownBlock->aP
open Go.IntKind renaming i64->af
open Go.Obj renaming cells->aq,cells->aR
open Go.Ending renaming returned->aw
open Option renaming some->ah,none->ai
open List renaming range->aO,length->bB
open Go.World renaming frozen?->bG,alloc->bC,cell?->aU,rowIs->bE,setCell->aW,ownsRow->bD,drewN->bF,grownBy->bH
open Go renaming Calls->aB,World->ay,Aside->aH,results->aI,Value->aA,undef->aF,Ending->bg,TypeId->aE,Addr->aD,maxLen->aY
open Go.RowKit renaming intOf->aG
open Go.Act renaming eval->bq
open Bool renaming true->aK,false->aL
section
theorem UA(l:List Tm)(t u:Tm):qC (l++[t]) u=match qC l u with
  |some i=>ah i
  |none=>if t=u then ah (bB l) else ai:=by
 grind[qC,List.findIdx?,decide]
theorem CI(l:List Tm)(t:Tm)(n:ByteArray):fst (l++[t]) n=match fst l n with
  |some i=>ah i
  |none=>if t.name=n then ah (bB l) else ai:=by
 grind[fst,List.findIdx?,decide]
variable{l:List Tm}{t:Tm}
theorem Gf(h:t∈l):∃i,fst l t.name=ah i:=by
 cases a:fst l t.name with
 |some i=>exact⟨i,rfl⟩
 |none=>have:=pZ.1 a t h;simp at this
variable{i n b base p nb fb:Nat}
theorem Ve(l t)(a:i<bB l):Cv (l++[t]) i=Cv l i:=by grind[Cv,List.getElem?_append_left,List.getElem?_eq_getElem,Gf,List.getElem_mem,CI]
theorem Vf(l t):Cv (l++[t]) (bB l)=(fst l t.name).isNone:=by unfold Cv;rw[dr (bT _)];simp only[iN,jI,CI];grind[fst,List.findIdx?_eq_some_iff_getElem]
theorem EH(l t):DL (l++[t])=DL l+(if(fst l t.name).isNone then 1 else 0):=by unfold DL;rw[cR,eD,qH,Nl,cR];grind[aO,Cv,List.filter_congr,Ve,Vf]
theorem I0(h:qC l t=ai):t∉l:=by intro a;have:=pZ.1 h t a;simp at this
theorem VT(a:t.ok):∃k,se t=k∧WideAt.IsKeyLit k:=by have h:=vK a;generalize se t=k at h;exact⟨k,rfl,Ih.key h⟩
theorem Th{n:ByteArray}(h:n.size<=6):WideAt.IsKeyLit (rG n):=by have h:=vw h;generalize rG n=k at h;exact Iu.key h
variable{D Dn Df:DataW Unit}
theorem Eo(h:∀u:Tm,u.ok->kP D (se u) (qC l u))(f:IsMap D)(a:t.ok)(j:qC l t=ai):
  ∀u:Tm,u.ok->kP (D.put (se t) (.lit (.int .i64 (bB l)))) (se u) (qC (l++[t]) u):=by
 intro u c;by_cases e:t=u
 .subst e;rw[UA,j];simp only[iX];let⟨k,e,g⟩:=VT a;rw[e];exact tS f g (bB l)
 have d:qC (l++[t]) u=qC l u:=by grind[qC]
 rw[d];exact(h u c).n9 (λx=>e (JQ c a x).symm) _
theorem QK(h:∀n:ByteArray,n.size<=6->kP D (rG n) (fst l n))(c:IsMap D)(f:t.ok)(d:fst l t.name=ai):
  ∀n:ByteArray,n.size<=6->kP (D.put (rG t.name) (.lit (.int .i64 (bB l)))) (rG n) (fst (l++[t]) n):=by
 intro n hz;by_cases e:t.name=n
 .subst e;rw[CI,d];simp only[iX];exact tS c (Th f.name) (bB l)
 have a:fst (l++[t]) n=fst l n:=by grind[fst]
 rw[a];exact(h n hz).n9 (λx=>e (Ir x).symm) _
theorem QL(h:∀n:ByteArray,n.size<=6->kP D (rG n) (fst l n))(a:fst l t.name=ah i):
  ∀n:ByteArray,n.size<=6->kP D (rG n) (fst (l++[t]) n):=by
 grind[fst]
def pq(l:List Tm)(t:Tm):List Tm:=match qC l t with
 |some _=>l
 |none=>l++[t]
def uX(l:List Tm)(t:Tm):Nat:=(qC l t).getD (bB l)
def me(p:Nat)(ev:aA)(nb fb k:Nat):Prop:=k=p∨k=nb∨k=fb∨aP ev=ah k
theorem ZC{w}{base p}{ev}{nb fb}{l}(h:Bk w base p ev nb fb l)(t)(o:t.ok){i}(k:qC l t=ah i):
  aB prog 105 #[pz p,jB t] w λe w'=>e=aw (iz i)∧Bk w' base p ev nb fb l∧dG w w':=by
 unfold jB gu;have a:=boxed w t;unfold gu at a;have j:=a 0 _ rfl;have b1:=a 1 _ rfl;have b2:=a 2 _ rfl;have b3:=a 3 _ rfl;have b4:=a 4 _ rfl;have b5:=a 5 _ rfl;go_enter func105,ntmps105
 go_wp2;generalize d:bC w (aR #[.string t.name,iz (bB t.args),iz (t.arg 0:Int),iz (t.arg 1:Int),iz (t.arg 2:Int),iz (t.arg 3:Int)] 152)=q at j b1 b2 b3 b4 b5⊢;have f:dG w q:=d▸dD (bW _ w) _;have c:=h.dF f;have c1:=c.c1;have g:=λm=>(c.drewN m).Z1 o;rw[k] at g;simp only[eQ,iM,jB,gu] at g;go_quiet(fail)
 go_wp2;go_ret;exact⟨rfl,c.drewN _,dR f _⟩
def QE:(prog.info? 152).map (λi=>(i.zero,i.size,i.bytes))=ah (ah (.agg #[.string ⟨#[]⟩,iz 0,iz 0,iz 0,iz 0,iz 0]),6,56):=bV
def adN(t:Tm)(j:Nat):aA:=(gu t).toArray[j]?.getD aF
abbrev Boxed(w:ay)(b:Nat)(t:Tm):Prop:=bE w b 152 6 (adN t)
def vN(w:ay)(t:Tm):Boxed (bC w (aq (gu t).toArray 152)) w.heap.size t:=ey w (gu t).toArray 152
variable{w w':ay}
def Boxed.c0(h:Boxed w b t):cz w b 0 (.string t.name):=h.cell (i:=0) bO
def Boxed.c1(h:Boxed w b t):cz w b 1 (iz (bB t.args)):=h.cell (i:=1) bO
def Boxed.c2(h:Boxed w b t):cz w b 2 (iz (t.arg 0:Int)):=h.cell (i:=2) bO
def Boxed.c3(h:Boxed w b t):cz w b 3 (iz (t.arg 1:Int)):=h.cell (i:=3) bO
def Boxed.c4(h:Boxed w b t):cz w b 4 (iz (t.arg 2:Int)):=h.cell (i:=4) bO
def Boxed.c5(h:Boxed w b t):cz w b 5 (iz (t.arg 3:Int)):=h.cell (i:=5) bO
def Boxed.dF(h:Boxed w b t)(K:dG w w'):Boxed w' b t:=du h (K.block b (dO h) λe=>e)
theorem Boxed.named(h:Boxed w b t):Boxed (aW w (az b 0) (.string t.name)) b t:=
 eO (jf h 0 (.string t.name)) (λj a=>by
  by_cases e:j=0
  .subst e;rfl
  simp[e])
structure Bq(w:ay)(base p:Nat)(ev:aA)(nb fb:Nat)(l:List Tm)(Dn Df:DataW Unit):Prop where
 kE:bE w p 84 3 (zU ev nb fb)
 rows:bD w base 152 6 ev (bB l) (l.flatMap gu)
 lF:mL w 152 nb Dn
 om:mL w 9 fb Df
 pn:p≠nb
 pf:p≠fb
 nf:nb≠fb
 ep:aP ev≠ah p
 en:aP ev≠ah nb
 ef:aP ev≠ah fb
 bp:base<=p
 bn:base<=nb
 bf:base<=fb
structure rj(l:List Tm)(Dn Df:DataW Unit):Prop where
 Cd:Maps.size Dn=bB l
 xL:∀t:Tm,t.ok->kP Dn (se t) (qC l t)
 xU:Maps.size Df=DL l
 tR:∀n:ByteArray,n.size<=6->kP Df (rG n) (fst l n)
 yr:∀t∈l,t.ok
 nodup:l.Nodup
 small:bB l<=1000
variable{ev:aA}
theorem Bk.split(h:Bk w base p ev nb fb l):∃Dn Df,Bq w base p ev nb fb l Dn Df∧rj l Dn Df:=by let⟨Dn,e,f,g⟩:=h.lF;let⟨Df,a,c,d⟩:=h.om;exact⟨Dn,Df,⟨h.kE,h.rows,e,a,h.pn,h.pf,h.nf,h.ep,h.en,h.ef,h.bp,h.bn,h.bf⟩,⟨f,g,c,d,h.yr,h.nodup,h.small⟩⟩
def Bq.whole(h:Bq w base p ev nb fb l Dn Df)(T:rj l Dn Df):Bk w base p ev nb fb l:=
 ⟨h.kE,h.rows,⟨Dn,h.lF,T.Cd,T.xL⟩,⟨Df,h.om,T.xU,T.tR⟩,T.yr,T.nodup,h.pn,h.pf,h.nf,h.ep,h.en,h.ef,h.bp,h.bn,h.bf,T.small⟩
theorem tu{k:Nat}{kt e:aE}(h:mL w kt b D){size:Nat}{v:aA}{m:List aA}(j:bD w base e size v k m):aP v≠ah b:=by
 intro f;obtain⟨es,a,q,_⟩:=h;obtain⟨rfl,_⟩|⟨g,c,d,rfl,_,o,_⟩:=j.2
 .simp[aP] at f
 grind[aP]
theorem Tk(w:ay)(m:Nat)(t:Tm):∀j u,(gu t)[j]?=ah u->aU (bC (bF w m) (aq (gu t).toArray 152)) ((az w.heap.size 0:aD).add j)=ah u:=by
 intro j u c;have e:=boxed (bF w m) t j u c;have a:(((az (hz w) 0):aD).add j)=(az (hz w) j):=by grind[Addr.add]
 rw[a];exact e
theorem Bq.appended{f:ay}(h:Bq w base p ev nb fb l Dn Df)(m O t d)(c:bD f base 152 6 d (bB l+1) (l.flatMap gu++gu t))(a:bH (bC (bF w m) O) f (aP ev))(j:aP d=aP ev∨∀k,aP d=ah k->(bC (bF w m) O).heap.size<=k):
  Bq (aW f (az p 0) d) base p d nb fb (l++[t]) Dn Df∧bI (me p ev nb fb) w (aW f (az p 0) d)∧(aP d=aP ev∨∀k,aP d=ah k->w.heap.size<=k)∧
   cz f p 0 ev∧bG f (az p 0)=aL:=by
 have g:bE (bC (bF w m) O) p 84 3 (zU ev nb fb):=kX (du h.kE rfl) O;have hp:bE f p 84 3 (zU ev nb fb):=g.of_block (a.block p g.lt λe=>h.ep e.symm);have u:mL (bC (bF w m) O) 152 nb Dn:=World.ownsMap.alloc h.lF O;have s:mL (bC (bF w m) O) 9 fb Df:=World.ownsMap.alloc h.om O;have r:mL f 152 nb Dn:=iy u a λe=>h.en e.symm;have q:mL f 9 fb Df:=iy s a λe=>h.ef e.symm;have np:=dY hp bS c;refine⟨⟨(hp.set 0 d).congr ?_,?_,lU r (j5 h.pn) _,lU q (j5 h.pf) _,h.pn,h.pf,h.nf,np,tu r c,tu q c,h.bp,h.bn,h.bf⟩,?_,?_,hp.cell (i:=0) bO,hp.frozen 0⟩
 .grind[zU]
 .rw[cR,mZ];simpa using fR c np _
 .exact eY (S:=me p ev nb fb) (p:=az p 0) (gA (((bW (me p ev nb fb) w).drewN m).alloc O) a λk o=>cI (cI (cI o))) (cB rfl) _
 obtain e|e:=j
 .exact cB e
 exact cI λk o=>by have:=e k o;simp at this;omega
theorem dV.mK(h:bH w w' (ah b)):dV b w w':=⟨h.os,h.tape,h.output,h.size,λk a hs=>h.block k a λe=>hs (by simpa using e)⟩
def jw:=@dV.mK
def Bq.drew(h:Bq w base p ev nb fb l Dn Df):Bq w.drew base p ev nb fb l Dn Df:=
 ⟨h.kE,h.rows,h.lF,h.om,h.pn,h.pf,h.nf,h.ep,h.en,h.ef,h.bp,h.bn,h.bf⟩
def Bq.drewN(h:Bq w base p ev nb fb l Dn Df)(m):Bq (bF w m) base p ev nb fb l Dn Df:=
 ⟨h.kE,h.rows,h.lF,h.om,h.pn,h.pf,h.nf,h.ep,h.en,h.ef,h.bp,h.bn,h.bf⟩
theorem Bq.aaG(h:Bq w base p ev nb fb l Dn Df)(f:t.ok)(c:n<100000)(hs:Maps.size Dn<aY):
  ∃w',(Instr.mapUpdate 80 (.map (ah nb)) (jB t) (ae af n)).run prog w=.ok () w'∧Bq w' base p ev nb fb l (Dn.put (se t) (.lit (.int .i64 n))) Df∧dV nb w w':=by
 let⟨w',e,d,a⟩:=ke h.lF Ih underlying80 hs (vK f) (ou underlying3 (uj c));have g:=a.grown;exact⟨w',e,⟨h.kE.of_block (g.block p h.kE.lt (by simpa using h.pn)),h.rows.kept g (cI h.en),jP d,iy h.om g (by simpa using j5 h.nf),h.pn,h.pf,h.nf,h.ep,h.en,h.ef,h.bp,h.bn,h.bf⟩,dV.mK g⟩
theorem Bq.aaH(h:Bq w base p ev nb fb l Dn Df){s:ByteArray}(f:s.size<=6)(c:n<100000)(hs:Maps.size Df<aY):
  ∃w',(Instr.mapUpdate 81 (.map (ah fb)) (.string s) (ae af n)).run prog w=.ok () w'∧Bq w' base p ev nb fb l Dn (Df.put (rG s) (.lit (.int .i64 n)))∧dV fb w w':=by
 let⟨w',e,d,a⟩:=ke h.om Iu underlying81 hs (vw f) (ou underlying3 (uj c));have g:=a.grown;exact⟨w',e,⟨h.kE.of_block (g.block p h.kE.lt (by simpa using h.pf)),h.rows.kept g (cI h.ef),iy h.lF g (by simpa using h.nf),jP d,h.pn,h.pf,h.nf,h.ep,h.en,h.ef,h.bp,h.bn,h.bf⟩,dV.mK g⟩
theorem rj.acn(T:rj l Dn Df)(e:t.ok)(d:qC l t=ai)(c:Tidy Dn):Maps.size (Dn.put (se t) (.lit (.int .i64 (bB l))))=bB l+1:=by have a:=(T.xL t e).1;rw[d] at a;rw[xe c,a,T.Cd];rfl
theorem Ce(h:l.Nodup)(a:qC l t=ai):(l++[t]).Nodup:=by grind[List.nodup_append,I0]
theorem IK(h:∀u∈l,u.ok)(a:t.ok):∀u∈l++[t],u.ok:=by grind
theorem rj.Te(T:rj l Dn Df)(a:t.ok)(d:qC l t=ai)(c:fst l t.name=ai)(h:bB l<1000)(e:Tidy Dn)(f:Tidy Df):
  rj (l++[t]) (Dn.put (se t) (.lit (.int .i64 (bB l)))) (Df.put (rG t.name) (.lit (.int .i64 (bB l)))):=by
 refine⟨by rw[T.acn a d e];simp,Eo T.xL e.isMap a d,?_,QK T.tR f.isMap a c,IK T.yr a,Ce T.nodup d,by simp;omega⟩;have g:=(T.tR t.name a.name).1;rw[c] at g;rw[xe f,g,T.xU,EH,c];rfl
theorem rj.Tc(T:rj l Dn Df)(c:t.ok)(a:qC l t=ai)(e:fst l t.name=ah i)(f:bB l<1000)(d:Tidy Dn):
  rj (l++[t]) (Dn.put (se t) (.lit (.int .i64 (bB l)))) Df:=by
 refine⟨by rw[T.acn c a d];simp,Eo T.xL d.isMap c a,?_,QL T.tR e,IK T.yr c,Ce T.nodup a,by simp;omega⟩;rw[T.xU,EH,e];rfl
theorem ZD{w}{base p}{ev}{nb fb}{l}(h:Bk w base p ev nb fb l)(t)(f:t.ok)(hi:qC l t=ai)(E:bB l<1000)(Z:base<=w.heap.size):
  aB prog 105 #[ak (ah ⟨p,0,ai⟩),jB t] w λe w'=>e=aw (ae af (bB l))∧∃o,Bk w' base p o nb fb (l++[t])∧bI (me p ev nb fb) w w'∧(aP o=aP ev∨∀k,aP o=ah k->w.heap.size<=k):=by
 unfold jB;have d:=vN w t;have W1:(gu t).toArray=#[.string t.name,ae af (bB t.args),ae af (t.arg 0:Int),ae af (t.arg 1:Int),ae af (t.arg 2:Int),ae af (t.arg 3:Int)]:=rfl;rw[W1] at d⊢;obtain⟨I,J,rfl⟩:=h.OE;have a7:=h.kE.lt;let⟨a2,a1,F,_⟩:=h.split;have a6:=gw F.lF;have a5:=gw F.om;have B:aP (aT I (bB l) J)≠ah w.heap.size:=λe=>by have:=(h.rows.lt _ e).2;omega
 go_enter func105,ntmps105
 go_wp2_with fail;generalize al:bC w (aR #[.string t.name,ae af (bB t.args),ae af (t.arg 0:Int),ae af (t.arg 1:Int),ae af (t.arg 2:Int),ae af (t.arg 3:Int)] 152)=w1 at d⊢;have K1:dG w w1:=al▸dD (bW _ w) _;have T:=h.dF K1;generalize a4:w.heap.size=a at *;have r:¬p=a:=bO
 have c1:=T.c1;have x0:=d.c0;have x1:=d.c1;have x2:=d.c2;have x3:=d.c3;have x4:=d.c4;have x5:=d.c5;have LN:=λm=>(T.drewN m).Z1 f;rw[hi] at LN;simp only[pT,kJ,jB,gu] at LN;go_quiet(fail);have Y:=λm=>(du d rfl:Boxed (bF w1 m) a t)
 go_wp2_with(go_at_call 151;go_loud (refine(Rq _ _ f.name).mono ?_;rintro e P ⟨rfl,U⟩;have j:=Boxed.dF (Y _) U;have R:=Boxed.c0 j;have f0:=cA j 0;have H2:=Bk.dF (T.drewN _) U;have z0:=H2.c0;have a0:=r));have H3:=Bk.iw H2 (eH (bW _ P) 0 (.string t.name):dV a P _) r bO bO B;have u:dG w (aW P ⟨a,0,ai⟩ (.string t.name)):=dW (S:=λk=>k=a) (eH (dW ((dR K1 nq).trans U) λ_ _ x=>x.elim) 0 _) (λk M e=>by omega);have b3:=Boxed.named j;generalize aW P ⟨a,0,ai⟩ (.string t.name)=s at *;let⟨Dn,Df,g,y⟩:=H3.split;have a3:base<=s.heap.size:=by have:=u.size;omega
 have R:=b3.c0;have y1:=b3.c1;have y2:=b3.c2;have y3:=b3.c3;have y4:=b3.c4;have y5:=b3.c5;have c0:aU s ⟨p,0,ai⟩=ah (aj I (bB l) J):=g.kE.cell bO;have A1:∀O,aU (bC s O) ⟨p,0,ai⟩=ah (aj I (bB l) J):=λO=>dU (kX g.kE O) bO;have X:∀m O,bD (bC (bF s m) O) base 152 6 (aj I (bB l) J) (bB l) (l.flatMap gu):=λm O=>fT (w:=bF s m) g.rows O;have v:=λm=>Tk s m t;have A:gu t=[.string t.name,ae af (bB t.args),ae af (t.arg 0:Int),ae af (t.arg 1:Int),ae af (t.arg 2:Int),ae af (t.arg 3:Int)]:=rfl;simp only[A] at v;let⟨i0,aa,an,ao,ap⟩:=eB QE;go_region_law(refine fe rfl (.tmp 34) (.tmp 36) 82 rfl base 152 i0 _ 6 56 underlying82 aa an ao ap rfl bS _ (bB l) (l.flatMap gu) (by simp[bq];rfl) (by exact X _ _) ⟨s.heap.size,0,ai⟩ 1 1 [.string t.name,ae af (bB t.args),ae af (t.arg 0:Int),ae af (t.arg 1:Int),ae af (t.arg 2:Int),ae af (t.arg 3:Int)] (by simp[bq]) rfl (by exact v _) cM cJ bO bX ?_;intro v' w4 c q C;let⟨Q4,V,L4,bb,ba⟩:=Bq.appended g _ _ t v' c q C;let⟨b1,z,ag⟩:=ownsRow_succ c;subst ag);all_goals
  go_wp2_with fail;generalize a9:aT (ah (⟨b1,0,ai⟩:aD)) (bB l+1) z=N at *;have b5:Boxed (aW w4 ⟨p,0,ai⟩ N) a t:=du b3 (V.block a (dO b3) (λx=>by
   obtain x|x|x|x:=x
   .exact r x.symm
   .omega
   .omega
   exact B x))
  generalize aW w4 ⟨p,0,ai⟩ N=w5 at *;have d1:aU w5 ⟨p,1,ai⟩=ah (.map (ah nb)):=Q4.kE.cell (i:=1) bO;have R:=b5.c0;have y1:=b5.c1;have y2:=b5.c2;have y3:=b5.c3;have y4:=b5.c4;have y5:=b5.c5;have ad:Maps.size Dn<aY:=by have:=y.Cd;unfold aY;omega
  let⟨Q,ab,H,W⟩:=Bq.aaG Q4.drew f (n:=bB l) bO ad;simp only[jB,A] at ab
  go_region
  have b6:Boxed Q a t:=du (du b5 rfl:Boxed w5.drew a t) (W.block a (dO b5) bO);have R:=b6.c0;have d2:aU Q ⟨p,2,ai⟩=ah (.map (ah fb)):=H.kE.cell (i:=2) bO;have G:=λm=>kP.look (H.drewN m).om (y.tR t.name f.name) Iu underlying81 (vw f.name);cases L:fst l t.name with
  |none=>
   rw[L] at G;simp only[pT,kJ] at G
   go_wp2_with fail;go_quiet(fail)
   go_wp2_with fail;have ac:Maps.size Df<aY:=by have:=y.xU;have:=Zt l;unfold aY;omega
   have z0:∀m,aU (bF Q m) ⟨a,0,ai⟩=ah (.string t.name):=λm=>R;have z2:∀m,aU (bF Q m) ⟨p,2,ai⟩=ah (.map (ah fb)):=λm=>d2;let⟨w7,a8,Q7,K7⟩:=Bq.aaH (H.drewN (nq+1)) f.name (n:=bB l) bO ac
   go_region
   all_goals
    go_wp2_with fail;go_ret;refine⟨rfl,N,Q7.whole (y.Te f hi L E (gT g.lF Ih) (gT g.om Iu)),?_,?_⟩
    .exact((dW u λ_ _ x=>x.elim).trans V).drew.trans ((dW W λ_ _ x=>cI (cB x)).drewN _ |>.trans (dW K7 λ_ _ x=>cI (cI (cB x))))
    .exact L4.imp id λx k M=>bZ u.size (x k M)
  |some i=>
   rw[L] at G;simp only[eQ,iM] at G
   go_wp2_with fail;go_quiet(fail)
   go_wp2_with fail;go_ret;refine⟨rfl,N,(H.drewN _).whole (y.Tc f hi L E (gT g.lF Ih)),?_,?_⟩
   .exact(((dW u λ_ _ x=>x.elim).trans V).drew.trans (dW W λ_ _ x=>cI (cB x))).drewN _
   exact L4.imp id λx k M=>bZ u.size (x k M)
theorem WC(w){base p}{ev}{nb fb}{l}(h:Bk w base p ev nb fb l)(t)(g:t.ok)(d:bB l<1000)(c:base<=w.heap.size):
  aB prog 105 #[pz p,jB t] w λe w'=>e=aw (iz (uX l t:Int))∧∃a,Bk w' base p a nb fb (pq l t)∧bI (me p ev nb fb) w w'∧(aP a=aP ev∨∀k,aP a=ah k->w.heap.size<=k):=by
 cases f:qC l t with
 |some i=>refine(ZC h t g f).mono ?_;grind[uX,pq,bI.mono]
 |none=>refine(ZD h t g f d c).mono ?_;grind[uX,pq]
theorem rj.empty:rj [] (.map []) (.map []):=
 ⟨rfl,λt _=>⟨rfl,rfl⟩,rfl,λn _=>⟨rfl,rfl⟩,by simp,List.nodup_nil,by simp⟩
theorem Qj(w:ay):Bk (bC (bC (bC w (Obj.map #[] 0)) (Obj.map #[] 0)) (aR #[aj ai 0 0,.map (ah w.heap.size),.map (ah (w.heap.size+1))] 84)) w.heap.size (w.heap.size+1+1) (aj ai 0 0) w.heap.size (w.heap.size+1) []:=by
 have c:(bC w (Obj.map #[] 0)).heap.size=hz w+1:=bQ
 have d:(bC (bC w (Obj.map #[] 0)) (Obj.map #[] 0)).heap.size=hz w+1+1:=bQ
 have g:=jC (H:=Unit) w prog 152 (plainElem prog 3);have a:=jC (H:=Unit) (bC w (Obj.map #[] 0)) prog 9 (plainElem prog 3);have r:=ey (bC (bC w (Obj.map #[] 0)) (Obj.map #[] 0)) #[aj ai 0 0,.map (ah (hz w)),.map (ah (hz w+1))] 84;rw[c] at a;rw[d] at r;refine Bq.whole (Dn:=.map []) (Df:=.map []) ⟨eO r ?_,eR _ _ _ _,jP ((g.alloc _).alloc _),jP (a.alloc _),by omega,by omega,by omega,by simp[aP],by simp[aP],by simp[aP],by omega,by omega,by omega⟩ rj.empty;intro i e;have f:i<3:=e;obtain rfl|rfl|rfl:=(by omega:i=0∨i=1∨i=2)<;>rfl
theorem Ig(w:ay):
  aB prog 12 #[] w λe w'=>∃p nb fb,e=aw (pz p)∧Bk w' w.heap.size p (aj ai 0 0) nb fb []∧Below w.heap.size w w':=by
 have a:=@rA prog;go_enter func12,ntmps12
 go_wp2;go_ret;refine⟨_,_,_,rfl,Qj w,?_⟩;exact pA (((bW (λ_=>False) w).alloc _ |>.alloc _).alloc _) (bT _) λ_ x=>x.elim
end
section
open Go.ChangeShapes Go.WideShapes Go.MapKept Go.ChangeMaps Go.WideElems
def adD:(34:aE)<prog.types.size:=ft bV
def Mb:prog.cellsOf 34=2:=bV
def Ul:prog.keyType 34=aK:=bV
def aaV:prog.keyTypeAt 3 34=aK:=bV
theorem pKl:WideMaps.KeyLaw prog 34:=deep_law_laid Ii (m:=3) bO adD aaV (by rw[underlying34])
def wJ:Keyed prog 34:=Dr pKl
def Hi(p:Int×Int):Prop:=La p.1∧La p.2
def nG(p:Int×Int):aA:=.agg #[ae af p.1,ae af p.2]
theorem IG(p:Int×Int):(nG p).formed prog 34=aK:=by simp[nG,Value.formed,underlying34,Mb]
theorem Uh(p:Int×Int)(h:Hi p):∃kl,keyOf prog 34 (nG p)=ah kl:=by
 have g0:(Lit.int .i64 p.1).wf=aK:=nw h.1;have a:(Lit.int .i64 p.2).wf=aK:=nw h.2;unfold keyOf;rw[underlying34];simp only[Ul,IG];obtain⟨m,c⟩:∃m,prog.types.size+1=m+3:=⟨prog.types.size-2,by simp_all⟩
 rw[c];simp[Program.keyLits,underlying34,underlying3,Mb,xw,nG,Value.cells,g0,a]
noncomputable def Dz(p:Int×Int):Lit:=(keyOf prog 34 (nG p)).getD (.bool aL)
variable{p q:Int×Int}
theorem my(h:Hi p):keyOf prog 34 (nG p)=ah (Dz p):=by grind[Dz,Uh]
theorem PN(h:nG p=nG q):p=q:=by grind[nG]
theorem xC(hp:Hi p)(a:Hi q)(h:Dz p=Dz q):p=q:=
 PN (wJ.inj (my hp) (by rw[h];exact my a))
theorem xB(hp:Hi p):∃k,Dz p=k∧WideAt.IsKeyLit k:=by have h:=my hp;generalize Dz p=k at h;exact⟨k,rfl,wJ.key h⟩
def oO(W:ay)(mb:Nat)(l:List (Int×Int)):Prop:=
 ∃D,mL W 34 mb D∧Maps.size D<=bB l∧∀p,Hi p->D.atKey (Dz p) (.lit (.int .i64 0))=.lit (.int .i64 (l.count p:Int))
theorem oO.new(W:ay):oO (bC W (.map #[] 0)) W.heap.size []:=by
 refine⟨_,jP (jC W prog 34 (plainElem prog 3)),?_,λp hp=>?_⟩
 .exact bT _
 rfl
variable{W w:ay}{mb b:Nat}{l:List (Int×Int)}
theorem oO.keep{W':ay}(h:oO W mb l)(k:W'.heap[mb]?=W.heap[mb]?):oO W' mb l:=by obtain⟨D,g,i,j⟩:=h;obtain⟨es,a,c,d,e,f⟩:=g;exact⟨D,⟨es,a,k.trans c,d,e,f⟩,i,j⟩
theorem oO.lt(h:oO W mb l):∃es a,W.heap[mb]?=ah (Obj.map es a):=by obtain⟨D,⟨es,a,c,_⟩,_⟩:=h;grind
theorem oO.look(h:oO W mb l)(hp:Hi p):
  (Instr.lookup 113 (.map (ah mb)) (nG p) aL).run prog W=.ok (iz (l.count p:Int)) W:=by
 obtain⟨D,d,f,g⟩:=h;let⟨c,a,e,_⟩:=zm d wJ underlying113 underlying3 (A7 W) (my hp);grind
theorem Dy{o:Obj}(a:w.heap[b]?=ah o):setBlock w b o=w:=by
 have e:w.heap.setIfInBounds b o=w.heap:=cG
 unfold setBlock;rw[e]
theorem Mt{l:List MapEntry}(h:(l.map λx=>x.key).Nodup){x y:MapEntry}(c:x∈l)(d:y∈l)(e:x.key=y.key):x=y:=by
 induction l with
 |nil=>simp at c
 |cons a r f=>grind
theorem MH{H:Type}{P:Program}{s:ay}{t k e:aE}{R:aA->Option (DataW H×List MemPlace)}{es:Array MapEntry}{a:Nat}(K:WideMaps.KeyLaw P k)(o:P.underlying t=ah (.map k e)){z:aA}(hz:∀u,(zeroValue e).run P u=.ok z u)(f:w.heap[b]?=ah (.map es a))(F:Fit P k R es a){key:aA}{kl:Lit}(c:keyOf P k key=ah kl){i st:aA}(d:(Instr.mapEntry t (.map (ah b)) key).run P w=.ok (.tuple #[i,st]) s):(Instr.lookup t (.map (ah b)) key aL).run P s=.ok i s:=by
 obtain⟨n,v⟩|⟨j,m,n,v,A⟩:=K.find w c es.toList F.keys
 .have g:(Instr.mapEntry t (.map (ah b)) key).run P w=.ok (.tuple #[z,goInt a]) (setBlock w b (.map (es.push ⟨key,z,a⟩) (a+1))):=by
   simp[Instr.mapEntry,gM o,sq f,K.check w aL c,n,hz,MapKept.run_setObj_map _ f,Result.andThen,setBlock]
  rw[d] at g;simp only[Result.ok.injEq,Value.tuple.injEq,Array.mk.injEq,Du] at g;obtain⟨⟨rfl,_⟩,rfl⟩:=g;have y:=heap_setBlock_same (w:=w) f (.map (es.push ⟨key,i,a⟩) (a+1));rcases K.find (setBlock w b (.map (es.push ⟨key,i,a⟩) (a+1))) c (es.push ⟨key,i,a⟩).toList (by
   intro x r;simp only[Array.toList_push,cU,dL] at r;obtain r|rfl:=r
   .exact F.keys x r
   grind) with⟨g1,g2⟩|⟨j,e1,g1,g2,g3⟩
  .exact absurd rfl (g2 ⟨key,i,a⟩ bQ)
  have C:=cH g2;simp only[Array.toList_push,cU,dL] at C;have D:e1.val=i:=cG
  rw[D] at g1;simp[Instr.lookup,gM o,sq y,K.check _ _ c,Result.andThen];simp_all
 have B:es[j]?=ah m:=cG
 have h:es.modify j (λe=>{e with key:=key})=es:=by
  apply Array.ext';rw[Array.toList_modify,modify_eq_set _ _ _ _ v];have:({m with key:=key}:MapEntry)=m:=by rw[<-A]
  rw[this];exact set_self _ _ _ v
 have g:(Instr.mapEntry t (.map (ah b)) key).run P w=.ok (.tuple #[m.val,goInt m.born]) (setBlock w b (.map es a)):=by simp[Instr.mapEntry,gM o,sq f,K.check w aL c,n,B,A,K.stays w c,h,MapKept.run_setObj_map _ f,Result.andThen,setBlock]
 rw[d] at g;simp only[Result.ok.injEq,Value.tuple.injEq,Array.mk.injEq,Du] at g;obtain⟨⟨rfl,_⟩,rfl⟩:=g;rw[Dy f];simp[Instr.lookup,gM o,sq f,K.check _ _ c,n,Result.andThen]
theorem oO.inc(h:oO W mb l)(hp:Hi p)(hl:bB l<140737488355328):
  ∃(o:aA)(st:Nat)(k r:ay),(Instr.mapEntry 113 (.map (ah mb)) (nG p)).run prog W=.ok (.tuple #[o,goInt st]) k∧
   (Instr.entryStore 113 (.map (ah mb)) (goInt st) (iz ((l.count p+1:Nat):Int))).run prog k=.ok () r∧oO r mb (l++[p])∧dV mb W r∧(Instr.lookup 113 (.map (ah mb)) (nG p) aL).run prog k=.ok (iz (l.count p:Int)) k:=by
 have i:=h.look hp;obtain⟨D,u,Q,R⟩:=h;have S:l.count p<=bB l:=cG
 let⟨C,T,I,f⟩:=ke u wJ underlying113 cJ (my hp) (ou (H:=Unit) underlying3 (nw (n:=((l.count p+1:Nat):Int)) bO));have j:=gT u wJ;obtain⟨es,s,m,F,_,_⟩:=u;let⟨o,st,g,a,d,A,z⟩:=entry_then_store pKl underlying113 A7 m F (my hp);let⟨t,c,x,L⟩:=z (setBlock W mb (.map g a)) (iz ((l.count p+1:Nat):Int)) (heap_setBlock_same m _);have e:setBlock (setBlock W mb (.map g a)) mb (.map t c)=C:=by simp_all[setBlock]
 refine⟨o,st,_,C,d,by rw[x,e],⟨_,jP I,?_,λq J=>?_⟩,jw f.grown,?_⟩
 .grind[size_put,List.length_append,List.length_singleton]
 .by_cases e:q=p
  .subst e;let⟨U,e,G⟩:=xB J;rw[e,atKey_put_same j.isMap G,Sf];simp
  grind[List.count,atKey_put_other,xC,List.count_eq_zero]
 have v:=MH pKl underlying113 A7 m F (my hp) d;rw[v];have:o=iz (l.count p:Int):=by
  obtain⟨E,B,_⟩|⟨O,y,g0,E,B,_⟩:=Maps.fit_look aL wJ underlying113 (A7 W) m F (my hp)
  .grind
  rw[B] at i;simp only[gL,jF,Result.ok.injEq,sk] at i;obtain⟨P,M,N,V⟩|⟨M,N⟩:=A
  .let⟨X,Y,Z⟩:=F.stamped;grind[Mt]
  grind
 rw[this]
end
section
open Go.ChangeShapes Go.WideShapes Go.MapKept Go.ChangeMaps Go.WideElems
def mA(ps:List (Int×Int))(p:Int×Int):Nat:=if p∈ps then ps.idxOf p+1 else 0
variable{ps l:List (Int×Int)}{p:Int×Int}
theorem PY(h:p∉ps)(q:Int×Int):mA (ps++[p]) q=if q=p then bB ps+1 else mA ps q:=by grind[mA]
theorem Yr(ps:List (Int×Int))(p:Int×Int):mA ps p<=bB ps:=by grind[mA]
def pP(W:ay)(ab:Nat)(ps:List (Int×Int)):Prop:=
 ∃D,mL W 34 ab D∧Maps.size D<=bB ps∧∀p,Hi p->D.atKey (Dz p) (.lit (.int .i64 0))=.lit (.int .i64 (mA ps p:Int))
theorem pP.new(W:ay):pP (bC W (.map #[] 0)) W.heap.size []:=by
 refine⟨_,jP (jC W prog 34 (plainElem prog 3)),?_,λp hp=>?_⟩
 .exact bT _
 rfl
variable{W W':ay}{mb ab:Nat}
theorem pP.keep(h:pP W mb l)(j:W'.heap[mb]?=W.heap[mb]?):pP W' mb l:=by obtain⟨D,f,g,i⟩:=h;obtain⟨es,a,b,c,d,e⟩:=f;exact⟨D,⟨es,a,j.trans b,c,d,e⟩,g,i⟩
theorem pP.lt(h:pP W mb l):∃es a,W.heap[mb]?=ah (Obj.map es a):=by obtain⟨D,⟨es,a,b,_⟩,_⟩:=h;exact⟨es,a,b⟩
theorem pP.look(h:pP W mb l)(hp:Hi p):
  (Instr.lookup 113 (.map (ah mb)) (nG p) aL).run prog W=.ok (iz (mA l p:Int)) W:=by
 obtain⟨D,b,e,f⟩:=h;let⟨c,a,d,_⟩:=zm b wJ underlying113 underlying3 (A7 W) (my hp);grind
theorem pP.store(h:pP W mb l)(hp:Hi p)(j:p∉l)(hl:bB l<140737488355328):
  ∃c,(Instr.mapUpdate 113 (.map (ah mb)) (nG p) (iz ((bB l+1:Nat):Int))).run prog W=.ok () c∧pP c mb (l++[p])∧dV mb W c:=by
 obtain⟨D,f,r,g⟩:=h;let⟨o,m,k,a⟩:=ke f wJ underlying113 cJ (my hp) (ou (H:=Unit) underlying3 (nw (n:=((bB l+1:Nat):Int)) bO));have b:=gT f wJ;refine⟨o,m,⟨_,jP k,?_,λq d=>?_⟩,jw a.grown⟩
 .grind[size_put,List.length_append,List.length_singleton]
 rw[PY j];by_cases e:q=p
 .subst e;let⟨s,e,i⟩:=xB d;rw[e,atKey_put_same b.isMap i];simp
 rw[atKey_put_other λx=>e (xC d hp x),g q d,cC e]
abbrev Sc:=Nat×List (List Int)
def mkC(ab:Nat)(n:Nat)(rv:aA):Nat->aA:=λj=>if j=0 then .map (ah ab) else if j=1 then ae af n else rv
def Kv(rs:List aA):Prop:=∀(i j g n m c c':Nat),rs[i]?=ah (aj (ah ⟨g,0,ai⟩) n c)->rs[j]?=ah (aj (ah ⟨g,0,ai⟩) m c')->i=j
structure Mk(S:Nat->Prop)(W:ay)(mb ab:Nat)(ps:List (Int×Int))(rv:aA)(st:Sc):Prop where
 lt:∀k,S k->k<W.heap.size
 Nt:S mb
 XY:S ab
 Po:∀k,aP rv=ah k->S k
 cells:bE W mb 226 3 (mkC ab st.1 rv)
 map:pP W ab ps
 rows:∃rs:List aA,bD W 0 39 1 rv (bB rs) rs∧(bB rs=st.2.length∧Kv rs)∧∀(i:Nat)(c:List Int),st.2[i]?=ah c->∃g cap,rs[i]?=ah (aj (ah ⟨g,0,ai⟩) (bB c) cap)∧S g∧Rw W g c
theorem mg{base size k:Nat}{d:aE}{v:aA}{f:List aA}(h:bD W base d size v k f)(n:∀b,aP v=ah b->W'.heap[b]?=W.heap[b]?):bD W' base d size v k f:=by
 refine⟨h.1,?_⟩;obtain e|⟨g,a,c,e,i,j,m⟩:=h.2
 .exact cB e
 exact cI ⟨g,a,c,e,i,(n g (by rw[e];rfl)).trans j,m⟩
variable{S:Nat->Prop}{rv:aA}
theorem Mk.keep{st:Sc}(h:Mk S W mb ab ps rv st)(hs:W.heap.size<=W'.heap.size)(a:∀k,S k->W'.heap[k]?=W.heap[k]?):Mk S W' mb ab ps rv st:=by let⟨t,j,m,n⟩:=h.rows;refine⟨λk q=>cQ (h.lt k q) hs,h.Nt,h.XY,h.Po,h.cells.of_block (a _ h.Nt),h.map.keep (a _ h.XY),t,mg j λb e=>a b (h.Po b e),m,λi c o=>?_⟩;let⟨g,d,r,f,s⟩:=n i c o;exact⟨g,d,r,f,s.block (a g f)⟩
structure mY(S:Nat->Prop)(w:ay)(rv:aA)(S':Nat->Prop)(w':ay)(rv':aA)(mb ab:Nat)(ps:List (Int×Int))(st':Sc):Prop where
 is:Mk S' w' mb ab ps rv' st'
 new:∀k,S' k->S k∨w.heap.size<=k
 at_:aP rv'=aP rv∨∀k,aP rv'=ah k->w.heap.size<=k
 kept:bI (λk=>k=mb∨aP rv=ah k) w w'
def Made(S:Nat->Prop)(w w':ay)(mb ab:Nat)(ps:List (Int×Int))(rv:aA)(st':Sc):Prop:=∃S' rv',mY S w rv S' w' rv' mb ab ps st'
theorem mY.trans{S1 S2:Nat->Prop}{w m n:ay}{c d:aA}{h f:Sc}(a:mY S w rv S1 m c mb ab ps h)(b:mY S1 m c S2 n d mb ab ps f):mY S w rv S2 n d mb ab ps f:=by
 have o:=a.kept.size;refine⟨b.is,λk g=>?_,?_,?_⟩
 .obtain e|e:=b.new k g
  .exact a.new k e
  exact cI bO
 .obtain e|e:=b.at_
  .rw[e];exact a.at_
  grind
 refine⟨b.kept.os.trans a.kept.os,b.kept.tape.trans a.kept.tape,b.kept.output.trans a.kept.output,bZ o b.kept.size,λk g j=>?_⟩;refine(b.kept.block k (cQ g o) ?_).trans (a.kept.block k g j);rintro(e|e)
 .exact j (cB e)
 obtain i|i:=a.at_
 .grind
 have:=i k e;omega
def Jy:(prog.info? 39).map (λi=>(i.zero,i.size,i.bytes))=ah (ah (aj ai 0 0),1,24):=bV
theorem zu{w}{S}{mb ab}{rv}(st)(h:Mk S w mb ab ps rv st)(hs:st.1<=1099511627776):
  aB prog 117 #[pz mb] w λe r=>e=aw (iz ((st.1+1:Nat):Int))∧Mk S r mb ab ps rv (st.1+1,st.2)∧bI (λk=>k=mb) w r:=by
 have c1:cz w mb 1 (iz st.1):=h.cells.cell (i:=1) bO;have D:=h.cells.frozen 1;have s:Hid (Mk S (aW w (az mb 1) (iz ((st.1:Int)+1))) mb ab ps rv (st.1+1,st.2)∧bI (λk=>k=mb) w (aW w (az mb 1) (iz ((st.1:Int)+1)))):=by
  have K:bI (λk=>k=mb) w (aW w (az mb 1) (iz ((st.1:Int)+1))):=eY (S:=λk=>k=mb) (bW _ w) (p:=az mb 1) rfl _;let⟨A,m,t,u⟩:=h.rows;have nb:∀k,k<hz w->k≠mb->(aW w (az mb 1) (iz ((st.1:Int)+1))).heap[k]?=w.heap[k]?:=λk d f=>K.block k d f;refine⟨⟨λk d=>cQ (h.lt k d) K.size,h.Nt,h.XY,h.Po,?_,h.map.keep (nb _ (h.lt _ h.XY) ?_),A,mg m λb e=>nb b (h.lt _ (h.Po b e)) ?_,t,λi c y=>?_⟩,K⟩
  .refine(h.cells.set 1 _).congr λj E=>?_;grind[mkC]
  .rintro rfl;let⟨es,B,e⟩:=h.map.lt;let⟨c,n,_⟩:=h.cells;rw[e] at n;cases n
  .rintro rfl;exact dY h.cells bS m e
  let⟨g,a,z,o,q⟩:=u i c y;refine⟨g,a,z,o,q.block (nb g (h.lt _ o) ?_)⟩;rintro rfl;obtain⟨N,F,_,⟨c1,v,_⟩,_⟩:=q;let⟨c2,x,_⟩:=h.cells;grind
 have C:IntKind.i64.wrap ((st.1:Int)+1)=(st.1:Int)+1:=aew
 go_enter func117,ntmps117
 go_wp2;go_ret;exact⟨by simp,s.out⟩
end
section
theorem ph(w:ay)(a:aA)(f:aE):∀j u,[a][j]?=ah u->aU (bC w (aq #[a] f)) ((az w.heap.size 0:aD).add j)=ah u:=by
 intro j u d;have h:=ey w #[a] f
 match j,d with
 |0,d=>simp at d;subst d;exact h.cell (i:=0) bQ
variable{w b w' a:ay}{base n mb ab g cap c r i j p k nb fb x:Nat}{xs:List aA}
theorem yH{e:aE}{size:Nat}{v:aA}(h:bD w base e size v n xs):∃a c,v=aj a n c:=by
 obtain⟨rfl,f⟩|⟨b,cap,d,rfl,_⟩:=h.2
 .grind
 exact⟨_,cap,rfl⟩
variable{S X:Nat->Prop}{ps:List (Int×Int)}{rv ev ea eb ev':aA}{st:Sc}
theorem Mk.said{u:ay}{O:Obj}{d:aA}(h:Mk S w mb ab ps rv st){f:List aA}{c:List Int}(z:(bB f=st.2.length∧Kv f)∧∀(i:Nat)(c:List Int),st.2[i]?=ah c->∃g cap,f[i]?=ah (aj (ah (az g 0)) (bB c) cap)∧S g∧Rw w g c)(hg:Rw w g c)(R:¬S g)(y:bD w 0 39 1 rv (bB f) f)(A:bD u 0 39 1 d (bB f+1) (f++[aj (ah (az g 0)) (bB c) cap]))(v:bH (bC w O) u (aP rv))(Q:aP d=aP rv∨aP d=ah (bC w O).heap.size):
  Mk (λk=>S k∨k=g∨aP d=ah k) (aW u (az mb 2) d) mb ab ps d (st.1,st.2++[c])∧bI (λk=>k=mb∨aP rv=ah k) w (aW u (az mb 2) d)∧(aP d=aP rv∨∀k,aP d=ah k->w.heap.size<=k):=by
 have U:aP rv≠ah mb:=dY h.cells bS y;have K8:bI (λk=>k=mb∨aP rv=ah k) w u:=gA ((bW _ w).alloc O) v λk e=>cI e;have I:bE u mb 226 3 (mkC ab st.1 rv):=h.cells.of_block ((v.block _ (by simp;have:=h.cells.lt;omega) λe=>U e.symm).trans (dB w O _ h.cells.lt));have aa:aP d≠ah mb:=dY I bS A;have L:bI (λk=>k=mb∨aP rv=ah k) w (aW u (az mb 2) d):=K8.setCell (p:=az mb 2) (cB rfl) d;have nb:∀k,k<hz w->k≠mb->aP rv≠ah k->(aW u (az mb 2) d).heap[k]?=w.heap[k]?:=λk E h1 h2=>L.block k E cG;have ag:∀{g:Nat}{c:List Int},Rw w g c->Rw (aW u (az mb 2) d) g c:=λ{g c} hr=>by
  refine hr.block (nb g hr.lt ?_ ?_)
  .rintro rfl;obtain⟨N,F,_,⟨c1,ac,_⟩,_⟩:=hr;let⟨c2,ad,_⟩:=h.cells;grind
  obtain⟨N,F,_,V,_⟩:=hr;exact dY V bS y
 have J:∀k,aP d=ah k->k<hz u:=λk E=>by
  obtain⟨e,_⟩|⟨q,G,M,e,B,H,_⟩:=A.2
  .rw[e] at E;simp[aP] at E
  grind[aP]
 have W:(aW u (az mb 2) d).heap.size=hz u:=by simp[aW]
 refine⟨⟨λk E=>?_,cB h.Nt,cB h.XY,λk e=>cI (cI e),?_,?_,f++[aj (ah (az g 0)) (bB c) cap],?_,⟨by simp[z.1.1],?_⟩,λi C D=>?_⟩,L,?_⟩
 .obtain e|rfl|e:=E
  .exact cQ (h.lt k e) L.size
  .exact cQ hg.lt L.size
  rw[W];exact J k e
 .refine(I.set 2 d).congr λj T=>?_;grind[mkC]
 .refine h.map.keep (nb ab (h.lt _ h.XY) ?_ ?_)
  .rintro rfl;let⟨es,ck,e⟩:=h.map.lt;let⟨c,Z,_⟩:=h.cells;rw[e] at Z;cases Z
  intro e;let⟨es,ck,e'⟩:=h.map.lt;obtain⟨B,_⟩|⟨q,G,M,B,_,H,_⟩:=y.2
  .rw[B] at e;simp[aP] at e
  grind[aP]
 .grind[ownsRow_setCell_other]
 .have yO:∀(i q n C:Nat),i<bB f->f[i]?=ah (aj (ah (az q 0)) n C)->S q:=λi q n C D e=>by
   let⟨g2,Y,q1,q2,_⟩:=z.2 i _ (bP (by rw[<-z.1.1];exact D));rw[e] at q1;cases q1
   exact q2
  have new:∀(i q n C:Nat),¬i<bB f->(f++[aT (ah (az g 0)) (bB c) cap])[i]?=ah (aj (ah (az q 0)) n C)->i=bB f∧q=g:=λi q n C D e=>by
   rw[dr bO] at e;have:=(bU.1 e).1;simp at this;have e0:i-bB f=0:=bO
   rw[e0] at e;simp at e;exact⟨by omega,e.1.symm⟩
  intro i j q n m c1 c2 B H;by_cases D:i<bB f
  .rw[df D] at B;by_cases T:j<bB f
   .rw[df T] at H;exact z.1.2 i j q n m c1 c2 B H
   obtain⟨_,rfl⟩:=new j q m c2 T H;exact absurd (yO i q n c1 D B) R
  grind
 .grind
 obtain e|e:=Q
 .exact cB e
 simp_all
theorem aaP{w}{S}{mb ab}{rv}{st}(h:Mk S w mb ab ps rv st)(hs:st.2.length<=1099511627776){g}(cap){c}(V:Rw w g c)(v:¬S g):
  aB prog 118 #[pz mb,aj (ah (az g 0)) (bB c) cap] w λe w'=>e=aw (.tuple #[])∧∃Q m,Mk Q w' mb ab ps m (st.1,st.2++[c])∧(∀k,Q k->S k∨k=g∨w.heap.size<=k)∧(aP m=aP rv∨∀k,aP m=ah k->w.heap.size<=k)∧bI (λk=>k=mb∨aP rv=ah k) w w':=by
 let⟨z,y,B,U⟩:=h.rows;let⟨J,L,hv⟩:=yH y;subst hv;have c2:cz w mb 2 (aj J (bB z) L):=h.cells.cell (i:=2) bO;have Z:=h.cells.frozen 2;let⟨i0,C,G,H,I⟩:=eB Jy;have N:=bL (b9 h (b9 B U));have A:Hid (_):=h.Po;have D:=h.cells.lt;have E:aP (aT J (bB z) L)≠ah mb:=dY h.cells bS y;have O:=bL (b9 V v);have aa:bB z<=1099511627776:=by rw[B.1];exact hs
 clear h B U V v;go_enter func118,ntmps118
 go_wp2_with(first|(at_builtin;refine dM ?_));delta aH;refine fX _ rfl _ _ 116 rfl 0 39 i0 _ 1 24 underlying116 C G H I rfl bS _ _ _ rfl (y.alloc _) (az _ 0) 1 1 [aj (ah (az g 0)) (bB c) cap] rfl rfl (ph w _ _) cM cJ bO bQ ?_;intro v8 M f d _ q;have u:M.heap[mb]?=w.heap[mb]?:=(d.block _ bX λe=>E e.symm).trans (dB w _ _ D);have d2:cz M mb 2 (aj J (bB z) L):=(cL (a:=az mb 2) u).trans c2;have e2:bG M (az mb 2)=aL:=(jZ (a:=az mb 2) u).trans Z;let⟨g8,R,F⟩:=ownsRow_succ f;have Y:Hid (_∧_∧_):=N.out.1.said N.out.2 O.out.1 O.out.2 y f d q;subst F
 go_wp2;refine⟨rfl,.tuple #[],by simp[aI,results118],?_⟩;let⟨m1,m2,W⟩:=Y.out;refine⟨rfl,_,_,m1,λk hk=>?_,W,m2⟩;obtain e|e|e:=hk
 .exact cB e
 .exact cI (cB e)
 obtain T|T:=W
 .rw[T] at e;exact cB (A.out k e)
 grind
theorem Tz(w:ay)(c:List Int)(f:aE)(d:f=3):Rw (bC w (aq (c.map λx=>aS .i64 x).toArray f)) w.heap.size c:=by subst d;have m:=ey w (c.map λx=>aS .i64 x).toArray 3;exact⟨_,_,by simp,m,λj x h=>by simp[h]⟩
theorem Made.say(h:Mk S w mb ab ps rv st)(hs:st.2.length<=1099511627776)(cap c):
  aB prog 118 #[ak (ah ⟨mb,0,ai⟩),aj (ah ⟨w.heap.size,0,ai⟩) (bB c) cap] (bC w (aq (c.map λx=>aS .i64 x).toArray 3)) λe w'=>e=aw (.tuple #[])∧Made S w w' mb ab ps rv (st.1,st.2++[c]):=by
 have q:Mk S (bC w (aq (c.map λx=>aS .i64 x).toArray 3)) mb ab ps rv st:=h.keep bQ λk d=>dB w _ k (h.lt k d);refine(aaP q hs cap (Tz w c _ rfl) λu=>absurd (h.lt _ u) bO).mono ?_;rintro e w' ⟨rfl,m,f,v,y,z,A⟩;refine⟨rfl,m,f,v,λk d=>?_,z.imp id λe k d=>?_,((bW _ w).alloc _).trans A⟩
 .obtain e|e|e:=y k d
  .exact cB e
  .exact cI bO
  exact cI (by simp at e;omega)
 have:=e k d;simp at this;omega
theorem ZA(w){S}{mb ab}{rv}{st}(h:Mk S w mb ab ps rv st)(hs:st.1<=1099511627776)(U:st.2.length<=1073741824)(p q)(hp:p.natAbs<=1099511627776)(hq:q.natAbs<=1099511627776):
  aB prog 158 #[ak (ah ⟨mb,0,ai⟩),ae af p,ae af q] w λe w'=>e=aw (ae af ((st.1+1:Nat):Int))∧Made S w w' mb ab ps rv (st.1+1,st.2++[[-((st.1+1:Nat):Int),p],[-((st.1+1:Nat):Int),q],[((st.1+1:Nat):Int),-p,-q]]):=by
 have V:=zu st h hs;have M:∀(S:Nat->Prop)(w:ay)(rv:aA)(st:Sc),Mk S w mb ab ps rv st->st.2.length<=1099511627776->∀(cap:Nat)(c:List Int),aB prog 118 #[ak (ah ⟨mb,0,ai⟩),aj (ah ⟨w.heap.size,0,ai⟩) (bB c) cap] (bC w (aq (c.map λx=>aS .i64 x).toArray 3)) λe w'=>e=aw (.tuple #[])∧Made S w w' mb ab ps rv (st.1,st.2++[c]):=λS w rv st h hs cap c=>Made.say h hs cap c;have d:=bL M;have Z:IntKind.i64.wrap (-(((st.1+1:Nat):Int)))=-((st.1+1:Nat):Int):=aew
 have e2:IntKind.i64.wrap (-p)=-p:=aew
 have e3:IntKind.i64.wrap (-q)=-q:=aew
 generalize hx:((st.1+1:Nat):Int)=x at *;obtain⟨n,cs⟩:=st;simp only at *;go_enter func158,ntmps158
 go_wp2_with(go_at_call 117;refine V.mono ?_;rintro e B ⟨rfl,y,F⟩;refine dM ?_);delta aH;have C:mY S w rv S B rv mb ab ps (n+1,cs):=⟨y,λk T=>cB T,cB rfl,F.mono λ_ _ e=>cB e⟩
 have O:=d.out S B rv _ y bX 2 [-x,p];apply_assumption
 go_wp2_with(go_at_call 118;refine O.mono ?_;rintro e W ⟨rfl,G⟩;refine dM ?_);delta aH;obtain⟨S2,f,z⟩:=G;have D:=C.trans z;have Q:=d.out S2 W f _ z.is bX 2 [-x,q];apply_assumption
 go_wp2_with(go_at_call 118;refine Q.mono ?_;rintro e Y ⟨rfl,H⟩;refine dM ?_);delta aH;obtain⟨J,m,A⟩:=H;have E:=D.trans A;have R:=d.out J Y m _ A.is bX 3 [x,-p,-q];apply_assumption
 go_wp2_with(go_at_call 118;refine R.mono ?_;rintro e w4 ⟨rfl,I⟩);go_ret;obtain⟨L,u,N⟩:=I;have v:=E.trans N;simp only[fW,eU,ff] at v;exact⟨rfl,L,u,v⟩
def im(s j i:Nat):Bool:=decide (i<s∨s+j<=i)
structure Out(l r:List Tm)(j:Nat)(Dn Df:DataW Unit):Prop where
 Cd:Maps.size Dn+j=bB (l++r)
 xL:∀t:Tm,t.ok->kP Dn (se t) ((qC (l++r) t).filter (im (bB l) j))
 xU:Maps.size Df=bB ((aO (bB (l++r))).filter λi=>Cv (l++r) i&&im (bB l) j i)
 tR:∀n:ByteArray,n.size<=6->kP Df (rG n) ((fst (l++r) n).filter (im (bB l) j))
theorem Fl(s i):im s 0 i=aK:=by grind[im]
theorem filter_all{d:Type}(p:d->Bool)(h:∀x,p x=aK)(o:Option d):o.filter p=o:=by cases o<;>simp[Option.filter,h]
variable{l l':List Tm}{Dn Df:DataW Unit}
theorem Out.start{r:List Tm}(T:rj (l++r) Dn Df):Out l r 0 Dn Df:=by
 refine⟨T.Cd,λt f=>?_,?_,λn d=>?_⟩
 .rw[filter_all _ (Fl _)];exact T.xL t f
 .rw[T.xU];grind[DL,List.filter_congr,Fl]
 rw[filter_all _ (Fl _)];exact T.tR n d
variable{e t:Tm}
theorem IY(h:qC l t=ah i):l[i]?=ah t:=by let⟨d,hp,_⟩:=fJ.1 h;grind
theorem aa1(m:l.Nodup)(h:l[i]?=ah t):qC l t=ah i:=by
 let⟨q,e⟩:=bU.1 h;cases d:qC l t with
 |none=>grind[absurd,List.getElem_mem,I0]
 |some k=>let⟨u,f⟩:=bU.1 (IY d);grind[List.getElem_inj]
theorem uw{s:Nat}(h:i≠s+j):im s (j+1) i=im s j i:=by grind[im]
def uy(s j):im s (j+1) (s+j)=aL:=cP bO
def ux(s j):im s j (s+j)=aK:=cZ bO
variable{o:Option Nat}
theorem uQ{s:Nat}(h:o≠ah (s+j)):o.filter (im s (j+1))=o.filter (im s j):=by
 cases o with
 |none=>rfl
 |some i=>grind[Option.filter,uw]
theorem Out.acm{r:List Tm}(O:Out l r j Dn Df)(z:(l++r).Nodup)(B:r[j]?=ah e)(m:e.ok)(v:Tidy Dn):
  Maps.size (Dn.del (se e))+(j+1)=bB (l++r)∧∀t:Tm,t.ok->kP (Dn.del (se e)) (se t) ((qC (l++r) t).filter (im (bB l) (j+1))):=by
 have y:(l++r)[bB l+j]?=ah e:=cG
 have A:=aa1 z y;constructor
 .have u:=size_del (k:=se e) v;have d:=(O.xL e m).1;rw[A] at d;simp[Option.filter,ux] at d;rw[d] at u;have:=O.Cd;grind
 intro t q;by_cases h:t=e
 .simp_all[Option.filter,uy,Lc]
 have f:qC (l++r) t≠ah (bB l+j):=λx=>by
  have:=IY x;grind
 rw[uQ f];exact(O.xL t q).ze λx=>h (JQ q m x)
theorem Gj{p q:Nat->Bool}(d:k<n)(hp:p k=aK)(f:q k=aL)(h:∀i,i≠k->q i=p i):bB ((aO n).filter q)+1=bB ((aO n).filter p):=by
 induction n with
 |zero=>omega
 |succ n m=>grind[aO,List.range_succ,List.length_append,List.filter_congr]
theorem Vx{n:ByteArray}(h:fst l n=ah i)(d:l[i]?=ah t):t.name=n:=by grind[CH,Option.some.inj]
theorem Out.acC{r:List Tm}(O:Out l r j Dn Df)(G:r[j]?=ah e)(C:e.ok)(z:fst (l++r) e.name=ah (bB l+j))(y:Tidy Df):
  Maps.size (Df.del (rG e.name))=bB ((aO (bB (l++r))).filter λi=>Cv (l++r) i&&im (bB l) (j+1) i)∧
   ∀n:ByteArray,n.size<=6->kP (Df.del (rG e.name)) (rG n) ((fst (l++r) n).filter (im (bB l) (j+1))):=by
 have F:(l++r)[bB l+j]?=ah e:=cG
 have f:bB l+j<bB (l++r):=cG
 constructor
 .have u:=size_del (k:=rG e.name) y;have d:=(O.tR e.name C.name).1;rw[z] at d;simp[Option.filter,ux] at d;rw[d] at u;have D:=O.xU;have v:Cv (l++r) (bB l+j)=aK:=by grind[Cv]
  have E:=Gj (p:=λi=>Cv (l++r) i&&im (bB l) j i) (q:=λi=>Cv (l++r) i&&im (bB l) (j+1) i) f (by simp[v,ux]) (by simp[uy]) (λi A=>by simp only[uw A]);grind
 intro n B;by_cases h:n=e.name
 .simp_all[Option.filter,uy,Lc]
 have m:fst (l++r) n≠ah (bB l+j):=by grind[Vx]
 rw[uQ m];exact(O.tR n B).ze λx=>h (Ir x)
theorem Out.abe{r:List Tm}(O:Out l r j Dn Df)(m:r[j]?=ah e)(q:fst (l++r) e.name≠ah (bB l+j)):
  Maps.size Df=bB ((aO (bB (l++r))).filter λi=>Cv (l++r) i&&im (bB l) (j+1) i)∧
   ∀n:ByteArray,n.size<=6->kP Df (rG n) ((fst (l++r) n).filter (im (bB l) (j+1))):=by
 have h:(l++r)[bB l+j]?=ah e:=cG
 constructor
 .rw[O.xU];grind[Cv,List.filter_congr,decide_eq_false,uw]
 intro n f;have d:fst (l++r) n≠ah (bB l+j):=by grind[Vx]
 rw[uQ d];exact O.tR n f
theorem Mn{r:List Tm}(f:r[j]?=ah e):
  (((fst (l++r) e.name).filter (im (bB l) j)).getD 0=bB l+j)↔fst (l++r) e.name=ah (bB l+j):=by
 have d:(l++r)[bB l+j]?=ah e:=cG
 let⟨i,h⟩:=Gf (cH d);grind[im,Option.filter]
theorem Yv(l r t):(qC (l++r) t).filter (im (bB l) (bB r))=qC l t:=by
 unfold qC;rw[List.findIdx?_append];cases h:List.findIdx? (λx=>decide (x=t)) l with
 |some i=>grind[im,Option.filter,List.findIdx?_eq_some_iff_getElem,decide_eq_true]
 |none=>
  cases d:List.findIdx? (λx=>decide (x=t)) r with
  |none=>rfl
  |some k=>grind[im,Option.filter,List.findIdx?_eq_some_iff_getElem,decide_eq_false]
theorem Zb(l r n):(fst (l++r) n).filter (im (bB l) (bB r))=fst l n:=by
 unfold fst;rw[List.findIdx?_append];cases h:List.findIdx? (λx=>decide (x.name=n)) l with
 |some i=>grind[im,Option.filter,List.findIdx?_eq_some_iff_getElem,decide_eq_true]
 |none=>
  cases d:List.findIdx? (λx=>decide (x.name=n)) r with
  |none=>rfl
  |some k=>grind[im,Option.filter,List.findIdx?_eq_some_iff_getElem,decide_eq_false]
theorem YQ(l r)(d:i<bB l):Cv (l++r) i=Cv l i:=by grind[Cv,fst,List.getElem?_append_left,List.getElem?_eq_getElem,Gf,List.getElem_mem]
theorem Rh(l r):bB ((aO (bB (l++r))).filter λi=>Cv (l++r) i&&im (bB l) (bB r) i)=DL l:=by
 unfold DL;rw[cR,List.range_add,Nl,cR];have f:(aO (bB l)).filter (λi=>Cv (l++r) i&&im (bB l) (bB r) i)=(aO (bB l)).filter (Cv l):=sy (λi d=>by have h:=j6.1 d;have:im (bB l) (bB r) i=aK:=cZ bO;rw[YQ l r h,this];simp)
 grind[aO,Cv,im,List.filter_eq_nil_iff,decide_eq_false]
theorem Out.done{r:List Tm}(O:Out l r (bB r) Dn Df)(h:∀t∈l,t.ok)(d:l.Nodup)(hs:bB l<=1000):rj l Dn Df:=by
 refine⟨?_,λt m=>?_,?_,λn f=>?_,h,d,hs⟩
 .have:=O.Cd;grind
 .rw[<-Yv l r];exact O.xL t m
 .rw[O.xU];exact Rh l r
 rw[<-Zb l r];exact O.tR n f
def qh(w:ay)(base g cap k:Nat)(xs:List aA):Prop:=
 ∃cur,base<=g∧w.heap[g]?=ah (.cells cur 152 (0,0))∧cap<=aY∧cur.size=cap*6∧cur.toList.take (k*6)=xs
theorem qh.owns(h:qh w base g cap k xs)(y:k<=cap):bD w base 152 6 (aj (ah (az g 0)) k cap) k xs:=by obtain⟨d,f,m,q,u,v⟩:=h;refine⟨?_,cI ⟨g,cap,d,rfl,f,m,y,q,u,v⟩⟩;grind
theorem qh.of(h:bD w base 152 6 (aj (ah (az g 0)) n cap) n xs)(B:k<=n):qh w base g cap k (xs.take (k*6))∧n<=cap:=by
 obtain⟨e,_⟩|⟨z,f,d,e,m,q,u,v,y,A⟩:=h.2
 .cases e
 injection e with e1 e2 e3;injection e1 with e1;injection e1 with e1 _ _;subst e1;subst e3;refine⟨⟨d,m,q,v,y,?_⟩,u⟩;grind
theorem qh.set(h:qh w base g cap k xs){o:Nat}(z:k*6<=o)(u):qh (aW w (az g o) u) base g cap k xs:=by
 obtain⟨d,m,f,q,v,y⟩:=h;refine⟨d.setIfInBounds o u,m,?_,q,by simpa using v,?_⟩
 .rw[setCell_eq_setRow w g o d _ (0,0) _ f,setRow_heap w g _ _ _ _ f]
 grind[List.take_set,List.set_eq_of_length_le]
theorem qh.ie{base g cap k:Nat}{xs:List aA}:∀(d:List aA)(o:Nat)(w:ay),qh w base g cap k xs->k*6<=o->qh (w.setCells g o d) base g cap k xs
 | [],_,_,h,_=>h
 |v::d,o,w,h,f=>qh.ie d (o+1) (aW w (az g o) v) (h.set f v) bO
variable{P:Program}
theorem BG(w)(t e C:aE)(z)(A:P.underlying t=ah (.slice e))(B:∀w,(zeroValue e).run P w=.ok z w)(b o n c)(D:0<n)(d)(h:(Builtin.zeroCells z.cells n).toList=d)(q:∀v∈d,v.oneCell'=aK)(u:∀j,j<bB d->(aU w ⟨b,o+j,ai⟩).isSome=aK)(y:∀j,j<bB d->bG w ⟨b,o+j,ai⟩=aL):
  (Builtin.clear_ #[t] C #[aj (ah (az b o)) n c]).run P w=.ok (.tuple #[]) (w.setCells b o d):=by
 have f:=run_storeCells_cells (P:=P) b o d 0 w (by simpa using u) (by simpa using y) q;simp only[fH] at f;obtain⟨m,rfl⟩:∃m,n=m+1:=⟨n-1,by omega⟩
 simp[Builtin.clear_,gM A,B,h,f]
theorem kP.Jf{k t:aE}{b:Nat}{D:DataW Unit}{q:aA}{kl:Lit}(h:mL w k b D)(S:kP D kl o)(K:Keyed prog k)(u:prog.underlying t=ah (.map k 3))(f:keyOf prog k q=ah kl):
  (Instr.lookup t (.map (ah b)) q aL).run prog w=.ok (iz ((o.getD 0:Nat):Int)) w:=by
 let⟨c,m,d,_⟩:=zm h K u underlying3 (A7 w) f;rw[S.2] at d;simp at d;rw[m,d]
theorem Bq.acL(h:Bq w base p ev nb fb l Dn Df)(u:t.ok)(f:aE):
  ∃w',(Builtin.delete_ #[80,152] f #[.map (ah nb),jB t]).run prog w=.ok (.tuple #[]) w'∧Bq w' base p ev nb fb l (Dn.del (se t)) Df∧dV nb w w':=by
 let⟨w',q,m,d⟩:=Nj h.lF Ih underlying80 (vK u) f;have g:=d.grown;exact⟨w',q,⟨h.kE.of_block (g.block p h.kE.lt (by simpa using h.pn)),h.rows.kept g (cI h.en),jP m,iy h.om g (by simpa using j5 h.nf),h.pn,h.pf,h.nf,h.ep,h.en,h.ef,h.bp,h.bn,h.bf⟩,jw g⟩
variable{s:ByteArray}
theorem Bq.acM(h:Bq w base p ev nb fb l Dn Df)(u:s.size<=6)(f:aE):
  ∃w',(Builtin.delete_ #[81,9] f #[.map (ah fb),.string s]).run prog w=.ok (.tuple #[]) w'∧Bq w' base p ev nb fb l Dn (Df.del (rG s))∧dV fb w w':=by
 let⟨w',q,m,d⟩:=Nj h.om Iu underlying81 (vw u) f;have g:=d.grown;exact⟨w',q,⟨h.kE.of_block (g.block p h.kE.lt (by simpa using h.pf)),h.rows.kept g (cI h.ef),iy h.lF g (by simpa using h.nf),jP m,h.pn,h.pf,h.nf,h.ep,h.en,h.ef,h.bp,h.bn,h.bf⟩,jw g⟩
theorem Bq.at(h:Bq w base p ev nb fb l Dn Df)(f:l[i]?=ah t):
  ∃g cap,ev=aj (ah (az g 0)) (bB l) cap∧∀j u,(gu t)[j]?=ah u->aU w ⟨g,i*6+j,ai⟩=ah u:=by
 have v:i<bB l:=(bU.1 f).1;obtain⟨e,y⟩|⟨b,cap,q,e,_⟩:=h.rows.2
 .omega
 refine⟨b,cap,e,λj u m=>?_⟩;have d:j<6:=by have:=(bU.1 m).1;simpa[gu] using this
 have:=h.rows.cells (g:=b) (by rw[e];rfl) (i*6+j) u (by rw[xW l i j d,f];exact m);grind[Addr.add]
def Bq.grown{row:Option Nat}(h:Bq w base p ev nb fb l Dn Df)(K:bH w w' row)(hp:ah p≠row)(m:ah nb≠row)(f:ah fb≠row)(d:row=ai∨aP ev≠row):Bq w' base p ev nb fb l Dn Df:=
 ⟨h.kE.of_block (K.block p h.kE.lt hp),h.rows.kept K (d.elim (λe=>e▸j8 (aP ev=ai)) cI),iy h.lF K m,iy h.om K f,h.pn,h.pf,h.nf,h.ep,h.en,h.ef,h.bp,h.bn,h.bf⟩
def Bq.dF(h:Bq w base p ev nb fb l Dn Df)(K:dG w w'):Bq w' base p ev nb fb l Dn Df:=
 h.grown K.grownBy bQ bQ bQ (cB rfl)
theorem bI.setCells{S:Nat->Prop}{a:ay}{g:Nat}(f:S g):∀(d:List aA)(o:Nat)(w:ay),bI S a w->bI S a (w.setCells g o d)
 | [],_,_,h=>h
 |v::d,o,_,h=>bI.setCells f d (o+1) _ (eY (p:=az g o) h f v)
def ac5:=@bI.setCells
theorem QR(l r:List Tm):((l++r).flatMap gu).take (bB l*6)=l.flatMap gu:=by
 have hl:bB (l.flatMap gu)=bB l*6:=by
  induction l with
  |nil=>rfl
  |cons t l d=>rw[gS,cR,d];simp[gu];omega
 grind
theorem Bq.cut{f:Nat}{r:List Tm}(h:Bq w base p (.slice (ah (az g 0)) (bB (l++r)) f) nb fb (l++r) Dn Df)(d:List aA):
  Bq ((w.setCells g (bB l*6) d).setCell (az p 0) (aj (ah (az g 0)) (bB l) f)) base p (aj (ah (az g 0)) (bB l) f) nb fb l Dn Df∧
   bI (me p (.slice (ah (az g 0)) (bB (l++r)) f) nb fb) w ((w.setCells g (bB l*6) d).setCell (az p 0) (aj (ah (az g 0)) (bB l) f))∧
   aU (w.setCells g (bB l*6) d) (az p 0)=ah (.slice (ah (az g 0)) (bB (l++r)) f)∧bG (w.setCells g (bB l*6) d) (az p 0)=aL:=by
 let⟨A,z⟩:=qh.of h.rows (k:=bB l) bQ;rw[QR] at A;have B:=qh.ie d (bB l*6) w A (bT _);have y:p≠g:=λe=>h.ep (by rw[e];rfl);have v:nb≠g:=λe=>h.en (by rw[e];rfl);have u:fb≠g:=λe=>h.ef (by rw[e];rfl);have m:dV g w (w.setCells g (bB l*6) d):=bI.setCells (S:=λk=>k=g) rfl d _ w (bW _ w);have q:(w.setCells g (bB l*6) d).rowIs p 84 3 (zU (.slice (ah (az g 0)) (bB (l++r)) f) nb fb):=h.kE.of_block (m.block p h.kE.lt y);have D:mL (w.setCells g (bB l*6) d) 152 nb Dn:=iy h.lF m.grownBy (by simpa using v);have C:mL (w.setCells g (bB l*6) d) 9 fb Df:=iy h.om m.grownBy (by simpa using u);have E:=B.owns (by simp at z;omega);refine⟨⟨(q.set 0 _).congr ?_,fR (a:=az p 0) E h.ep _,lU D (j5 h.pn) _,lU C (j5 h.pf) _,h.pn,h.pf,h.nf,h.ep,h.en,h.ef,h.bp,h.bn,h.bf⟩,?_,q.cell (i:=0) bO,q.frozen 0⟩
 .grind[zU]
 exact eY (S:=me p (.slice (ah (az g 0)) (bB (l++r)) f) nb fb) (p:=az p 0) (dW m λk _ x=>cI (cI (cI (by rw[x];rfl)))) (cB rfl) _
theorem Bq.reset(h:Bq w base p ev nb fb l Dn Df):Bq (aW w (az p 0) ev) base p ev nb fb l Dn Df:=by refine⟨(h.kE.set 0 ev).congr ?_,fR (a:=az p 0) h.rows h.ep _,lU h.lF (j5 h.pn) _,lU h.om (j5 h.pf) _,h.pn,h.pf,h.nf,h.ep,h.en,h.ef,h.bp,h.bn,h.bf⟩;grind[zU]
theorem qh.row(h:qh w base g cap k xs):∃f,bE w g 152 (cap*6) f:=by obtain⟨d,_,m,_,q,_⟩:=h;refine⟨λi=>d[i]?.getD aF,d,m,q,?_⟩;grind
theorem O9(n):∀v∈(Builtin.zeroCells (Value.agg #[.string ⟨#[]⟩,iz 0,iz 0,iz 0,iz 0,iz 0]).cells n).toList,v.oneCell'=aK:=by intro v d;simp[Builtin.zeroCells,Value.cells] at d;obtain⟨i,_,rfl⟩:=d;obtain e|e|e|e|e|e:=(by omega:i % 6=0∨i % 6=1∨i % 6=2∨i % 6=3∨i % 6=4∨i % 6=5)<;>rw[e]<;>rfl
theorem Pa(n):(Builtin.zeroCells (Value.agg #[.string ⟨#[]⟩,iz 0,iz 0,iz 0,iz 0,iz 0]).cells n).toList.length=n*6:=by simp[Builtin.zeroCells,Value.cells]
theorem uB(w)(t e f:aE)(d:P.underlying t=ah (.slice e))(a c):(Builtin.clear_ #[t] f #[aj a 0 c]).run P w=.ok (.tuple #[]) w:=by cases a<;>simp[Builtin.clear_,gM d]
theorem Lx(w){base p}{ev}{nb fb}(l r)(h:Bk w base p ev nb fb (l++r)):
  aB prog 57 #[pz p,iz (bB l)] w λe w'=>e=aw (.tuple #[])∧∃ev',Bk w' base p ev' nb fb l∧aP ev'=aP ev∧bI (me p ev nb fb) w w':=by
 have ap:=h.small;have A:=h.yr;have L:=h.nodup;obtain⟨ea,B,rfl⟩:=h.OE;let⟨Dn,Df,hq,T⟩:=h.split;rw[cR] at ap;go_enter func57,ntmps57
 go_wp2
 go_loopw[4] (λt W=>∃j:Nat,j<=bB r∧t=iz ((bB l+j:Nat):Int)∧∃Dn Df,Bq W base p (.slice ea (bB (l++r)) B) nb fb (l++r) Dn Df∧Out l r j Dn Df∧Hid (bI (me p (.slice ea (bB (l++r)) B) nb fb) w W)) λt _=>bB (l++r)-(aG t).toNat
 case atStart=>exact⟨0,by omega,by simp,Dn,Df,hq,Out.start T,bW _ w⟩
 case round=>
  obtain⟨j,hj,rfl,Dn,Df,Q,O,K⟩:=hrel;have c0:cz wr p 0 (.slice ea (bB (l++r)) B):=Q.kE.cell bO;have c1:cz wr p 1 (.map (ah nb)):=Q.kE.cell (i:=1) bO;have c2:cz wr p 2 (.map (ah fb)):=Q.kE.cell (i:=2) bO;have y:bB (l++r)=bB l+bB r:=cR;by_cases al:j<bB r
  .have u:r[j]?=ah r[j]:=bP al;generalize a1:r[j]=e at u;have I:(l++r)[bB l+j]?=ah e:=cG
   have d:e.ok:=A e (cH I);let⟨g,cap,ag,E⟩:=Q.at I;injection ag with hg1 _ hg3;subst hg1;subst hg3;have g0:aU wr ⟨g,(bB l+j)*6,ai⟩=ah (.string e.name):=E 0 _ rfl;have g1:=E 1 _ rfl;have g2:=E 2 _ rfl;have g3:=E 3 _ rfl;have g4:=E 4 _ rfl;have g5:=E 5 _ rfl
   go_wp2;have v:=vN wr e;have H:(gu e).toArray=#[.string e.name,iz (bB e.args),iz (e.arg 0:Int),iz (e.arg 1:Int),iz (e.arg 2:Int),iz (e.arg 3:Int)]:=rfl;rw[H] at v;generalize a0:bC wr (aR #[.string e.name,iz (bB e.args),iz (e.arg 0:Int),iz (e.arg 1:Int),iz (e.arg 2:Int),iz (e.arg 3:Int)] 152)=w1 at v⊢;have K1:dG wr w1:=a0▸dD (bW _ wr) _;have Q1:=Q.dF K1;have a4:=gw Q.lF;generalize wr.heap.size=V at *;have c1:cz w1 p 1 (.map (ah nb)):=Q1.kE.cell (i:=1) bO;have y0:=v.c0;have y1:=v.c1;have y2:=v.c2;have y3:=v.c3;have y4:=v.c4;have y5:=v.c5;let⟨N,ao,R,K2⟩:=Bq.acL Q1.drew d 0;simp only[jB,H] at ao
   go_region
   have b2:Boxed N V e:=du (du v rfl:Boxed w1.drew V e) (K2.block V (dO v) bO);have y0:=b2.c0;have c2:cz N p 2 (.map (ah fb)):=R.kE.cell (i:=2) bO;have LF:=λm=>kP.Jf (R.drewN m).om (O.tR e.name d.name) Iu underlying81 (vw d.name);have q:=Mn (l:=l) u;let⟨N1,N2⟩:=O.acm L u d (gT Q.lF Ih);generalize((fst (l++r) e.name).filter (im (bB l) j)).getD 0=f at *;have KK:bI (me p (.slice (ah (az g 0)) (bB (l++r)) B) nb fb) w N:=((gQ K (dW K1 λ_ _ x=>x.elim)).drew).trans (dW K2 λ_ _ x=>cI (cB x));by_cases hf:f=bB l+j
   .have C:=q.1 hf;have hb:((f:Int)==(bB l:Int)+j)=aK:=bX
    go_wp2;go_quiet(fail)
    go_wp2;have z0:∀m,aU (bF N m) (az V 0)=ah (.string e.name):=λm=>y0;have z2:∀m,aU (bF N m) (az p 2)=ah (.map (ah fb)):=λm=>c2;let⟨Y,Z⟩:=O.acC u d C (gT Q.om Iu);let⟨w3,a5,Q3,K3⟩:=Bq.acM (R.drewN (nq+1)) d.name 0
    go_region
    all_goals
     go_wp2;refine⟨⟨j+1,by omega,by simp;omega,_,_,Q3,⟨N1,N2,Y,Z⟩,(dR KK _).trans (dW K3 λ_ _ x=>cI (cI (cB x)))⟩,?_⟩;simp only[aG];omega
   have C:fst (l++r) e.name≠ah (bB l+j):=λx=>hf (q.2 x);have hb:((f:Int)==(bB l:Int)+j)=aL:=bX
   go_wp2;go_quiet(fail)
   go_wp2;let⟨Y,Z⟩:=O.abe u C;refine⟨⟨j+1,by omega,by simp;omega,_,_,R.drewN nq,⟨N1,N2,Y,Z⟩,dR KK nq⟩,?_⟩;simp only[aG];omega
  have J:j=bB r:=bO
  subst J;have U:=O.done (λt ht=>A t (dh r ht)) (sx.1 L).1 bO;have f0:=Q.kE.frozen 0;obtain⟨ee,h0⟩|⟨g,cap,a2,ee,_,_,z,a3,_⟩:=Q.rows.2
  .have an:l=[]:=eE (by rw[y] at h0;omega);have D:r=[]:=eE (by rw[y] at h0;omega);subst an;subst D;injection ee with e1 e2 e3;subst e1;subst e3;have ac:=λ(a:Option aD)(c:Nat)=>uB (P:=prog) wr 82 152 0 underlying82 a c
   go_wp2
   go_end0
   exact⟨rfl,_,(Q.reset).whole U,rfl,eY (p:=az p 0) K (cB rfl) _⟩
  injection ee with e1 e2 e3;subst e1;subst e3;let⟨F,G,C3,C4⟩:=Q.cut [];by_cases D:bB r=0
  .have ac:=λ(a:Option aD)(c:Nat)=>uB (P:=prog) wr 82 152 0 underlying82 a c;have M:r=[]:=eE D;subst M;by_cases ad:bB l=B
   .subst ad
    go_wp2
    go_end0
    exact⟨rfl,_,F.whole U,rfl,gQ K G⟩
   go_wp2
   go_end0
   exact⟨rfl,_,F.whole U,rfl,gQ K G⟩
  clear F G C3 C4;have aa:bB l<B:=by rw[y] at z;omega
  let⟨FF,HF⟩:=(qh.of Q.rows (k:=0) bO).1.row;have CL:(Builtin.clear_ #[82] 0 #[aj (ah ⟨g,bB l*6,ai⟩) (bB r) (B-bB l)]).run prog wr=.ok (.tuple #[]) (wr.setCells g (bB l*6) (Builtin.zeroCells (Value.agg #[.string ⟨#[]⟩,iz 0,iz 0,iz 0,iz 0,iz 0]).cells (bB r)).toList):=
   BG wr 82 152 0 _ underlying82 zeroValue152 g (bB l*6) (bB r) _ bO _ rfl (O9 _) (λi hi=>by rw[Pa] at hi;rw[dU HF (by rw[y] at z;omega)];rfl) λi _=>cA HF _
  generalize(Builtin.zeroCells (Value.agg #[.string ⟨#[]⟩,iz 0,iz 0,iz 0,iz 0,iz 0]).cells (bB r)).toList=vs at CL;let⟨F,G,C3,C4⟩:=Q.cut vs
  go_wp2
  go_end0
  exact⟨rfl,_,F.whole U,rfl,gQ K G⟩
inductive tF (α:Type) where
 |ok (x:α) (i:Nat) (l:List Tm)
 |bad (e p:Nat) (l:List Tm)
def tF.list{α:Type}:tF α->List Tm
 | .ok _ _ l=>l
 | .bad _ _ l=>l
def oj(t:Tm)(p i:Nat)(l:List Tm):tF Nat:=if qV l t then .ok (uX l t) i (pq l t) else .bad 5 p l
mutual
def iI(s:ByteArray):Nat->Nat->Nat->List Tm->tF Nat
 |0,_,_,l=>.bad 0 0 l
 |f+1,above,i,l=>
  if gX s i then .bad 2 i l
  else if 12<above then .bad 4 i l
  else if ix s (bl s (kK s i)) 40 then
   match jO s f (above+1) (behind s (bl s (kK s i)) 40) l [] with
   | .bad e p l'=>.bad e p l'
   | .ok xs k l'=>oj ⟨s.extract i (kK s i),xs⟩ i k l'
  else oj ⟨s.extract i (kK s i),[]⟩ i (bl s (kK s i)) l
def jO(s:ByteArray):Nat->Nat->Nat->List Tm->List Nat->tF (List Nat)
 |0,_,_,l,_=>.bad 0 0 l
 |f+1,above,i,l,xs=>
  if i=s.size then .bad 2 i l
  else if bB xs=4 then .bad 3 i l
  else match iI s f above i l with
   | .bad e p l'=>.bad e p l'
   | .ok n k l'=>
    if ix s k 41 then .ok (xs++[n]) (behind s k 41) l'
    else if ix s k 44 then jO s f above (behind s k 44) l' (xs++[n])
    else .bad 2 k l'
end
theorem uY(l t):l <+:pq l t:=by grind[pq]
theorem zF(t p i l):l <+:(oj t p i l).list:=by
 unfold oj
 split
 .exact uY l t
 exact List.prefix_refl l
theorem iV(h:i<=s.size):behind s i c<=s.size:=by
 unfold behind
 split
 .next hs=>exact jV (ft hs).1
 exact h
theorem lB(h:ix s i c=aK):i<behind s i c:=by grind[pN,oL]
theorem Ep(h:gX s i=aL):i<kK s i:=by grind[kK,gX,wM]
theorem nM(s):∀f,(∀d i l,i<=s.size->l <+:(iI s f d i l).list∧∀n k l',iI s f d i l=.ok n k l'->i<k∧k<=s.size)∧
  (∀d i l xs,i<=s.size->l <+:(jO s f d i l xs).list∧∀x k l',jO s f d i l xs=.ok x k l'->i<k∧k<=s.size)
 |0=>⟨λ_ _ l _=>⟨by rw[iI];exact List.prefix_refl l,λ_ _ _ e=>by rw[iI] at e;cases e⟩,λ_ _ l _ _=>⟨by rw[jO];exact List.prefix_refl l,λ_ _ _ e=>by rw[jO] at e;cases e⟩⟩
 |f+1=>by
  let⟨G,z⟩:=nM s f;constructor
  .intro d i l y;rw[iI]
   split
   .exact⟨List.prefix_refl l,λ_ _ _ e=>by cases e⟩
   next J=>
   have v:gX s i=aL:=by simpa using J
   have M:=Ep v;have H:=pg y;have N:=oL s (kK s i);have I:=jV H
   split
   .exact⟨List.prefix_refl l,λ_ _ _ e=>by cases e⟩
   split
   .next hs=>
    have A:=lB hs;have B:=iV (c:=40) I;let⟨h,q⟩:=z (d+1) (behind s (bl s (kK s i)) 40) l [] B
    split
    .next e p l' m=>rw[m] at h;exact⟨h,λ_ _ _ e=>by cases e⟩
    next xs k l' m=>
    rw[m] at h;let⟨E,u⟩:=q xs k l' m;refine⟨h.trans (zF _ _ _ _),λn C D e=>?_⟩;unfold oj at e
    split at e
    .injection e with e1 e2 e3;omega
    cases e
   grind[oj,zF]
  intro d i l xs y;rw[jO]
  split
  .exact⟨List.prefix_refl l,λ_ _ _ e=>by cases e⟩
  split
  .exact⟨List.prefix_refl l,λ_ _ _ e=>by cases e⟩
  let⟨h,q⟩:=G d i l y
  split
  .next e p l' m=>rw[m] at h;exact⟨h,λ_ _ _ e=>by cases e⟩
  next n k l' m=>
  rw[m] at h;let⟨E,u⟩:=q n k l' m
  split
  .next hs=>have A:=lB hs;have B:=iV (c:=41) u;refine⟨h,λx C D e=>?_⟩;grind
  split
  .next hs=>have A:=lB hs;let⟨F,L⟩:=z d (behind s k 44) l' (xs++[n]) (iV u);refine⟨h.trans F,λx C D e=>?_⟩;grind
  exact⟨h,λ_ _ _ e=>by cases e⟩
def aa0(h:qC l t=ah i):i<bB l:=(fJ.1 h).1
theorem ZE(l t):uX l t<bB (pq l t):=by
 unfold uX pq;cases d:qC l t with
 |some i=>simpa using aa0 d
 |none=>simp
theorem Dg(l t):bB (pq l t)<=bB l+1:=by grind[pq]
theorem vD(s):∀f:Nat,
  (∀d i l n k l',i<=s.size->iI s f d i l=.ok n k l'->bB l'+i<=bB l+k∧n<bB l')∧
  (∀d i l xs x k l',i<=s.size->bB xs<=4->(∀a∈xs,a<bB l)->jO s f d i l xs=.ok x k l'->bB l'+i<=bB l+k∧bB x<=4∧∀a∈x,a<bB l')
 |0=>⟨λ_ _ _ _ _ _ _ e=>(by grind[iI]),λ_ _ _ _ _ _ _ _ _ _ e=>(by grind[jO])⟩
 |f+1=>by
  let⟨A,L⟩:=vD s f;let⟨z,J⟩:=nM s f;constructor
  .intro d i l n k l' h e;rw[iI] at e
   split at e
   .cases e
   next O=>
   have m:gX s i=aL:=cG
   have M:=Ep m;have N:=pg h;grind[kK,oj,oL,jV,lB,iV,Dg,ZE]
  intro d i l xs x k l' h C D e;rw[jO] at e
  split at e
  .cases e
  split at e
  .cases e
  next B=>
  split at e
  .cases e
  next n k2 v q=>let⟨E,F⟩:=A _ _ _ _ _ _ h q;let⟨u,y⟩:=z d i l h;let⟨G,H⟩:=y n k2 v q;rw[q] at u;have I:bB l<=bB v:=u.length_le;grind[Nat.lt_of_lt_of_le,List.mem_singleton,lB,iV]
def acW(X:Nat->Prop)(p:Nat)(ev:aA)(nb fb k:Nat):Prop:=X k∨me p ev nb fb k
structure RB(w:ay)(base r p:Nat)(ev:aA)(nb fb:Nat)(s:ByteArray)(i:Nat)(l:List Tm):Prop where
 rd:Rd w r (ak (ah ⟨p,0,ai⟩)) s i
 bk:Bk w base p ev nb fb l
 rp:r≠p
 rn:r≠nb
 rf:r≠fb
 er:aP ev≠ah r
 bs:base<=w.heap.size
structure gN(X:Nat->Prop)(p nb fb:Nat)(w:ay)(ev:aA)(w':ay)(ev':aA):Prop where
 kept:bI (acW X p ev nb fb) w w'
 row:aP ev'=aP ev∨∀k,aP ev'=ah k->w.heap.size<=k
theorem gN.refl(X p nb fb w ev):gN X p nb fb w ev w ev:=⟨bW _ w,cB rfl⟩
def tK:=@gN.refl
theorem gN.mono{Y:Nat->Prop}(h:gN X p nb fb a ea b eb)(d:∀k,k<a.heap.size->X k->Y k):gN Y p nb fb a ea b eb:=
 ⟨dW h.kept λk f e=>e.elim (λx=>cB (d k f x)) cI,h.row⟩
def adn:=@gN.mono
theorem gN.trans{c:ay}{m:aA}(h:gN X p nb fb a ea b eb)(k:gN X p nb fb b eb c m):gN X p nb fb a ea c m:=by
 refine⟨⟨k.kept.os.trans h.kept.os,k.kept.tape.trans h.kept.tape,k.kept.output.trans h.kept.output,bZ h.kept.size k.kept.size,?_⟩,?_⟩
 .intro x f hs;rw[k.kept.block x (cQ f h.kept.size) ?_]
  .exact h.kept.block x f hs
  intro q;apply hs;obtain e|e|e|e|e:=q
  .exact cB e
  .exact cI (cB e)
  .exact cI (cI (cB e))
  .exact cI (cI (cI (cB e)))
  obtain d|d:=h.row
  .exact cI (cI (cI (cI (d▸e))))
  grind
 obtain e|e:=k.row
 .obtain d|d:=h.row
  .grind
  grind
 exact cI λx f=>bZ h.kept.size (e x f)
def tJ:=@gN.trans
theorem gN.setCell(h:gN X p nb fb a ea b eb){o:Nat}(d:X x)(u):gN X p nb fb a ea (b.setCell (az x o) u) eb:=
 ⟨eY (p:=az x o) h.kept (cB d) u,h.row⟩
def gN.drewN(h:gN X p nb fb a ea b eb)(m):gN X p nb fb a ea (b.drewN m) eb:=⟨dR h.kept m,h.row⟩
def RB.read(h:RB w base r p ev nb fb s i l)(K:dV r w w')(d:Rd w' r (pz p) s k):
  RB w' base r p ev nb fb s k l∧gN (λk=>k=r) p nb fb w ev w' ev:=
 ⟨⟨d,h.bk.iw K (j5 h.rp) (j5 h.rn) (j5 h.rf) h.er,h.rp,h.rn,h.rf,h.er,bZ h.bs K.size⟩,⟨dW K λ_ _ e=>cB e,cB rfl⟩⟩
def Rd.of_block{bp:aA}(h:Rd w r bp s i)(d:w'.heap[r]?=w.heap[r]?):Rd w' r bp s i:=⟨h.row.of_block d,h.le,h.small⟩
theorem RB.zh(h:RB w base r p ev nb fb s i l)(K:bI (me p ev nb fb) w w')(m:Bk w' base p ev' nb fb l')(f:aP ev'=aP ev∨∀k,aP ev'=ah k->w.heap.size<=k):
  RB w' base r p ev' nb fb s i l'∧gN (λk=>k=r) p nb fb w ev w' ev':=by
 have d:=h.rd.row.lt;refine⟨⟨h.rd.of_block (K.block r d ?_),m,h.rp,h.rn,h.rf,?_,bZ h.bs K.size⟩,⟨dW K λ_ _ e=>cI e,f⟩⟩
 .rintro(e|e|e|e)
  .exact h.rp e
  .exact h.rn e
  .exact h.rf e
  exact h.er e
 obtain e|e:=f
 .rw[e];exact h.er
 grind
def RB.dF(h:RB w base r p ev nb fb s i l)(K:dG w w'):RB w' base r p ev nb fb s i l∧gN (λk=>k=r) p nb fb w ev w' ev:=
 h.zh (dW K λ_ _ e=>e.elim) (h.bk.dF K) (cB rfl)
def RB.drewN(h:RB w base r p ev nb fb s i l)(m):RB (bF w m) base r p ev nb fb s i l:=
 ⟨h.rd.drewN m,h.bk.drewN m,h.rp,h.rn,h.rf,h.er,h.bs⟩
structure RX(w:ay)(base r p:Nat)(ev:aA)(nb fb:Nat)(s:ByteArray)(i:Nat)(l:List Tm)(x:Nat)(t:Tm):Prop where
 rb:RB w base r p ev nb fb s i l
 box:Boxed w x t
 xr:x≠r
 xp:x≠p
 xn:x≠nb
 xf:x≠fb
 ex:aP ev≠ah x
def RX.drewN(h:RX w base r p ev nb fb s i l x t)(m):RX (bF w m) base r p ev nb fb s i l x t:=
 ⟨h.rb.drewN m,du h.box rfl,h.xr,h.xp,h.xn,h.xf,h.ex⟩
theorem RX.qR(h:RX w base r p ev nb fb s i l x t)(G:gN (λk=>k=r) p nb fb w ev w' ev')(R:RB w' base r p ev' nb fb s k l'):RX w' base r p ev' nb fb s k l' x t:=by
 have d:=dO h.box;refine⟨R,du h.box (G.kept.block x d ?_),h.xr,h.xp,h.xn,h.xf,?_⟩
 .rintro(e|e|e|e|e)
  .exact h.xr e
  .exact h.xp e
  .exact h.xn e
  .exact h.xf e
  exact h.ex e
 obtain e|e:=G.row
 .rw[e];exact h.ex
 grind
theorem RB.setOther(h:RB w base r p ev nb fb s i l)(xr:x≠r)(xp:x≠p)(xn:x≠nb)(xf:x≠fb)(ex:aP ev≠ah x)(o u):RB (aW w (az x o) u) base r p ev nb fb s i l:=by have K:dV x w (aW w (az x o) u):=eH (bW _ w) o u;exact⟨h.rd.of_block (K.block r h.rd.row.lt λe=>xr e.symm),h.bk.iw K (j5 xp) (j5 xn) (j5 xf) ex,h.rp,h.rn,h.rf,h.er,bZ h.bs K.size⟩
theorem RX.push{nm:ByteArray}{xs:List Nat}(h:RX w base r p ev nb fb s i l x ⟨nm,xs⟩)(d:bB xs<4)(n:Nat):
  RX (aW (aW w ⟨x,2+bB xs,ai⟩ (iz n)) (az x 1) (iz ((bB xs:Int)+1))) base r p ev nb fb s i l x ⟨nm,xs++[n]⟩:=by
 refine⟨(h.rb.setOther h.xr h.xp h.xn h.xf h.ex _ _).setOther h.xr h.xp h.xn h.xf h.ex _ _,?_,h.xr,h.xp,h.xn,h.xf,h.ex⟩;refine eO (jf (jf h.box (2+bB xs) (iz n)) 1 (iz ((bB xs:Int)+1))) ?_;intro j f
 match xs,d with
 | [],_=>obtain rfl|rfl|rfl|rfl|rfl|rfl:=(by omega:j=0∨j=1∨j=2∨j=3∨j=4∨j=5)<;>rfl
 | [a],_=>obtain rfl|rfl|rfl|rfl|rfl|rfl:=(by omega:j=0∨j=1∨j=2∨j=3∨j=4∨j=5)<;>rfl
 | [a,b],_=>obtain rfl|rfl|rfl|rfl|rfl|rfl:=(by omega:j=0∨j=1∨j=2∨j=3∨j=4∨j=5)<;>rfl
 | [a,b,c],_=>obtain rfl|rfl|rfl|rfl|rfl|rfl:=(by omega:j=0∨j=1∨j=2∨j=3∨j=4∨j=5)<;>rfl
 |_::_::_::_::_,d=>grind
def bad(e p:Int):bg:=.panicked [{v:=nD e p,recovered:=aL}]
def Av{G:Prop}(w:ay)(h:G)(_:wpAny prog .any #[] (λ_ _ _=>True) 0 #[] {tmps:=#[],defers:=[]} w):G:=h
def Ko(base r p nb fb:Nat)(s:ByteArray)(w:ay)(ev:aA):tF Nat->bg->ay->Prop
 | .ok n k l',e,w'=>e=aw (ae af n)∧∃ev',RB w' base r p ev' nb fb s k l'∧gN (λk=>k=r) p nb fb w ev w' ev'
 | .bad c q l',e,w'=>e=.panicked [{v:=nD c q,recovered:=aL}]∧∃ev' k,RB w' base r p ev' nb fb s k l'∧gN (λk=>k=r) p nb fb w ev w' ev'
def KE(base r p nb fb:Nat)(s:ByteArray)(x:Nat)(nm:ByteArray)(w:ay)(ev:aA):tF (List Nat)->bg->ay->Prop
 | .ok xs k l',e,w'=>e=aw (.tuple #[])∧∃ev',RX w' base r p ev' nb fb s k l' x ⟨nm,xs⟩∧gN (λk=>k=r∨k=x) p nb fb w ev w' ev'
 | .bad c q l',e,w'=>e=.panicked [{v:=nD c q,recovered:=aL}]∧∃ev' k,RB w' base r p ev' nb fb s k l'∧gN (λk=>k=r∨k=x) p nb fb w ev w' ev'
def Ng(f:Nat):Prop:=∀(w:ay)(base r p:Nat)(ev:aA)(nb fb:Nat)(s:ByteArray)(i:Nat)(l:List Tm)(above:Nat),RB w base r p ev nb fb s i l->2*(s.size-i)+1<=f->bB l+(s.size-i)<=600->above<=100->
 aB prog 59 #[ak (ah ⟨r,0,ai⟩),ae af above] w (Ko base r p nb fb s w ev (iI s f above i l))
def W5(f:Nat):Prop:=∀(w:ay)(base r p:Nat)(ev:aA)(nb fb:Nat)(s:ByteArray)(i:Nat)(l:List Tm)(above x:Nat)(nm:ByteArray),RX w base r p ev nb fb s i l x ⟨nm,[]⟩->2*(s.size-i)+2<=f->bB l+(s.size-i)<=600->above<=100->
 aB prog 103 #[ak (ah ⟨r,0,ai⟩),ak (ah ⟨x,0,ai⟩),ae af above] w (KE base r p nb fb s x nm w ev (jO s f above i l []))
theorem args_at(f)(IH:∀g,g<f->Ng g):W5 f:=by
 intro w base r p ev nb fb s i l u x nm h hf hb M;have c2:=h.rb.rd.c2;go_enter func103,ntmps103
 go_wp2
 go_loopw[] (λW=>∃(g k:Nat)(l':List Tm)(xs:List Nat)(ev':aA),RX W base r p ev' nb fb s k l' x ⟨nm,xs⟩∧Hid (g<=f∧jO s f u i l []=jO s g u k l' xs∧2*(s.size-k)+2<=g∧bB l'+(s.size-k)<=600∧(∀a∈xs,a<bB l'))∧bB xs<=4∧Hid (gN (λk=>k=r∨k=x) p nb fb w ev W ev')) λW=>s.size-(match aU W (az r 2) with|some v=>(aG v).toNat|none=>0)
 case atStart=>exact⟨f,i,l,[],ev,h,⟨bT f,rfl,hf,hb,by simp⟩,by simp,tK _ _ _ _ _ _⟩
 case round=>
  obtain⟨g,k,l',xs,ev',H,⟨a2,d,hg,aa,ad⟩,a4,G⟩:=hrel;have hR:=H.rb.rd;have c1:=hR.c1;have c2:=hR.c2;have T:=hR.le;have cc:aU wr (az x 1)=ah (iz (bB xs)):=H.box.c1;obtain⟨g,rfl⟩:∃g',g=g'+1:=⟨g-1,by omega⟩
  rw[jO] at d;by_cases h1:k=s.size
  .rw[cY h1] at d;have d1:(k:Int)=s.size:=bO
   go_wp2_with fail;go_quiet(fail)
   go_wp2_with(go_at_call 60;refine(jk _ _ _).mono ?_;rintro e w2 ⟨rfl,rfl⟩);refine⟨rfl,?_⟩;rw[d];exact⟨by rw[h1];rfl,ev',k,H.rb.drewN _,G.drewN _⟩
  rw[cC h1] at d;have d1:((k:Int)==(s.size:Int))=aL:=bX
  have ap:¬(k:Int)=s.size:=bO
  by_cases h4:bB xs=4
  .rw[cY h4] at d;have d4:(bB xs:Int)=4:=bO
   go_wp2_with fail;go_quiet(fail)
   go_wp2_with(go_at_call 60;refine(jk _ _ _).mono ?_;rintro e w2 ⟨rfl,rfl⟩);refine⟨rfl,?_⟩;rw[d];exact⟨rfl,ev',k,H.rb.drewN _,G.drewN _⟩
  rw[cC h4] at d;have d4:¬(bB xs:Int)=4:=bO
  have y:=λm=>IH g bO (bF wr m) base r p ev' nb fb s k l' u (H.rb.drewN m) bO aa M;have HD:=λm=>H.drewN m;cases U:iI s g u k l' with
  |bad c q O=>
   rw[U] at y d;have F:∀m,aB prog 59 #[pz r,iz u] (bF wr m) λe w'=>e=.panicked [{v:=nD c q,recovered:=aL}]∧KE base r p nb fb s x nm w ev (jO s f u i l []) e w':=λm=>(y m).mono λe w' R=>⟨R.1,by rw[d];refine⟨R.1,?_⟩;let⟨A,k2,R2,Z⟩:=R.2;exact⟨A,k2,R2,tJ (G.drewN m) (Z.mono λ_ _ e=>cB e)⟩⟩
   go_wp2_with fail;go_quiet(fail)
   go_wp2_with fail
   go_region_with(go_at_call 59;refine(F _).mono ?_;rintro e N ⟨rfl,R⟩;refine Av N (b9 rfl R) ?_)
   all_goals trivial
  |ok n k2 O=>
   rw[U] at y d;have ac:bB xs<4:=bO
   have ag:(bB xs:Int)<4:=bO
   go_wp2_with fail;go_quiet(fail)
   go_wp2_with fail
   go_region_with(go_at_call 59;refine(y _).mono ?_;rintro e N ⟨rfl,A,R2,Z⟩;have I:=(HD _).qR Z R2;have an:aU N (az x 1)=ah (iz (bB xs)):=I.box.c1;have ao:=dU I.box (i:=2+bB xs) bO;have a1:=cA I.box (2+bB xs);have a0:=cA I.box 1)
   all_goals
    have J:=I.push ac n;have cp:aU (aW N ⟨x,2+bB xs,ai⟩ (iz n)) (az x 1)=ah (iz (bB xs)):=by rw[dU (jf I.box (2+bB xs) (iz n)) (i:=1) bO];rw[cC bO];rfl
    have fp:bG (aW N ⟨x,2+bB xs,ai⟩ (iz n)) (az x 1)=aL:=cA (jf I.box (2+bB xs) (iz n)) 1;have G3:gN (λk=>k=r∨k=x) p nb fb w ev (aW (aW N ⟨x,2+bB xs,ai⟩ (iz n)) (az x 1) (iz ((bB xs:Int)+1))) A:=((tJ (G.drewN _) (Z.mono (Y:=λk=>k=r∨k=x) λ_ _ e=>cB e)).setCell (cI rfl) _).setCell (cI rfl) _;generalize a3:(aW (aW N ⟨x,2+bB xs,ai⟩ (iz n)) (az x 1) (iz ((bB xs:Int)+1)))=w4 at J G3
    go_wp2_with fail;let⟨B0,B1⟩:=(nM s g).1 u k l' T;let⟨B2,B3⟩:=B1 n k2 O U;let⟨A1,A2⟩:=(vD s g).1 u k l' n k2 O T U;rw[U] at B0;have B4:bB l'<=bB O:=B0.length_le;have V:∀a∈xs++[n],a<bB O:=by
     intro a M;obtain M|M:=cU.1 M
     .exact cQ (ad a M) B4
     rw[dL.1 M];exact A2
    have z:=Ay J.rb.rd 41;cases L:ix s k2 41 with
    |true=>
     rw[L] at z d;rw[cY rfl] at d
     go_wp2_with(go_at_call 102;refine z.mono ?_;rintro e w5 ⟨rfl,D,Q⟩)
     go_end0
     let⟨E,G6⟩:=J.rb.read Q D;rw[d];exact⟨rfl,A,J.qR G6 E,G3.trans (G6.mono (Y:=λk=>k=r∨k=x) λ_ _ e=>cB e)⟩
    |false=>
     rw[L] at z d;rw[cC bQ] at d;rw[oM L] at z;cases B:ix s k2 44 with
     |true=>
      rw[B,cY rfl] at d;have h5:=lB B;have h6:=iV (c:=44) B3
      go_wp2_with(go_at_call 102;first|(refine C.mono ?_;rintro e w6 ⟨rfl,E,K6⟩)|(refine z.mono ?_;rintro e w5 ⟨rfl,D,Q⟩;have P5:=J.rb.read Q D;have C:=Ay D 44;rw[B] at C));obtain⟨R7,G7⟩:=P5;let⟨R8,G8⟩:=R7.read K6 E
      go_roundw
      case rel=>exact⟨g,behind s k2 44,O,xs++[n],A,(J.qR G7 R7).qR G8 R8,⟨by omega,d,by omega,by omega,V⟩,by simp;omega,(G3.trans (G7.mono (Y:=λk=>k=r∨k=x) λ_ _ e=>cB e)).trans (G8.mono (Y:=λk=>k=r∨k=x) λ_ _ e=>cB e)⟩
      case measure=>rw[H.rb.rd.c2,E.c2];simp[aG];omega
     |false=>
      rw[B,cC bQ] at d
      go_wp2_with(first|(go_at_call 102;refine C.mono ?_;rintro e w6 ⟨rfl,E,K6⟩;have al:=E.c2)|(go_at_call 102;refine z.mono ?_;rintro e w5 ⟨rfl,D,Q⟩;have P5:=J.rb.read Q D;have C:=Ay D 44;rw[B,oM B] at C)|(go_at_call 60;refine(jk _ _ _).mono ?_;rintro e w2 ⟨rfl,rfl⟩));obtain⟨R7,G7⟩:=P5;let⟨R8,G8⟩:=R7.read K6 E;refine⟨rfl,?_⟩;rw[d];exact⟨rfl,A,k2,R8,(G3.trans (G7.mono (Y:=λk=>k=r∨k=x) λ_ _ e=>cB e)).trans (G8.mono (Y:=λk=>k=r∨k=x) λ_ _ e=>cB e)⟩
end
variable{s:ByteArray}{i b o base r p nb fb n0 g n k d B B':Nat}
theorem IW(h:gX s i=aL)(a:i<=s.size):(s.extract i (kK s i)).size<=6:=by grind[kK,gX,pM,wM,pg]
variable{w w' X Y Z W W':ay}
def ID{o:Obj}(h:w.heap[b]?=ah o):b<w.heap.size:=(bY.1 h).1
variable{ev v v2 v3 v4 ev' kv:aA}{l l':List Tm}
theorem RB.boxed(h:RB w base r p ev nb fb s i l)(t):
  RX (bC w (aq (gu t).toArray 152)) base r p ev nb fb s i l w.heap.size t∧gN (λk=>k=r) p nb fb w ev (bC w (aq (gu t).toArray 152)) ev:=by
 have K:dG w (bC w (aq (gu t).toArray 152)):=dD (bW _ w) _;let⟨R,G⟩:=h.dF K;have D:=h.rd.row.lt;have E:=h.bk.kE.lt;let⟨Dn,u,_,_⟩:=h.bk.lF;let⟨z,q,_,_⟩:=h.bk.om;have F:=gw u;have H:=gw q;refine⟨⟨R,vN w t,by omega,by omega,by omega,by omega,?_⟩,G⟩;intro e;obtain⟨a,C⟩|⟨b,c,j,a,I,m⟩:=h.bk.rows.2
 .rw[a] at e;simp[aP] at e
 grind[aP]
theorem XF{f}(IA:W5 f):Ng (f+1):=by
 intro w base r p ev nb fb s i l u h hf hb ha;have c2:=h.rd.c2;have a1:=h.rd.le;have a5:=h.rd.small;have NM:=YA h.rd;rw[iI];go_enter func59,ntmps59;cases O:gX s i with
 |true=>
  rw[cY rfl];have F:aB prog 101 #[pz r] w λe w'=>e=.panicked [{v:=nD 2 i,recovered:=aL}]∧Ko base r p nb fb s w ev (.bad 2 i l) e w':=NM.mono λe w' hP=>by
   obtain⟨K,⟨_,he,k,R⟩|⟨hx,_⟩⟩:=hP
   .let⟨R2,G2⟩:=h.read K R;exact⟨he,he,ev,k,R2,G2⟩
   rw[O] at hx;cases hx
  clear NM
  go_wp2_with(go_at_call 101;refine F.mono ?_;rintro e I ⟨rfl,hP⟩);exact⟨rfl,hP⟩
 |false=>
  rw[cC bQ];have F:aB prog 101 #[pz r] w λe w'=>e=aw (.string (s.extract i (kK s i)))∧RB w' base r p ev nb fb s (bl s (kK s i)) l∧gN (λk=>k=r) p nb fb w ev w' ev:=NM.mono λe w' hP=>by
   obtain⟨K,⟨hx,_⟩|⟨_,he,R⟩⟩:=hP
   .rw[O] at hx;cases hx
   let⟨R2,G2⟩:=h.read K R;exact⟨he,R2,G2⟩
  clear NM;have al:=IW O a1;generalize a4:s.extract i (kK s i)=N at al F⊢;by_cases ap:12<u
  .rw[cY ap];have a2:(12:Int)<(u:Int):=bO
   go_wp2_with(first|(go_at_call 101;refine F.mono ?_;rintro e I ⟨rfl,Q,P⟩;have B3:=Q.boxed ⟨N,[]⟩)|(go_at_call 60;refine(jk _ _ _).mono ?_;rintro e w2 ⟨rfl,rfl⟩));exact⟨rfl,rfl,ev,_,B3.1.rb,P.trans B3.2⟩
  rw[cC ap];have a2:¬(12:Int)<(u:Int):=bO
  have L:∀(I:ay)(Q:RB I base r p ev nb fb s (bl s (kK s i)) l),aB prog 102 #[pz r,.int .u8 40] (bC I (aq (gu ⟨N,[]⟩).toArray 152)) λe w'=>e=aw (.bool (ix s (bl s (kK s i)) 40))∧RX w' base r p ev nb fb s (behind s (bl s (kK s i)) 40) l I.heap.size ⟨N,[]⟩∧gN (λk=>k=r) p nb fb I ev w' ev:=λI Q=>by let⟨X,G⟩:=Q.boxed ⟨N,[]⟩;refine(Ay X.rb.rd 40).mono ?_;rintro e w4 ⟨he,R4,K4⟩;let⟨R5,G5⟩:=X.rb.read K4 R4;exact⟨he,X.qR G5 R5,G.trans G5⟩
  have h1:=Ep O;have h2:=pg a1;have h3:=oL s (kK s i);have h4:=jV h2;cases ac:ix s (bl s (kK s i)) 40 with
  |false=>
   rw[cC bQ];rw[ac,oM ac] at L
   go_wp2_with(first|(go_at_call 101;refine F.mono ?_;rintro e I ⟨rfl,Q,P⟩;have S3:=L I Q;have a0:=P.kept.size;unfold gu at S3)|(go_at_call 102;refine S3.mono ?_;rintro e w4 ⟨rfl,X,G4⟩));have G:=P.trans G4;clear L S3 P G4 Q F;generalize I.heap.size=x at *;obtain⟨W,hW⟩:=bK w4;rw[<-hW] at X G⊢;clear hW;obtain⟨l',ab⟩:∃l',l'=l:=⟨_,rfl⟩
   obtain⟨ev',U⟩:∃ev',ev'=ev:=⟨_,rfl⟩
   obtain⟨M,H⟩:∃M:List Nat,M=[]:=⟨_,rfl⟩
   rw[<-ab,<-U,<-H] at X;have z:oj ⟨N,[]⟩ i (bl s (kK s i)) l=oj ⟨N,M⟩ i (bl s (kK s i)) l':=by rw[H,ab]
   have an:bB M<=4:=by simp[H]
   have ao:∀a∈M,a<1000:=by simp[H]
   have ag:bB l'<1000:=by rw[ab];omega
   replace G:gN (λk=>k=r) p nb fb w ev W ev':=by rw[U];exact G
   clear ab U H;have ht:(⟨N,M⟩:Tm).ok:=⟨al,an,ao⟩
   generalize V:(⟨N,M⟩:Tm)=t at ht X z;have aa:=X.rb.rd.c0;have y0:=X.box.c0;have y1:=X.box.c1;have y2:=X.box.c2;have y3:=X.box.c3;have y4:=X.box.c4;have y5:=X.box.c5;have j:=λm=>Ot (bF W m) (X.rb.bk.drewN m) t ht;unfold jB gu at j;cases C:qV l' t with
   |false=>
    rw[C] at j
    go_region_with(go_at_call 104;refine(j _).mono ?_;rintro e w6 ⟨rfl,B6,K6⟩;have J:=(X.rb.drewN _).dF K6;have Q6:=(G.drewN _).trans J.2)
    all_goals
     go_wp2_with(go_at_call 60;refine(jk _ _ _).mono ?_;rintro e w2 ⟨rfl,rfl⟩);refine⟨rfl,?_⟩;first|rw[z]|rw[V]|skip
     unfold oj;rw[C];exact⟨rfl,ev',_,J.1,Q6⟩
   |true=>
    rw[C] at j
    go_region_with(go_at_call 104;refine(j _).mono ?_;rintro e w6 ⟨rfl,B6,K6⟩;have J:=(X.rb.drewN _).dF K6;have Q6:=(G.drewN _).trans J.2;have D:=(X.drewN _).qR J.2 J.1)
    all_goals
     clear aa y0 y1 y2 y3 y4 y5 j J;have aa:=D.rb.rd.c0;have y0:=D.box.c0;have y1:=D.box.c1;have y2:=D.box.c2;have y3:=D.box.c3;have y4:=D.box.c4;have y5:=D.box.c5;have T:=λm=>WC (bF w6 m) (D.rb.bk.drewN m) t ht ag D.rb.bs;unfold jB gu at T
     go_wp2
     go_region_with(go_at_call 105;refine(T _).mono ?_;rintro e w7 ⟨rfl,ad,B7,K7,L7⟩;have P7:=(D.rb.drewN _).zh K7 B7 L7;have Q7:=(Q6.drewN _).trans P7.2)
     all_goals
      go_wp2;go_ret;first|rw[z]|rw[V]|skip
      unfold oj;rw[C];exact⟨rfl,ad,P7.1,Q7⟩
  |true=>
   rw[cY rfl];rw[ac] at L;have h5:=lB ac;have h6:=iV (c:=40) h4;have E:=λ(w4:ay) (x:Nat) X=>IA w4 base r p ev nb fb s (behind s (bl s (kK s i)) 40) l (u+1) x N X bO bO bO;rw[show((u+1:Nat):Int)=(u:Int)+1 from by omega] at E;cases hp:jO s f (u+1) (behind s (bl s (kK s i)) 40) l [] with
   |bad c q l'=>
    rw[hp] at E
    go_wp2_with(first|(go_at_call 101;refine F.mono ?_;rintro e I ⟨rfl,Q,P⟩;have S3:=L I Q;have a0:=P.kept.size;unfold gu at S3)|(go_at_call 102;refine S3.mono ?_;rintro e w4 ⟨rfl,X,G4⟩;have A4:=E w4 _ X)|(go_at_call 103;refine A4.mono ?_;rintro e w5 ⟨rfl,a3,k5,R5,G5⟩));have G:=((P.trans G4).mono (Y:=λk=>k=r∨k=I.heap.size) λ_ _ e=>cB e).trans G5;exact⟨rfl,rfl,a3,k5,R5,G.mono λk hk e=>e.elim id λe=>by omega⟩
   |ok M k l'=>
    rw[hp] at E;let⟨B0,B1⟩:=(nM s f).2 (u+1) (behind s (bl s (kK s i)) 40) l [] h6;let⟨B2,B3⟩:=B1 M k l' hp;let⟨A1,an,A3⟩:=(vD s f).2 (u+1) (behind s (bl s (kK s i)) 40) l [] M k l' h6 bQ bQ hp;have ag:bB l'<1000:=bO
    have ao:∀a∈M,a<1000:=λa ha=>by have:=A3 a ha;omega
    go_wp2_with(first|(go_at_call 101;refine F.mono ?_;rintro e I ⟨rfl,Q,P⟩;have S3:=L I Q;have a0:=P.kept.size;unfold gu at S3)|(go_at_call 102;refine S3.mono ?_;rintro e w4 ⟨rfl,X4,G4⟩;have A4:=E w4 _ X4)|(go_at_call 103;refine A4.mono ?_;rintro e W ⟨rfl,ev',X,G5⟩));have G0:=((P.trans G4).mono (Y:=λk=>k=r∨k=I.heap.size) λ_ _ e=>cB e).trans G5;have G:gN (λk=>k=r) p nb fb w ev W ev':=G0.mono (λk hk e=>e.elim id λe=>by omega);clear L S3 P G4 Q F G5 G0 A4 E X4;generalize I.heap.size=x at *;have z:oj ⟨N,M⟩ i k l'=oj ⟨N,M⟩ i k l':=rfl;show Code.wp _ _ _ _ _;have ht:(⟨N,M⟩:Tm).ok:=⟨al,an,ao⟩
    generalize V:(⟨N,M⟩:Tm)=t at ht X z;have aa:=X.rb.rd.c0;have y0:=X.box.c0;have y1:=X.box.c1;have y2:=X.box.c2;have y3:=X.box.c3;have y4:=X.box.c4;have y5:=X.box.c5;have j:=λm=>Ot (bF W m) (X.rb.bk.drewN m) t ht;unfold jB gu at j;cases C:qV l' t with
    |false=>
     rw[C] at j
     go_region_with(go_at_call 104;refine(j _).mono ?_;rintro e w6 ⟨rfl,B6,K6⟩;have J:=(X.rb.drewN _).dF K6;have Q6:=(G.drewN _).trans J.2)
     all_goals
      go_wp2_with(go_at_call 60;refine(jk _ _ _).mono ?_;rintro e w2 ⟨rfl,rfl⟩);refine⟨rfl,?_⟩;first|rw[z]|rw[V]|skip
      unfold oj;rw[C];exact⟨rfl,ev',_,J.1,Q6⟩
    |true=>
     rw[C] at j
     go_region_with(go_at_call 104;refine(j _).mono ?_;rintro e w6 ⟨rfl,B6,K6⟩;have J:=(X.rb.drewN _).dF K6;have Q6:=(G.drewN _).trans J.2;have D:=(X.drewN _).qR J.2 J.1)
     all_goals
      clear aa y0 y1 y2 y3 y4 y5 j J;have aa:=D.rb.rd.c0;have y0:=D.box.c0;have y1:=D.box.c1;have y2:=D.box.c2;have y3:=D.box.c3;have y4:=D.box.c4;have y5:=D.box.c5;have T:=λm=>WC (bF w6 m) (D.rb.bk.drewN m) t ht ag D.rb.bs;unfold jB gu at T
      go_wp2
      go_region_with(go_at_call 105;refine(T _).mono ?_;rintro e w7 ⟨rfl,ad,B7,K7,L7⟩;have P7:=(D.rb.drewN _).zh K7 B7 L7;have Q7:=(Q6.drewN _).trans P7.2)
      all_goals
       go_wp2;go_ret;first|rw[z]|rw[V]|skip
       unfold oj;rw[C];exact⟨rfl,ad,P7.1,Q7⟩
theorem M9:∀f,Ng f
 |0=>λ_ _ _ _ _ _ _ _ _ _ _ _ a=>absurd a bO
 |f+1=>XF (args_at f λg _=>M9 g)
abbrev rK(w:ay)(b:Nat)(ty:aE)(v:aA):Prop:=bE w b ty 1 λ_=>v
variable{ty e:aE}
def rK.cell(h:rK w b ty v):cz w b 0 v:=dU h (i:=0) bO
def Nb(w):(Instr.typeAssert .nilIface 20 134 aK).run prog w=.ok (.tuple #[.agg #[iz 0,iz 0],.bool aL]) w:=bV
def Na(w v):(Instr.typeAssert (.iface 134 v) 20 134 aK).run prog w=.ok (.tuple #[v,.bool aK]) w:=bV
def ZW:Array.replicate 18 aF=#[aF,aF,aF,aF,aF,aF,aF,aF,aF,aF,aF,aF,aF,aF,aF,aF,aF,aF]:=rfl
theorem MT(a c h j m w):
  CallsD prog 56 #[a,c,h,j,m] .returning w λe z w'=>e=aw (.tuple #[])∧z=.returning∧w'=bC w (aq #[iz 0,iz 0] 134):=by
 refine Lb func56 rfl λq cs u=>?_;apply wpS_seq;apply wpS_region;simp[wpOpsS,go_sem,recoverD,u,ntmps56,Exit.thenS,Nb,ZW];refine wpS_of_wp ?_
 go_wp2;cases q
 simp_all[bodyPostS,aI,results56]
def rK.frozen(h:rK w b ty v):bG w (az b 0)=aL:=cA h 0
def rK.of_block(h:rK w b ty v)(e:w'.heap[b]?=w.heap[b]?):rK w' b ty v:=du h e
theorem rK.set(h:rK w b ty v)(u):rK (aW w (az b 0) u) b ty u:=
 eO (jf h 0 u) λj a=>by simp;omega
def rK.other{c:Nat}(h:rK w b ty v)(a:b≠c)(o u):rK (aW w (az c o) u) b ty v:=
 h.of_block ((eH (bW _ w) o u).block b (dO h) a)
def jJ:=@rK.other
structure oZ(w:ay)(b r:Nat)(n0:Nat)(v2 v3 v4:aA):Prop where
 b1:rK w b 132 (ak (ah ⟨r,0,ai⟩))
 b2:rK w (b+1) 3 v2
 b3:rK w (b+2) 37 v3
 b4:rK w (b+3) 3 v4
 b5:rK w (b+4) 3 (ae af n0)
variable{S A A':Nat->Prop}
def oZ.kept(h:oZ w b r n0 v2 v3 v4)(K:bI S w w')(a:∀k,b<=k->k<=b+4->¬S k):oZ w' b r n0 v2 v3 v4:=
 ⟨h.b1.of_block (K.block _ (dO h.b1) (a _ bO bO)),h.b2.of_block (K.block _ (dO h.b2) (a _ bO bO)),h.b3.of_block (K.block _ (dO h.b3) (a _ bO bO)),h.b4.of_block (K.block _ (dO h.b4) (a _ bO bO)),h.b5.of_block (K.block _ (dO h.b5) (a _ bO bO))⟩
def oZ.put(h:oZ w b r n0 v2 v3 v4)(a c j):oZ (aW (aW (aW w ⟨b+1,0,ai⟩ a) ⟨b+2,0,ai⟩ c) ⟨b+3,0,ai⟩ j) b r n0 a c j:=
 ⟨((h.b1.other bO _ _).other bO _ _).other bO _ _,((h.b2.set a).other bO _ _).other bO _ _,((h.b3.other bO _ _).set c).other bO _ _,((h.b4.other bO _ _).other bO _ _).set j,((h.b5.other bO _ _).other bO _ _).other bO _ _⟩
structure zY(b r p nb fb:Nat)(ev:aA):Prop where
 r:r<b
 p:p<b
 n:nb<b
 f:fb<b
 e:∀k,aP ev=ah k->k<b∨b+4<k
theorem zY.Gg(h:zY b r p nb fb ev):∀k,b<=k->k<=b+4->¬me p ev nb fb k:=by
 intro k c j a;have:=h.p;have:=h.n;have:=h.f;obtain e|e|e|e:=a
 .omega
 .omega
 .omega
 have:=h.e k e;omega
def aam(p:Nat)(ev:aA)(nb fb b k:Nat):Prop:=me p ev nb fb k∨(b<=k∧k<=b+4)
theorem zf{w}{base b r p}{ev}{nb fb}{s}{i}(l u)(h:RB w base r p ev nb fb s i (l++u)){v2 v3 v4}(B:oZ w b r (bB l) v2 v3 v4)(A:zY b r p nb fb ev)(c q):
  CallsD prog 56 #[ak (ah ⟨b,0,ai⟩),ak (ah ⟨b+4,0,ai⟩),ak (ah ⟨b+1,0,ai⟩),ak (ah ⟨b+2,0,ai⟩),ak (ah ⟨b+3,0,ai⟩)] (.panicking [{v:=nD c q,recovered:=aL}]) w λe u' w'=>e=aw (.tuple #[])∧u'=.panicking [{v:=nD c q,recovered:=aK}]∧∃ev',Bk w' base p ev' nb fb l∧aP ev'=aP ev∧oZ w' b r (bB l) (ae af 0) (ae af c) (ae af q)∧bI (aam p ev nb fb b) w w':=by
 refine Lb func56 rfl λc₀ cs R=>?_;unfold nD at R⊢;apply wpS_seq;apply wpS_region;simp[wpOpsS,go_sem,recoverD,R,ntmps56,Exit.thenS,Na,ZW];refine wpS_of_wp ?_;have N:bE (bC w (aR #[ae af c,ae af q] 134)) w.heap.size 134 2 (λj=>(#[aS .i64 c,aS .i64 q])[j]?.getD aF):=ey w #[ae af c,ae af q] 134;generalize M:bC w (aR #[ae af c,ae af q] 134)=O at N⊢;have H:dG w O:=M▸dD (bW _ w) _;have Q:=(h.dF H).1;have G:=B.kept H λ_ _ _ e=>e;have ag:b+4<w.heap.size:=dO B.b5;have L:∀k,aP ev=ah k->k<w.heap.size:=λk e=>by
  obtain⟨J,h0⟩|⟨b,ab,ac,J,hb,ad⟩:=h.bk.rows.2
  .rw[J] at e;simp[aP] at e
  grind[aP]
 generalize w.heap.size=x at *;have al:=Q.rd.c0;have V:=G.b1.cell;have aa:=G.b5.cell;have D:=λm=>Lx (bF O m) l u (Q.bk.drewN m)
 go_wp2_with fail
 go_region_with(go_at_call 57;refine(D _).mono ?_;rintro e z ⟨rfl,E,T,P,I⟩)
 all_goals
  have a:=(G.kept (dR (bW (λ_=>False) O) _) λ_ _ _ e=>e).kept I A.Gg;have F:=du N (I.block x (dO N) (λe=>by
   have:=A.p;have:=A.n;have:=A.f;obtain e|e|e|e:=e
   .omega
   .omega
   .omega
   have:=L x e;omega))
  have U:bI (aam p ev nb fb b) w z:=gQ (dR (dW H λ_ _ e=>e.elim) _) (dW I λ_ _ e=>cB e);have x0:aU z ⟨x,0,ai⟩=ah (ae af c):=dU F (i:=0) bO;have x1:aU z ⟨x,1,ai⟩=ah (ae af q):=dU F (i:=1) bO;have J:=a.b2.cell;have e3:=a.b3.cell;have e4:=a.b4.cell;have f2:=a.b2.frozen;have f3:=a.b3.frozen;have f4:=a.b4.frozen
  go_wp2_with fail
  go_region
  all_goals
   have hp:=A.p;have hn:=A.n;have hf:=A.f;have C:∀k,b<=k->k<=b+4->aP E≠ah k:=λk h1 h2 e=>by have:=A.e k (P▸e);omega
   refine⟨rfl,_,rfl,.tuple #[],by simp[aI,results56],rfl,rfl,E,?_,P,(a.put _ _ _).kept (Xh (bW (λ_=>False) _)) λ_ _ _ e=>e,?_⟩
   .have k1:dV (b+1) z (aW z ⟨b+1,0,ai⟩ (ae af 0)):=eH (bW _ z) _ _;have k2:=eH (nb:=b+2) (bW _ (aW z ⟨b+1,0,ai⟩ (ae af 0))) 0 (ae af c);have k3:=eH (nb:=b+3) (bW _ (aW (aW z ⟨b+1,0,ai⟩ (ae af 0)) ⟨b+2,0,ai⟩ (ae af c))) 0 (ae af q);exact(((T.iw k1 bO bO bO (C _ bO bO)).iw k2 bO bO bO (C _ bO bO)).iw k3 bO bO bO (C _ bO bO)).drewN 1
   exact(eY (p:=⟨b+3,0,ai⟩) (eY (p:=⟨b+2,0,ai⟩) (eY (p:=⟨b+1,0,ai⟩) U (cI ⟨by show b<=b+1;omega,by show b+1<=b+4;omega⟩) _) (cI ⟨by show b<=b+2;omega,by show b+2<=b+4;omega⟩) _) (cI ⟨by show b<=b+3;omega,by show b+3<=b+4;omega⟩) _).drew
def iY(s:ByteArray)(l:List Tm):Nat×Nat×Nat×List Tm:=match iI s (2*s.size+1) 0 (bl s 0) l with
 | .bad c q _=>(0,c,q,l)
 | .ok n k l'=>if k<s.size then(0,2,k,l) else if 150<bB l' then(0,6,0,l) else(n,0,0,l')
def jh(s:ByteArray)(l:List Tm):Nat×Nat×Nat×List Tm:=if 400<s.size then(0,1,0,l) else iY s l
theorem MX(w:ay)(r n0:Nat):oZ (bC (bC (bC (bC (bC w (aq #[pz r] 132)) (aq #[iz 0] 3)) (aq #[iz 0] 37)) (aq #[iz 0] 3)) (aq #[iz n0] 3)) w.heap.size r n0 (iz 0) (iz 0) (iz 0):=by
 have one:∀(w:ay)(v:aA)(ty:aE),rK (bC w (aq #[v] ty)) (hz w) ty v:=λw v ty=>eO (ey w #[v] ty) (λj u=>by grind)
 have keep:∀{w:ay}{b:Nat}{v:aA}{ty:aE}(o:Obj),rK w b ty v->rK (bC w o) b ty v:=λ{w b v ty} o h=>h.of_block ((dD (bW (λ_=>False) w) o).block b (dO h) λe=>e);have a:(bC w (aq #[pz r] 132)).heap.size=hz w+1:=bQ
 have c:(bC (bC w (aq #[pz r] 132)) (aq #[iz 0] 3)).heap.size=hz w+2:=bQ
 have m:(bC (bC (bC w (aq #[pz r] 132)) (aq #[iz 0] 3)) (aq #[iz 0] 37)).heap.size=hz w+3:=bQ
 have q:(bC (bC (bC (bC w (aq #[pz r] 132)) (aq #[iz 0] 3)) (aq #[iz 0] 37)) (aq #[iz 0] 3)).heap.size=hz w+4:=bQ
 exact⟨keep _ (keep _ (keep _ (keep _ (one w _ _)))),keep _ (keep _ (keep _ (a▸one _ (iz 0) 3))),keep _ (keep _ (c▸one _ (iz 0) 37)),keep _ (m▸one _ (iz 0) 3),q▸one _ (iz n0) 3⟩
theorem oZ.qR{c:ay}(B:oZ c b r n0 v2 v3 v4)(A:zY b r p nb fb ev)(hs:c.heap.size=b+5)(G:gN (λk=>k=r) p nb fb c ev w' ev'):oZ w' b r n0 v2 v3 v4∧zY b r p nb fb ev':=by
 refine⟨B.kept G.kept ?_,⟨A.r,A.p,A.n,A.f,λk e=>?_⟩⟩
 .rintro k h j (e|e)
  .have:=A.r;omega
  exact A.Gg k h j e
 obtain a|a:=G.row
 .exact A.e k (a▸e)
 have:=a k e;omega
def oZ.ady(h:oZ w b r n0 v2 v3 v4)(a):oZ (aW w ⟨b+1,0,ai⟩ a) b r n0 a v3 v4:=
 ⟨h.b1.other bO _ _,h.b2.set a,h.b3.other bO _ _,h.b4.other bO _ _,h.b5.other bO _ _⟩
theorem Su{w}{base r p}{ev}{nb fb}{s}{l}(h:RB w base r p ev nb fb s 0 l)(hl:bB l<=150):
  aB prog 27 #[pz r] w λe w'=>e=aw (.tuple #[iz ((iY s l).1:Int),iz ((iY s l).2.1:Int),iz ((iY s l).2.2.1:Int)])∧
   ∃ev',Bk w' base p ev' nb fb (iY s l).2.2.2∧gN (λk=>k=r) p nb fb w ev w' ev':=by
 have a8:=h.rd.small;have BM:=MX w r (bB l);have K4:dG w (bC (bC (bC (bC w (aq #[pz r] 132)) (aq #[iz 0] 3)) (aq #[iz 0] 37)) (aq #[iz 0] 3)):=(((bW _ w).alloc _ |>.alloc _).alloc _).alloc _;have K5:dG w (bC (bC (bC (bC (bC w (aq #[pz r] 132)) (aq #[iz 0] 3)) (aq #[iz 0] 37)) (aq #[iz 0] 3)) (aq #[iz (bB l)] 3)):=K4.alloc _;have R4:=(h.dF K4).1;have P5:=h.dF K5;have S5:(bC (bC (bC (bC (bC w (aq #[pz r] 132)) (aq #[iz 0] 3)) (aq #[iz 0] 37)) (aq #[iz 0] 3)) (aq #[iz (bB l)] 3)).heap.size=w.heap.size+5:=bQ
 have ad:=vx _ R4.bk;have a9:=R4.rd.c0;have Ap:zY w.heap.size r p nb fb ev:=by
  let⟨Dn,n1,_,_⟩:=h.bk.lF;let⟨Df,f1,_,_⟩:=h.bk.om;refine⟨h.rd.row.lt,h.bk.kE.lt,gw n1,gw f1,λk e=>cB ?_⟩;obtain⟨e2,h0⟩|⟨b,a2,a3,e2,hb,a4⟩:=h.bk.rows.2
  .rw[e2] at e;simp[aP] at e
  grind[aP]
 go_enter_defers func27,ntmps27
 go_wp2_with(go_at_call 35;refine ad.mono ?_;rintro e w2 ⟨rfl,rfl⟩);rw[show w.heap.size+1+1+1+1=w.heap.size+4 from rfl,show w.heap.size+1+1+1=w.heap.size+3 from rfl,show w.heap.size+1+1=w.heap.size+2 from rfl];generalize(bC (bC (bC (bC (bC w (aq #[pz r] 132)) (aq #[iz 0] 3)) (aq #[iz 0] 37)) (aq #[iz 0] 3)) (aq #[iz (bB l)] 3))=w5 at BM P5 S5 K5⊢;obtain⟨R5,G5⟩:=P5;generalize hb:w.heap.size=b at *;have BL:=vO R5.rd;have U:=jV (s:=s) (i:=0) bO;cases L:iI s (2*s.size+1) 0 (bl s 0) l with
 |bad c q l'=>
  have C:=((nM s (2*s.size+1)).1 0 (bl s 0) l U).1;rw[L] at C;obtain⟨z,F⟩:=C;have j:l++z=l':=F
  go_wp2_with(first|(go_at_call 58;refine BL.mono ?_;rintro e w6 ⟨rfl,R6,K6⟩;have J:=R5.read K6 R6;have B6:=BM.qR Ap S5 J.2;have al:=B6.1.b1.cell;have T6:=M9 (2*s.size+1) w6 base r p ev nb fb s (bl s 0) l 0 J.1 bO bO bO;rw[L] at T6)|(go_at_call 59;refine T6.mono ?_;rintro e w7 ⟨rfl,E,k7,R7,G7⟩));have H:iY s l=(0,c,q,l):=by simp[iY,L]
  have N:=BM.qR Ap S5 (J.2.trans G7);have GA:gN (λk=>k=r∨(b<=k∧k<=b+4)) p nb fb w ev w7 E:=((G5.trans J.2).trans G7).mono λ_ _ e=>cB e;refine ug (f:=56) (args:=#[pz b,ak (ah ⟨b+4,0,ai⟩),ak (ah ⟨b+1,0,ai⟩),ak (ah ⟨b+2,0,ai⟩),ak (ah ⟨b+3,0,ai⟩)]) bQ aey ?_;refine(zf l z (j.symm▸R7) N.1 N.2 c q).mono ?_;rintro e u' w9 ⟨rfl,rfl,G,P,E9,a,Q⟩;have z2:=a.b2.cell;have z3:=a.b3.cell;have z4:=a.b4.cell;have GG:gN (λk=>k=r) p nb fb w ev w9 G:=adn (X:=λk=>k=r∨(b<=k∧k<=b+4)) (tJ GA ⟨dW Q λk _ e=>e.elim cI λe=>cB (cI e),cB E9⟩) (λk hk e=>e.elim id λe=>by omega);refine⟨.tuple #[iz 0,iz c,iz q],?_,?_⟩
  .simp[aI,results27,go_sem,z2,z3,z4]
  grind
 |ok n k l'=>
  let⟨C,an⟩:=(nM s (2*s.size+1)).1 0 (bl s 0) l U;let⟨a7,hk⟩:=an n k l' L;rw[L] at C;obtain⟨z,F⟩:=C;have j:l++z=l':=F;let⟨a6,a5⟩:=(vD s (2*s.size+1)).1 0 (bl s 0) l n k l' U L
  go_wp2_with(first|(go_at_call 58;refine BL.mono ?_;rintro e w6 ⟨rfl,R6,K6⟩;have J:=R5.read K6 R6;have B6:=BM.qR Ap S5 J.2;have al:=B6.1.b1.cell;have T6:=M9 (2*s.size+1) w6 base r p ev nb fb s (bl s 0) l 0 J.1 bO bO bO;rw[L] at T6)|(go_at_call 59;refine T6.mono ?_;rintro e w7 ⟨rfl,E,R7,G7⟩;have N:=BM.qR Ap S5 (J.2.trans G7);have n1:=N.1.b2.cell;have n2:=N.1.b2.frozen));have u:=N.2;have hr:=u.r;have hp:=u.p;have hn:=u.n;have hf:=u.f;have T:=R7.setOther (x:=b+1) bO bO bO bO (λe=>by have:=u.e _ e;omega) 0 (iz n);have B8:=N.1.ady (iz n);have GA:gN (λk=>k=r∨(b<=k∧k<=b+4)) p nb fb w ev (aW w7 ⟨b+1,0,ai⟩ (iz n)) E:=(((G5.trans J.2).trans G7).mono λ_ _ e=>cB e).setCell (cI ⟨by omega,by omega⟩) _;clear n1 n2 N R7 G7 T6 al B6 J R6 K6 BL an G5 R5 K5;generalize aW w7 ⟨b+1,0,ai⟩ (iz n)=O at T B8 GA⊢;have a0:=B8.b1.cell;have ba:=T.rd.c1;have bb:=T.rd.c2;have bc:=T.bk.small;by_cases V:k<s.size
  .have H:iY s l=(0,2,k,l):=by simp[iY,L,V]
   have a1:=λm=>((B8.kept (dR (bW (λ_=>False) O) m) λ_ _ _ e=>e).b1.cell);go_quiet(fail)
   go_wp2_with(go_at_call 60;refine(jk _ _ _).mono ?_;rintro e w2 ⟨rfl,rfl⟩);have M:=T.drewN nq;have D:oZ (bF O nq) b r (bB l) (iz n) (iz 0) (iz 0)∧zY b r p nb fb E:=⟨B8.kept (dR (bW (λ_=>False) O) nq) λ_ _ _ e=>e,u⟩
   have GB:=GA.drewN nq;refine ug (f:=56) (args:=#[pz b,ak (ah ⟨b+4,0,ai⟩),ak (ah ⟨b+1,0,ai⟩),ak (ah ⟨b+2,0,ai⟩),ak (ah ⟨b+3,0,ai⟩)]) bQ aey ?_;refine(zf l z (j.symm▸M) D.1 D.2 2 k).mono ?_;rintro e u' w9 ⟨rfl,rfl,G,P,E9,a,Q⟩;have z2:=a.b2.cell;have z3:=a.b3.cell;have z4:=a.b4.cell;have GG:gN (λk=>k=r) p nb fb w ev w9 G:=adn (X:=λk=>k=r∨(b<=k∧k<=b+4)) (tJ GB ⟨dW Q λk _ e=>e.elim cI λe=>cB (cI e),cB E9⟩) (λk hk e=>e.elim id λe=>by omega);clear Q a;refine⟨.tuple #[iz 0,iz 2,iz k],?_,?_⟩
   .simp[aI,results27,go_sem,z2,z3,z4]
   grind
  by_cases hm:150<bB l'
  .have H:iY s l=(0,6,0,l):=by simp[iY,L,V,hm]
   have d2:(150:Int)<(bB l':Int):=bO
   go_quiet(fail);have M:=T.drewN nq;have SZ:=vx _ M.bk;have D:oZ (bF O nq) b r (bB l) (iz n) (iz 0) (iz 0)∧zY b r p nb fb E:=⟨B8.kept (dR (bW (λ_=>False) O) nq) λ_ _ _ e=>e,u⟩
   have GB:=GA.drewN nq;have ag:=D.1.b1.cell;have ao:=M.rd.c0
   go_wp2_with(first|(go_at_call 35;refine SZ.mono ?_;rintro e w2 ⟨rfl,rfl⟩)|(go_at_call 60;refine(jk _ _ _).mono ?_;rintro e w2 ⟨rfl,rfl⟩));refine ug (f:=56) (args:=#[pz b,ak (ah ⟨b+4,0,ai⟩),ak (ah ⟨b+1,0,ai⟩),ak (ah ⟨b+2,0,ai⟩),ak (ah ⟨b+3,0,ai⟩)]) bQ aey ?_;refine(zf l z (j.symm▸M) D.1 D.2 6 0).mono ?_;rintro e u' w9 ⟨rfl,rfl,G,P,E9,a,Q⟩;have z2:=a.b2.cell;have z3:=a.b3.cell;have z4:=a.b4.cell;have GG:gN (λk=>k=r) p nb fb w ev w9 G:=adn (X:=λk=>k=r∨(b<=k∧k<=b+4)) (tJ GB ⟨dW Q λk _ e=>e.elim cI λe=>cB (cI e),cB E9⟩) (λk hk e=>e.elim id λe=>by omega);clear Q a;refine⟨.tuple #[iz 0,iz 6,iz 0],?_,?_⟩
   .simp[aI,results27,go_sem,z2,z3,z4]
   rw[H];exact⟨rfl,G,P,GG⟩
  have H:iY s l=(n,0,0,l'):=by simp[iY,L,V,hm]
  have d2:¬(150:Int)<(bB l':Int):=bO
  go_quiet(fail);have M:=T.drewN nq;have SZ:=vx _ M.bk;have D:oZ (bF O nq) b r (bB l) (iz n) (iz 0) (iz 0):=B8.kept (dR (bW (λ_=>False) O) nq) λ_ _ _ e=>e;have GB:=GA.drewN nq;have ag:=D.b1.cell;have ao:=M.rd.c0;have c2:=D.b2.cell;have c3:=D.b3.cell;have c4:=D.b4.cell;have f2:=D.b2.frozen;have f3:=D.b3.frozen;have f4:=D.b4.frozen
  go_wp2_with(go_at_call 35;refine SZ.mono ?_;rintro e w2 ⟨rfl,rfl⟩);have aa:=D.put (iz n) (iz 0) (iz 0);have ac:=((M.setOther (x:=b+1) bO bO bO bO (λe=>by have:=u.e _ e;omega) 0 (iz n)).setOther (x:=b+2) bO bO bO bO (λe=>by have:=u.e _ e;omega) 0 (iz 0)).setOther (x:=b+3) bO bO bO bO (λe=>by have:=u.e _ e;omega) 0 (iz 0);have GC:=((GB.setCell (x:=b+1) (o:=0) (cI ⟨by omega,by omega⟩) (iz n)).setCell (x:=b+2) (o:=0) (cI ⟨by omega,by omega⟩) (iz 0)).setCell (x:=b+3) (o:=0) (cI ⟨by omega,by omega⟩) (iz 0);clear c2 c3 c4 f2 f3 f4 ag ao SZ;generalize(aW (aW (aW (bF O nq) ⟨b+1,0,ai⟩ (iz n)) ⟨b+2,0,ai⟩ (iz 0)) ⟨b+3,0,ai⟩ (iz 0))=I at aa ac GC⊢;refine ug (f:=56) (args:=#[pz b,ak (ah ⟨b+4,0,ai⟩),ak (ah ⟨b+1,0,ai⟩),ak (ah ⟨b+2,0,ai⟩),ak (ah ⟨b+3,0,ai⟩)]) bQ aey ?_;refine(MT _ _ _ _ _ I).mono ?_;rintro e u' ap ⟨rfl,rfl,rfl⟩;have ab:dG I (bC I (aq #[iz 0,iz 0] 134)):=dD (bW _ I) _;have R:=ac.dF ab;have a:=aa.kept ab λ_ _ _ e=>e;have GD:gN (λk=>k=r) p nb fb w ev _ E:=(GC.trans (R.2.mono λ_ _ e=>cB e)).mono (λk hk e=>e.elim id λe=>by omega);generalize bC I (aq #[iz 0,iz 0] 134)=ap at R a GD⊢;have z2:=a.b2.cell;have z3:=a.b3.cell;have z4:=a.b4.cell;refine⟨.tuple #[iz n,iz 0,iz 0],?_,?_⟩
  .simp[aI,results27,go_sem,z2,z3,z4]
  rw[H];exact⟨rfl,E,R.1.bk,GD⟩
theorem Je{w}{base p}{ev}{nb fb}{l}(h:Bk w base p ev nb fb l)(s)(hs:s.size<=400)(a:base<=w.heap.size):
  RB (bC w (aq #[pz p,.string s,iz 0] 86)) base w.heap.size p ev nb fb s 0 l:=by
 have K:dG w (bC w (aq #[pz p,.string s,iz 0] 86)):=dD (bW _ w) _;let⟨Dn,E,_,_⟩:=h.lF;let⟨F,z,_,_⟩:=h.om;have H:=h.kE.lt;have I:=gw E;have J:=gw z;refine⟨⟨eO (ey w #[pz p,.string s,iz 0] 86) ?_,by omega,hs⟩,h.dF K,by omega,by omega,by omega,?_,bZ a K.size⟩
 .intro j C;have D:j<3:=C;obtain rfl|rfl|rfl:=(by omega:j=0∨j=1∨j=2)<;>rfl
 intro e;obtain⟨c,G⟩|⟨b,m,q,c,L,u⟩:=h.rows.2
 .rw[c] at e;simp[aP] at e
 grind[aP]
theorem Ie(w base){p}{ev}{nb fb}{l}(h:Bk w base p ev nb fb l)(hl:bB l<=150)(a:base<=w.heap.size)(s):
  aB prog 13 #[pz p,.string s] w λe w'=>e=aw (.tuple #[iz ((jh s l).1:Int),iz ((jh s l).2.1:Int),iz ((jh s l).2.2.1:Int)])∧
   ∃ev',Bk w' base p ev' nb fb (jh s l).2.2.2∧bI (me p ev nb fb) w w'∧(aP ev'=aP ev∨∀k,aP ev'=ah k->w.heap.size<=k):=by
 by_cases hs:400<s.size
 .have hp:jh s l=(0,1,0,l):=by simp[jh,hs]
  have d:(400:Int)<(s.size:Int):=bO
  go_enter func13,ntmps13
  go_wp2;refine⟨rfl,.tuple #[iz 0,iz 1,iz 0],by simp[aI,results13],?_⟩;rw[hp];grind[bI.refl]
 have hp:jh s l=iY s l:=by simp[jh,hs]
 have d:¬(400:Int)<(s.size:Int):=bO
 have R:=Je h s bO a;have W:=Su R hl;go_enter func13,ntmps13
 go_wp2_with(go_at_call 27;refine W.mono ?_;rintro e C ⟨rfl,q,z,u⟩);refine⟨rfl,.tuple #[iz ((iY s l).1:Int),iz ((iY s l).2.1:Int),iz ((iY s l).2.2.1:Int)],by simp[aI,results13],?_⟩;rw[hp];refine⟨rfl,q,z,?_,?_⟩
 .have c:bI (me p ev nb fb) w (bC w (aq #[pz p,.string s,iz 0] 86)):=dD (bW _ w) _;have j:=u.kept;refine⟨j.os.trans c.os,j.tape.trans c.tape,j.output.trans c.output,bZ c.size j.size,λk m hs=>(j.block k (cQ m c.size) ?_).trans (c.block k m hs)⟩;rintro(e|e)
  .omega
  exact hs e
 obtain e|e:=u.row
 .exact cB e
 refine cI λk m=>?_;have:=e k m;simp at this;omega
def Hj(l:List Tm):Nat->Nat->Prop
 |0,_=>False
 |f+1,n=>∃t,l[n]?=ah t∧∀a∈t.args,Hj l f a
theorem Hj.up{l:List Tm}:∀{f n:Nat},Hj l f n->Hj l (f+1) n
 |0,_,h=>h.elim
 |_+1,_,⟨t,j,c⟩=>⟨t,j,λa h=>(c a h).up⟩
theorem Hj.mono{f:Nat}(h:Hj l f n)(a:f<=g):Hj l g n:=by
 induction a with
 |refl=>exact h
 |step _ c=>exact c.up
theorem Hj.prefix{l l':List Tm}(hl:l <+:l'):∀{f n:Nat},Hj l f n->Hj l' f n
 |0,_,h=>h.elim
 |_+1,_,⟨t,j,c⟩=>⟨t,by obtain⟨r,rfl⟩:=hl;grind,λa h=>(c a h).prefix hl⟩
def Hs(l:List Tm):Prop:=∀n,n<bB l->Hj l 13 n
theorem Yu{t:Tm}(h:qC l t=ah i):l[i]?=ah t:=by let⟨a,hp,_⟩:=fJ.1 h;grind
theorem ZF(l t):(pq l t)[uX l t]?=ah t:=by grind[pq,uX,qC,Yu]
theorem Hs.add(h:Hs l){t:Tm}(m:g<=12)(j:∀a∈t.args,Hj l g a):Hs (pq l t)∧Hj (pq l t) (g+1) (uX l t):=by
 have c:Hj (pq l t) (g+1) (uX l t):=⟨t,ZF l t,λa x=>(j a x).prefix (uY l t)⟩
 refine⟨λn q=>?_,c⟩;by_cases hl:n<bB l
 .exact(h n hl).prefix (uY l t)
 have:n=uX l t:=by grind[pq,qC,uX]
 rw[this];exact c.mono bO
theorem aci(s):∀f:Nat,
  (∀h i l n k l',i<=s.size->Hs l->iI s f h i l=.ok n k l'->Hs l'∧h<=12∧Hj l' (13-h) n)∧
  (∀h i l m x k l',i<=s.size->Hs l->(∀a∈m,Hj l (13-h) a)->jO s f h i l m=.ok x k l'->Hs l'∧∀a∈x,Hj l' (13-h) a)
 |0=>⟨λ_ _ _ _ _ _ _ _ e=>(by rw[iI] at e;cases e),λ_ _ _ _ _ _ _ _ _ _ e=>(by rw[jO] at e;cases e)⟩
 |f+1=>by
  let⟨M,L⟩:=aci s f;let⟨J,R⟩:=nM s f;constructor
  .intro h i l n k l' u hs e;rw[iI] at e
   split at e
   .cases e
   have N:=jV (pg u)
   split at e
   .cases e
   next j=>
   split at e
   .next P=>
    have O:=iV (c:=40) N
    split at e
    .cases e
    next m k2 E q=>
    let⟨F,z⟩:=L _ _ _ _ _ _ _ O hs bQ q;unfold oj at e
    split at e
    .injection e with e1 e2 e3;subst e1 e2 e3;let⟨C,H⟩:=F.add (t:=⟨s.extract i (kK s i),m⟩) (g:=13-(h+1)) bO z;grind
    cases e
   unfold oj at e
   split at e
   .injection e with e1 e2 e3;subst e1 e2 e3;let⟨C,H⟩:=hs.add (t:=⟨s.extract i (kK s i),[]⟩) (g:=13-(h+1)) bO bQ;grind
   cases e
  intro h i l m x k l' u hs D e;rw[jO] at e
  split at e
  .cases e
  split at e
  .cases e
  split at e
  .cases e
  next n k2 E q=>
  let⟨F,_,z⟩:=M _ _ _ _ _ _ u hs q;let⟨G,C⟩:=J h i l u;let⟨H,Q⟩:=C n k2 E q;rw[q] at G;have I:∀a∈m++[n],Hj E (13-h) a:=by
   intro a j;obtain j|j:=cU.1 j
   .exact(D a j).prefix G
   rw[dL.1 j];exact z
  grind[iV]
theorem OI(s):∀(m k o:Nat),s.size-k<=m->k<=s.size->k<=uS s k o∧uS s k o<=s.size
 |0,k,o,j,c=>by rw[Gx bO];omega
 |m+1,k,o,j,c=>by
  by_cases h:k<s.size
  .rw[Wk h];by_cases a:(if ji s k=40 then o+1 else if ji s k=41 then o-1 else o)=0
   .rw[cY a];omega
   rw[cC a];have:=OI s m (k+1) (if ji s k=40 then o+1 else if ji s k=41 then o-1 else o) bO bO;omega
  rw[Gx h];omega
theorem abz(a:k<=s.size):k<=uS s k o∧uS s k o<=s.size:=OI s _ k o (bT _) a
theorem Ns(a:i<=s.size):i<=qk s i∧qk s i<=s.size:=by grind[kK,qk,wM,pg,oL,jV,abz]
theorem PR(h:(jh s l).2.1=0):0<s.size:=by grind[jh,iY,bl,iI,gX,kK]
theorem PS(h:bB l<=150):(jh s l).2.2.2.length<=150:=by grind[jh,iY]
theorem NR(s):∀f,(∀a i l e q l',i<=s.size->iI s f a i l=.bad e q l'->q<=s.size)∧
  (∀a i l c e q l',i<=s.size->jO s f a i l c=.bad e q l'->q<=s.size)
 |0=>⟨λ_ _ _ _ _ _ _ e=>(by rw[iI] at e;injection e;omega),λ_ _ _ _ _ _ _ _ e=>(by rw[jO] at e;injection e;omega)⟩
 |f+1=>by let⟨u,m⟩:=NR s f;let⟨j,h⟩:=nM s f;grind[iI,oj,jO,pg,jV,iV]
theorem II:(jh s l).2.2.1<=s.size:=by
 unfold jh iY;have a:=jV (s:=s) (i:=0) bO
 split
 .simp
 split
 .next c q l' h=>exact(NR s _).1 _ _ _ _ _ _ a h
 grind
def rU(s:ByteArray)(i:Nat)(l:List Tm):tF Nat:=
 if(jh (s.extract i (qk s i)) l).2.1=0 then .ok (jh (s.extract i (qk s i)) l).1 (bl s (qk s i)) (jh (s.extract i (qk s i)) l).2.2.2
 else .bad (jh (s.extract i (qk s i)) l).2.1 (i+(jh (s.extract i (qk s i)) l).2.2.1) (jh (s.extract i (qk s i)) l).2.2.2
theorem Cs(a:i<=s.size)(h:rU s i l=.ok n k l'):i<k∧k<=s.size:=by grind[rU,qk,PR,Ns,pM,oL,jV]
structure PB(w:ay)(base r p:Nat)(ev:aA)(nb fb:Nat)(s:ByteArray)(i d:Nat)(l:List Tm):Prop where
 lp:Lp w r (ak (ah ⟨p,0,ai⟩)) s i d
 bk:Bk w base p ev nb fb l
 rp:r≠p
 rn:r≠nb
 rf:r≠fb
 er:aP ev≠ah r
 bs:base<=w.heap.size
 sd:bB l<=150
def PB.read{a:Nat}(h:PB w base r p ev nb fb s i d l)(K:dV r w w')(c:Lp w' r (pz p) s k a):
  PB w' base r p ev nb fb s k a l∧gN (λk=>k=r) p nb fb w ev w' ev:=
 ⟨⟨c,h.bk.iw K (j5 h.rp) (j5 h.rn) (j5 h.rf) h.er,h.rp,h.rn,h.rf,h.er,bZ h.bs K.size,h.sd⟩,⟨dW K λ_ _ e=>cB e,cB rfl⟩⟩
theorem PB.zh(h:PB w base r p ev nb fb s i d l)(K:bI (me p ev nb fb) w w')(j:Bk w' base p ev' nb fb l')(c:aP ev'=aP ev∨∀k,aP ev'=ah k->w.heap.size<=k)(m:bB l'<=150):
  PB w' base r p ev' nb fb s i d l'∧gN (λk=>k=r) p nb fb w ev w' ev':=by
 have a:=h.lp.row.lt;refine⟨⟨h.lp.of_block (K.block r a ?_),j,h.rp,h.rn,h.rf,?_,bZ h.bs K.size,m⟩,⟨dW K λ_ _ e=>cI e,c⟩⟩
 .rintro(e|e|e|e)
  .exact h.rp e
  .exact h.rn e
  .exact h.rf e
  exact h.er e
 obtain e|e:=c
 .rw[e];exact h.er
 grind
def PB.dF(h:PB w base r p ev nb fb s i d l)(K:dG w w'):PB w' base r p ev nb fb s i d l∧gN (λk=>k=r) p nb fb w ev w' ev:=
 h.zh (dW K λ_ _ e=>e.elim) (h.bk.dF K) (cB rfl) h.sd
def PB.drewN(h:PB w base r p ev nb fb s i d l)(m):PB (bF w m) base r p ev nb fb s i d l:=
 ⟨h.lp.drewN m,h.bk.drewN m,h.rp,h.rn,h.rf,h.er,h.bs,h.sd⟩
def RL(base r p nb fb:Nat)(s:ByteArray)(d:Nat)(w:ay)(ev:aA):tF Nat->bg->ay->Prop
 | .ok n k l',e,w'=>e=aw (ae af n)∧∃ev',PB w' base r p ev' nb fb s k d l'∧gN (λk=>k=r) p nb fb w ev w' ev'
 | .bad c q l',e,w'=>e=.panicked [{v:=jU c q,recovered:=aL}]∧∃ev' k,PB w' base r p ev' nb fb s k d l'∧gN (λk=>k=r) p nb fb w ev w' ev'
theorem uM(w){base r p}{ev}{nb fb}{s}(i){d}{l}(h:PB w base r p ev nb fb s i d l):
  aB prog 251 #[pz r] w (RL base r p nb fb s d w ev (rU s i l)):=by
 have L:=h.lp.le;have aa:=h.lp.small;let⟨E,a⟩:=Ns L;have TE:=Lw p h.lp;have HP:Hid (∀W,dG w W->PB W base r p ev nb fb s i d l∧gN (λk=>k=r) p nb fb w ev W ev):=λW K=>h.dF K;have M:Hid (rU s i l=_):=rU.eq_1 s i l;have hx:(s.extract i (qk s i)).size<=400:=by rw[pM E a];omega
 have RD:Hid (∀W,PB W base r p ev nb fb s i d l->∀m,aB prog 13 #[pz p,.string (s.extract i (qk s i))] (bF W m) λe w'=>e=aw (.tuple #[iz ((jh (s.extract i (qk s i)) l).1:Int),iz ((jh (s.extract i (qk s i)) l).2.1:Int),iz ((jh (s.extract i (qk s i)) l).2.2.1:Int)])∧
   ∃ev',PB w' base r p ev' nb fb s i d (jh (s.extract i (qk s i)) l).2.2.2∧gN (λk=>k=r) p nb fb W ev w' ev'):=λW P m=>(Ie (bF W m) base (P.bk.drewN m) P.sd P.bs (s.extract i (qk s i))).mono (by
  rintro e w' ⟨h1,ev',h2,h3,h4⟩;let⟨Q1,Q2⟩:=(P.drewN m).zh h3 h2 h4 (PS P.sd);exact⟨h1,ev',Q1,tJ ((tK _ p nb fb W ev).drewN m) Q2⟩)
 go_enter func251,ntmps251;generalize hT:qk s i=t at *;generalize hX:s.extract i t=X at *;generalize hR:jh X l=R at *;obtain⟨n,c,q,l'⟩:=R;have hq:q<=400:=by grind[II,Nat.le_trans]
 go_wp2_with(go_at_call 256;refine TE.mono ?_;rintro e Q ⟨rfl,K2⟩;let⟨F,z⟩:=HP.out Q K2;have c0:=F.lp.c0;have c1:=F.lp.c1;have c2:=F.lp.c2);have I:=RD.out Q F
 go_region_with(go_at_call 13;refine(I 1).mono ?_;rintro e w3 ⟨rfl,D,u,C⟩)
 all_goals
  simp only[Act.put,cD,cw,ct,cf,cN,cK];have d2:=u.lp.c2;by_cases O:c=0
  .have J:((c:Int) != 0)=aL:=bX
   have j:Hid (rU s i l=.ok n (bl s t) l'):=by have:=M.out;rw[cY O] at this;exact this
   have f2:=u.lp.row.frozen 2;have N:=u.lp.step (k:=t) a;have G:=u.read (eH (bW _ w3) 2 (iz t)) N;have T:=qS t N;have H:Hid (_∧_∧_∧_):=⟨z,C,G.1,G.2⟩
   go_wp2_with(go_at_call 67;refine T.mono ?_;rintro e w5 ⟨rfl,L5,K5⟩);go_ret;let⟨z,C,G,U⟩:=H.out;let⟨P5,V⟩:=G.read K5 L5;rw[j.out];exact⟨rfl,D,P5,((z.trans C).trans U).trans V⟩
  have J:((c:Int) != 0)=aK:=bX
  have j:Hid (rU s i l=.bad c (i+q) l'):=by have:=M.out;rw[cC O] at this;exact this
  have H:Hid (_∧_∧_):=⟨z,C,u⟩
  go_wp2_with(go_at_call 69;refine(pK _ _ _).mono ?_;rintro e w4 ⟨rfl,rfl⟩);let⟨z,C,u⟩:=H.out;refine⟨rfl,?_⟩;rw[j.out];exact⟨by simp,D,i,u,z.trans C⟩
def pw(W:ay)(b o:Nat)(op x y:Int)(kv:aA):Prop:=
 ∃c fz,W.heap[b]?=ah (aR c 36 fz)∧c[o]?=ah (ae af op)∧c[o+1]?=ah (ae af x)∧c[o+2]?=ah (ae af y)∧c[o+3]?=ah kv∧fz=(0,0)
inductive vW (A:Nat->Prop) (W:ay):Lf->Prop where
 |mk {b o:Nat} {op x y:Int} {kv:aA} {kids:List Lf} (hb:A b) (hc:pw W b o op x y kv) (hk:nk kv kids) (h:∀k∈kids,vW A W k):vW A W (.mk b o op x y kv kids)
def iH(A:Nat->Prop)(W W':ay):Prop:=∀(k:Nat)(c:Array aA)(fz:Nat×Nat),A k->W.heap[k]?=ah (aR c 36 fz)->W'.heap[k]?=ah (aR c 36 fz)
def iH.trans(h:iH A X Y)(k:iH A Y Z):iH A X Z:=λi c a j x=>k i c a j (h i c a j x)
theorem iH.mono(h:iH A X Y)(j:∀k,A' k->A k):iH A' X Y:=λi c a m x=>h i c a (j i m) x
def aeu:=@iH.mono
theorem iH.setCell(W)(a:¬A b)(o u):iH A W (aW W (az b o) u):=λk _ _ c h=>(cO W (az b o) u k cG).trans h
def sB:=@iH.setCell
abbrev fQ(B:Nat)(W W':ay):Prop:=iH (λk=>B<=k) W W'
def fQ.trans(h:fQ B X Y)(k:fQ B Y Z):fQ B X Z:=iH.trans h k
theorem fQ.mono(h:fQ B X Y)(a:B<=B'):fQ B' X Y:=aeu h λ_ c=>bZ a c
def fQ.yq(h:fQ 0 X Y)(A):iH A X Y:=aeu h λ_ _=>dt _
def fQ.alloc(B W o):fQ B W (bC W o):=λk _ _ _ h=>(dB W o k (bY.1 h).1).trans h
def gG:=@fQ.alloc
theorem fQ.setCell(W)(a:b<B)(o u):fQ B W (aW W (az b o) u):=sB W bO o u
def zo:=@fQ.setCell
def fQ.FQ(K:bI S W W')(j:∀k,S k->∀c a,W.heap[k]?≠ah (aR c 36 a))(B):fQ B W W':=
 λk c a _ h=>(K.block k (bY.1 h).1 λx=>j k x c a h).trans h
def Le:=@fQ.FQ
def fQ.dF(K:dG W W')(B):fQ B W W':=Le K (λ_ x=>x.elim) B
def Hc:=@fQ.dF
variable{op x y:Int}
theorem pw.keep(K:iH A W W')(q:A b)(h:pw W b o op x y kv):pw W' b o op x y kv:=by obtain⟨c,a,j,m⟩:=h;exact⟨c,a,K _ _ _ q j,m⟩
theorem pw.c0(h:pw W b o op x y kv):aU W (az b o)=ah (iz op):=by obtain⟨c,a,j,m,q,u,z,_⟩:=h;grind[aU]
theorem pw.c1(h:pw W b o op x y kv):aU W (az b (o+1))=ah (iz x):=by obtain⟨c,a,j,m,q,u,z,_⟩:=h;grind[aU]
theorem pw.c2(h:pw W b o op x y kv):aU W (az b (o+2))=ah (iz y):=by obtain⟨c,a,j,m,q,u,z,_⟩:=h;grind[aU]
theorem pw.c3(h:pw W b o op x y kv):aU W (az b (o+3))=ah kv:=by obtain⟨c,a,j,m,q,u,z,_⟩:=h;grind[aU]
variable{t:Lf}
theorem vW.keep(K:iH A W W')(h:vW A W t):vW A W' t:=by
 induction h with
 |mk a c j _ m=>exact .mk a (c.keep K a) j m
theorem vW.mono(a:∀k,A k->A' k)(h:vW A W t):vW A' W t:=by
 induction h with
 |mk c j m _ q=>exact .mk (a _ c) j m q
theorem vW.lt(h:vW A W t):vW (λk=>A k∧k<W.heap.size) W t:=by
 induction h with
 |mk j a m _ q=>exact .mk ⟨j,by let⟨c,u,z,_⟩:=a;grind⟩ a m q
def kO(A:Nat->Prop)(W:ay)(v:aA)(f:Fo):Prop:=
 ∃(op x y:Int)(kv:aA)(kids:List Lf),v=.agg #[ae af op,ae af x,ae af y,kv]∧nk kv kids∧(∀k∈kids,vW A W k)∧f=.mk op x y (kids.map Lf.er)
abbrev mw(B:Nat)(W:ay)(v:aA)(f:Fo):Prop:=kO (λk=>B<=k) W v f
variable{f:Fo}
theorem kO.keep(K:iH A W W')(h:kO A W v f):kO A W' v f:=by obtain⟨op,x,y,kv,kids,a,c,j,m⟩:=h;exact⟨op,x,y,kv,kids,a,c,λk q=>(j k q).keep K,m⟩
def abS:=@kO.keep
theorem kO.mono(q:∀k,A k->A' k)(h:kO A W v f):kO A' W v f:=by obtain⟨op,x,y,kv,kids,a,c,j,m⟩:=h;exact⟨op,x,y,kv,kids,a,c,λk u=>(j k u).mono q,m⟩
def Ds:=@kO.mono
theorem kO.lt(h:kO A W v f):kO (λk=>A k∧k<W.heap.size) W v f:=by obtain⟨op,x,y,kv,kids,a,c,j,m⟩:=h;exact⟨op,x,y,kv,kids,a,c,λk q=>(j k q).lt,m⟩
def mw.keep(K:fQ B W W')(h:mw B W v f):mw B W' v f:=abS K h
theorem mw.mono(a:B'<=B)(h:mw B W v f):mw B' W v f:=kO.mono (λ_ c=>bZ a c) h
theorem kO.form(h:kO A W v f):∃(op x y:Int)(a:Option aD)(n c:Nat),v=.agg #[iz op,iz x,iz y,aj a n c]:=by obtain⟨op,x,y,kv,kids,j,⟨a,c,rfl,_⟩,m,q⟩:=h;grind
def mw.form(h:mw B W v f):∃(op x y:Int)(a:Option aD)(n c:Nat),v=.agg #[iz op,iz x,iz y,aj a n c]:=kO.form h
def Fo.eq(a b:Int):Fo:=.mk 0 a b []
def Fo.neg(f:Fo):Fo:=.mk 1 0 0 [f]
def Fo.two(op:Int)(f g:Fo):Fo:=.mk op 0 0 [f,g]
theorem mw.eq(B W a b):mw B W (.agg #[iz 0,iz a,iz b,aj ai 0 0]) (.eq a b):=
 ⟨0,a,b,aj ai 0 0,[],rfl,⟨ai,0,rfl,bT _,cB rfl⟩,by simp,rfl⟩
def aao:=@mw.eq
theorem mw.one(h:mw B W (.agg #[iz op,iz x,iz y,kv]) f)(z:B<=W.heap.size):
  mw B (bC W (aq #[iz op,iz x,iz y,kv] 36)) (.agg #[iz 1,iz 0,iz 0,aj (ah (az W.heap.size 0)) 1 1]) (.neg f):=by
 obtain⟨D,F,G,C,kids,m,q,u,E⟩:=h;simp at m;obtain⟨rfl,rfl,rfl,rfl⟩:=m;refine⟨1,0,0,_,[.mk (hz W) 0 op x y kv kids],rfl,⟨_,1,rfl,bT _,cI ⟨hz W,0,rfl,?_⟩⟩,?_,?_⟩
 .intro j t a
  match j,a with
  |0,a=>simp at a;rw[<-a];exact⟨rfl,rfl⟩
 .intro k c;obtain rfl:=dL.1 c;exact .mk (show B<=hz W from z) ⟨_,_,World.alloc_heap_new W _,rfl,rfl,rfl,rfl,rfl⟩ q λk c=>(u k c).keep (gG B W _)
 grind[Fo.neg,Lf.er]
theorem mw.pair{q x2 E:Int}{m:aA}{g:Fo}(h:kO A W (.agg #[iz op,iz x,iz y,kv]) f)(k:kO A W (.agg #[iz q,iz x2,iz E,m]) g)(o)(F:A W.heap.size):
  kO A (bC W (aq #[iz op,iz x,iz y,kv,iz q,iz x2,iz E,m] 36)) (.agg #[iz o,iz 0,iz 0,aj (ah (az W.heap.size 0)) 2 2]) (.two o f g):=by
 obtain⟨D,I,J,C,kids,z,G,H,L⟩:=h;simp at z;obtain⟨rfl,rfl,rfl,rfl⟩:=z;obtain⟨D,I,J,C,c,z,k2,k3,k4⟩:=k;simp at z;obtain⟨rfl,rfl,rfl,rfl⟩:=z;refine⟨o,0,0,_,[.mk (hz W) 0 op x y kv kids,.mk (hz W) 4 q x2 E m c],rfl,⟨_,2,rfl,bT _,cI ⟨hz W,0,rfl,?_⟩⟩,?_,?_⟩
 .intro j t a
  match j,a with
  |0,a=>simp at a;rw[<-a];exact⟨rfl,rfl⟩
  |1,a=>simp at a;rw[<-a];exact⟨rfl,rfl⟩
 .intro k u;simp at u;obtain rfl|rfl:=u
  .exact .mk F ⟨_,_,World.alloc_heap_new W _,rfl,rfl,rfl,rfl,rfl⟩ G λk u=>(H k u).keep ((gG 0 W _).yq A)
  exact .mk F ⟨_,_,World.alloc_heap_new W _,rfl,rfl,rfl,rfl,rfl⟩ k2 λk u=>(k3 k u).keep ((gG 0 W _).yq A)
 grind[Fo.two,Lf.er]
def adp:=@mw.pair
theorem xA{t:aE}{f:Nat->aA}(h:bE w b t n f)(j:t≠e)(c)(a:Nat×Nat):w.heap[b]?≠ah (aR c e a):=by intro q;obtain⟨m,u,_⟩:=h;grind
theorem wK{size:Nat}{t:aE}{C:List aA}(z:bD w base t size v k C)(m:aP v=ah b)(u:t≠e)(c)(j:Nat×Nat):w.heap[b]?≠ah (aR c e j):=by
 intro q;obtain⟨rfl,_⟩|⟨g,a,h,rfl,_,D,_⟩:=z.2
 .simp[aP] at m
 grind[aP]
theorem sM{k:aE}{D:DataW Unit}(h:mL w k b D)(c)(e:aE)(j:Nat×Nat):w.heap[b]?≠ah (aR c e j):=by obtain⟨es,a,m,_⟩:=h;rw[m];simp
theorem Bk.tp(h:Bk w base p ev nb fb l)(m:me p ev nb fb k)(c)(a:Nat×Nat):w.heap[k]?≠ah (aR c 36 a):=by
 obtain rfl|rfl|rfl|e:=m
 .exact xA h.kE bS c a
 .let⟨D,j,_⟩:=h.lF;exact sM j c _ a
 .let⟨D,j,_⟩:=h.om;exact sM j c _ a
 exact wK h.rows e bS c a
def PB.fG(h:PB w base r p ev nb fb s i d l)(G:gN (λk=>k=r) p nb fb w ev w' ev')(B):fQ B w w':=
 Le G.kept (λk j c a=>j.elim (λe=>e▸xA h.lp.row bS c a) λe=>h.bk.tp e c a) B
theorem zH(w B){v}{f}(h:mw B w v f)(z:B<=w.heap.size):
  aB prog 231 #[v] w λe w'=>∃u,e=aw u∧mw B w' u (.neg f)∧dG w w':=by
 obtain⟨op,x,y,a,n,q,rfl⟩:=h.form;have K:∀c j m:Obj,dG w (bC (bC (bC w c) j) m):=λc j m=>dD (dD (dD (bW _ w) _) _) _;have N:=λc j:Obj=>mw.one ((h.keep (gG B w c)).keep (gG B (bC w c) j)) bX;go_enter func231,ntmps231
 go_wp2;refine⟨rfl,.agg #[iz 1,iz 0,iz 0,aj (ah ⟨hz w+2,0,ai⟩) 1 1],by simp[aI,results231,go_sem],?_⟩;simp_all
def kW(c:Lf):List aA:=[ae af c.op,ae af c.x,ae af c.y,c.kv]
theorem ED(cs:List Lf):bB (cs.flatMap kW)=bB cs*4:=by
 induction cs with
 |nil=>rfl
 |cons c cs a=>simp[gS,kW] at a⊢;omega
theorem JH(cs:List Lf)(i j:Nat)(a:j<4):(cs.flatMap kW)[i*4+j]?=(cs[i]?).bind (λt=>(kW t)[j]?):=by
 induction cs generalizing i with
 |nil=>simp
 |cons t l c=>
  cases i with
  |zero=>grind[kW]
  |succ i=>grind[kW]
