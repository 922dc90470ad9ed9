import Derived.Test.YtlehlgipbhfioaaGreatBf
import Derived.Test.YtlehlgipbhfioaaGreatBg
namespace Go.Proofs.YtlehlgipbhfioaaGreat
set_option linter.all false
open Go.RowKit Go.Maps
open Option renaming some->ah,none->ai
open List renaming replicate->aN,length->bB
open Bool renaming false->aL
structure Pf where
 g:Uf.G
 L:List (List Nat)
def l9(L:List (List Nat))(a b:Nat):List (List Nat):=L.set a (L[a]?.getD []++[b])
def Pf.link(n:Nat)(P:Pf)(a b:Nat):Bool×Pf:=
 if iA n P.g a b then(true,⟨mX n P.g a b,l9 (l9 P.L a b) b a⟩) else(aL,P)
def Pf.tell(n:Nat):List Pr->Pf->Pf
 | [],P=>P
 |a::r,P=>Pf.tell n r (P.link n a.1 a.2).2
def mI(g:Uf.G)(t:Tm):List Nat:=(List.range 4).map λi=>match t.args[i]? with
 |some a=>g.lo a
 |none=>0
abbrev Key:=ByteArray×List Nat
def uO(fm:List (Key×Nat))(k:Key):Option Nat:=(fm.find? λe=>decide (e.1=k)).map (·.2)
def Jg(n:Nat):Nat->List Tm->List (Key×Nat)->Pf->Bool->Bool×Pf
 |_,[],_,P,fd=>(fd,P)
 |i,t::ts,fm,P,fd=>match uO fm (t.name,mI P.g t) with
  |none=>Jg n (i+1) ts (fm++[((t.name,mI P.g t),i)]) P fd
  |some j=>Jg n (i+1) ts fm (P.link n j i).2 (fd||(P.link n j i).1)
def UO(l:List Tm):Nat->Pf->Option Pf
 |0,_=>ai
 |f+1,P=>if(Jg (bB l) 0 l [] P aL).1 then UO l f (Jg (bB l) 0 l [] P aL).2 else ah (Jg (bB l) 0 l [] P aL).2
def uE(l:List Tm)(told:List Pr):Option Pf:=UO l (bB l+2) (Pf.tell (bB l) told ⟨Uf.g0,aN (bB l) []⟩)
variable{E F:iE}{a b x j:Nat}
theorem JY{y:Nat}:gO (E++[(a,b)]) x y↔gO E x y∨(gO E x a∧gO E b y)∨(gO E x b∧gO E a y):=by
 have up:∀{x y},gO E x y->gO (E++[(a,b)]) x y:=λh=>h.mono λe m=>dh _ m;have k:gO (E++[(a,b)]) a b:=.one (cB bQ);constructor
 .intro h
  induction h with
  |refl=>exact cB (.refl _)
  |@step y z _ e d=>
   obtain e|⟨rfl,rfl⟩|⟨rfl,rfl⟩:=e.cut
   .obtain d|⟨c,f⟩|⟨c,f⟩:=d
    .exact cB (.step d e)
    .exact cI (cB ⟨c,.step f e⟩)
    exact cI (cI ⟨c,.step f e⟩)
   .obtain d|⟨c,f⟩|⟨c,f⟩:=d
    .exact cI (cB ⟨d,.refl _⟩)
    .exact cI (cB ⟨c,.refl _⟩)
    grind
   obtain d|⟨c,f⟩|⟨c,f⟩:=d
   .exact cI (cI ⟨d,.refl _⟩)
   .grind
   exact cI (cI ⟨c,.refl _⟩)
 rintro(h|⟨g,i⟩|⟨g,i⟩)
 .exact up h
 .exact((up g).trans k).trans (up i)
 exact((up g).trans k.symm).trans (up i)
def Nh(l:List Tm)(told:List Pr)(E:iE)(a b:Nat):Prop:=
 eT a b∈told∨∃t u,l[a]?=ah t∧l[b]?=ah u∧t.name=u.name∧bB t.args=bB u.args∧∀k x y:Nat,t.args[k]?=ah x->u.args[k]?=ah y->gO E x y
structure nX(l:List Tm)(told:List Pr)(P:Pf)(E:iE):Prop where
 Ag:∃t,Uf.DP (bB l) P.g t∧bB t=bB E
 conn:∀a b,a<bB l->b<bB l->(P.g.rt a=P.g.rt b↔gO E a b)
 adj:∀x y:Nat,y∈P.L[x]?.getD []↔qv E x y
 len:bB P.L=bB l
 qR:yj E
 JR:∀s (h:s<bB E),Nh l told (E.take s) (E[s]).1 (E[s]).2
 lt:∀e∈E,e.1<bB l∧e.2<bB l
variable{l:List Tm}{told ps:List Pr}{P:Pf}
theorem nX.lnk(h:nX l told P E):wu P.L E:=
 ⟨h.adj,λx y c=>by
  rw[h.len];obtain e|e:=(h.adj x y).1 c
  .exact(h.lt _ e).2
  exact(h.lt _ e).1⟩
theorem nX.ok(h:nX l told P E):Uf.Ok (bB l) P.g (bB E):=by let⟨t,c,d⟩:=h.Ag;grind[Uf.xJ]
theorem nX.start(l told):nX l told ⟨Uf.g0,aN (bB l) []⟩ []:=by
 have c:∀a b,gO [] a b↔a=b:=λa b=>⟨λh=>by
  induction h with
  |refl=>rfl
  |step _ e _=>obtain e|e:=e<;>simp at e,λh=>h▸.refl _⟩
 refine⟨⟨[],rfl,rfl⟩,λa b _ _=>(c a b).symm,λx y=>?_,by simp,λt h=>absurd h bQ,λt h=>absurd h bQ,by simp⟩;grind[qv]
theorem Et{L:List (List Nat)}(c:a<bB L)(x y):y∈(l9 L a b)[x]?.getD []↔y∈L[x]?.getD []∨x=a∧y=b:=by grind[l9]
theorem nX.link(h:nX l told P E)(f:a<bB l)(g:b<bB l)(B:Nh l told E a b):
  ((P.link (bB l) a b).1=aL∧(P.link (bB l) a b).2=P∧gO E a b)∨((P.link (bB l) a b).1=true∧nX l told (P.link (bB l) a b).2 (E++[(a,b)])):=by
 have o:=h.ok;have C:iA (bB l) P.g a b=!decide (P.g.rt a=P.g.rt b):=by grind[iA,mD]
 unfold Pf.link;by_cases p:P.g.rt a=P.g.rt b
 .have:iA (bB l) P.g a b=aL:=cG
  rw[this,cC Bool.false_ne_true];exact cB ⟨rfl,rfl,(h.conn a b f g).1 p⟩
 have k:iA (bB l) P.g a b=true:=cG
 rw[k,cY rfl];refine cI ⟨rfl,?_⟩;have z:¬gO E a b:=λe=>p ((h.conn a b f g).2 e);have w:mX (bB l) P.g a b=Uf.lY P.g (Uf.pick P.g a b).1 (Uf.pick P.g a b).2:=by grind[mX]
 have c:=o.pick a b f g p;have A:((Uf.pick P.g a b).1=P.g.rt a∧(Uf.pick P.g a b).2=P.g.rt b)∨((Uf.pick P.g a b).1=P.g.rt b∧(Uf.pick P.g a b).2=P.g.rt a):=by grind[Uf.pick]
 let⟨t,q,r⟩:=h.Ag;have m:a<bB P.L:=by rw[h.len];exact f
 have n:b<bB (l9 P.L a b):=by unfold l9;rw[gd,h.len];exact g
 refine⟨⟨⟨(Uf.pick P.g a b).1,(P.g.N (Uf.pick P.g a b).2).rz,P.g⟩::t,⟨(Uf.pick P.g a b).2,c.2.1,c.1,c.2.2.1,c.2.2.2.1,c.2.2.2.2,rfl,w,q⟩,by simp[r]⟩,λx y u v=>?_,λx y=>?_,by simp[l9,h.len],λs hs=>?_,λs hs=>?_,λe i=>?_⟩
 .rw[JY,w,<-h.conn x y u v,<-h.conn x a u f,<-h.conn b y g v,<-h.conn x b u g,<-h.conn a y f v];show(if P.g.rt x=(Uf.pick P.g a b).1 then(Uf.pick P.g a b).2 else P.g.rt x)=(if P.g.rt y=(Uf.pick P.g a b).1 then(Uf.pick P.g a b).2 else P.g.rt y)↔_;grind
 .rw[Et n,Et m,h.adj];grind[qv]
 .by_cases d:s<bB E
  .rw[iJ bO,mQ d];exact h.qR s d
  grind
 .by_cases d:s<bB E
  .rw[iJ bO,mQ d];exact h.JR s d
  grind
 obtain i|i:=cU.1 i
 .exact h.lt e i
 grind
theorem gO.app(h:gO E a b):gO (E++F) a b:=h.mono λ_ c=>dh _ c
theorem nX.tell{l:List Tm}{told:List Pr}:∀(r:List Pr)(P:Pf)(E:iE),nX l told P E->(∀a∈r,a.1<bB l∧a.2<bB l∧eT a.1 a.2∈told)->
  ∃F,nX l told (Pf.tell (bB l) r P) (E++F)∧∀a∈r,gO (E++F) a.1 a.2
 | [],P,E,h,_=>⟨[],by simpa[Pf.tell] using h,by simp⟩
 |a::r,P,E,h,e=>by
  let⟨g,i,k⟩:=e a bQ;rw[Pf.tell];obtain⟨_,d,f⟩|⟨_,d⟩:=h.link g i (cB k)
  .rw[d];let⟨F,k1,k2⟩:=nX.tell r P E h (λb c=>e b (by simp[c]));refine⟨F,k1,λb c=>?_⟩;obtain rfl|c:=fA.1 c
   .exact f.app
   grind
  let⟨F,k1,k2⟩:=nX.tell r _ _ d (λb c=>e b (by simp[c]));grind[qv,gO.one]
def adk:=@nX.tell
def Dk(l:List Tm)(E:iE)(e:Key×Nat):Prop:=
 ∃t,l[e.2]?=ah t∧e.1.1=t.name∧∀k a:Nat,t.args[k]?=ah a->∃m,e.1.2[k]?=ah m∧gO E a m
variable{t:Tm}
theorem It{g:Uf.G}(c:bB t.args<=4){k:Nat}(h:t.args[k]?=ah a):(mI g t)[k]?=ah (g.lo a):=by grind[mI]
structure OZ(l:List Tm):Prop where
 four:∀(i:Nat)(t:Tm),l[i]?=ah t->bB t.args<=4
 lt:∀(i:Nat)(t:Tm),l[i]?=ah t->∀a∈t.args,a<bB l
 same:∀(i j:Nat)(t u:Tm),l[i]?=ah t->l[j]?=ah u->t.name=u.name->bB t.args=bB u.args
theorem nX.lo(h:nX l told P E)(d:a<bB l):gO E a (P.g.lo a):=by have c:=h.ok;have e:=c.UL a d;exact(h.conn a _ d bO).1 (c.Ql a d).symm
theorem EB{c:List (Key×Nat)}{k:Key}(h:uO c k=ah j):(k,j)∈c:=by
 unfold uO at h;cases e:c.find? λe=>decide (e.1=k) with
 |none=>grind
 |some x=>grind
theorem Dk.JR(g:OZ l)(h:nX l told P E){i:Nat}(f:l[i]?=ah t)(p:Dk l E ((t.name,mI P.g t),j)):Nh l told E j i∧j<bB l:=by
 obtain⟨u,c,e,q⟩:=p;have c:l[j]?=ah u:=c;have e:t.name=u.name:=e;refine⟨cI ⟨u,t,c,f,e.symm,g.same j i u t c f e.symm,λk x y r n=>?_⟩,(bU.1 c).1⟩;let⟨m,d,o⟩:=q k x r;have d:(mI P.g t)[k]?=ah m:=d;rw[It (g.four i t f) n] at d;cases d
 exact o.trans (h.lo (g.lt i t f y (cH n))).symm
theorem Dk.mono{e:Key×Nat}(h:Dk l E e):Dk l (E++F) e:=by obtain⟨t,f,g,i⟩:=h;exact⟨t,f,g,λk a n=>by let⟨m,c,d⟩:=i k a n;exact⟨m,c,d.app⟩⟩
theorem Ga{l:List Tm}{told:List Pr}(p:OZ l):∀(g:List Tm)(i:Nat)(c:List (Key×Nat))(P:Pf)(E:iE)(n:Bool),nX l told P E->l.drop i=g->(∀e∈c,Dk l E e)->
  ∃F,nX l told (Jg (bB l) i g c P n).2 (E++F)∧((Jg (bB l) i g c P n).1=(n||decide (F≠[])))∧
   (F=[]->(Jg (bB l) i g c P n).2=P∧((∀(j:Nat)(t:Tm),j<i->l[j]?=ah t->∃m,uO c (t.name,mI P.g t)=ah m∧gO E m j)->∃v:List (Key×Nat),∀(j:Nat)(t:Tm),l[j]?=ah t->∃m,uO v (t.name,mI P.g t)=ah m∧gO E m j))
 | [],i,c,P,E,n,h,A,_=>by
  have I:bB l<=i:=aeA
  refine⟨[],by simpa[Jg] using h,by simp[Jg],λ_=>⟨rfl,λk=>⟨c,λj t B=>k j t ?_ B⟩⟩⟩;grind
 |t::g,i,c,P,E,n,h,A,f=>by
  have q:l[i]?=ah t:=by
   have G:(l.drop i)[0]?=ah t:=cG
   simpa using G
  have w:=(bU.1 q).1;have o:l.drop (i+1)=g:=by have:=congrArg List.tail A;simpa using this
  rw[Jg];cases H:uO c (t.name,mI P.g t) with
  |none=>
   simp only;let⟨F,k1,k2,k3⟩:=Ga p g (i+1) (c++[((t.name,mI P.g t),i)]) P E n h o (λe d=>by
    obtain d|d:=cU.1 d
    .exact f e d
    simp at d;subst d;exact⟨t,q,rfl,λk a C=>⟨_,It (p.four i t q) C,h.lo (p.lt i t q a (cH C))⟩⟩)
   refine⟨F,k1,k2,λe=>⟨(k3 e).1,λL=>(k3 e).2 λj u B D=>?_⟩⟩;by_cases y:j=i
   .subst y;rw[q] at D;cases D
    refine⟨j,?_,.refl _⟩;grind[uO,decide,mI]
   grind[uO,decide,mI]
  |some j=>
   simp only;let⟨d,z⟩:=Dk.JR p h q (f _ (EB H));obtain⟨r,s,J⟩|⟨r,s⟩:=h.link z w d
   .rw[r,s,Bool.or_false];let⟨F,k1,k2,k3⟩:=Ga p g (i+1) c P E n h o f;grind
   rw[r,Bool.or_true];let⟨F,k1,k2,k3⟩:=Ga p g (i+1) c _ _ true s o λe d=>(f e d).mono;grind
theorem UM{l:List Tm}{told:List Pr}(c:OZ l):∀(f:Nat)(P:Pf)(E:iE),nX l told P E->bB l+1<=f+bB E->
  ∃p F,UO l f P=ah p∧nX l told p (E++F)∧∀(i j:Nat)(t u:Tm),l[i]?=ah t->l[j]?=ah u->t.name=u.name->(∀k a b:Nat,t.args[k]?=ah a->u.args[k]?=ah b->gO (E++F) a b)->gO (E++F) i j
 |0,P,E,h,J=>by have:=h.ok.FR;omega
 |f+1,P,E,h,J=>by
  rw[UO];let⟨F,k1,k2,k3⟩:=Ga c l 0 [] P E aL h bQ bQ;rw[k2];by_cases w:F=[]
  .subst w;let⟨M,C⟩:=k3 rfl;let⟨N,d⟩:=C (λj t o=>by omega);simp only[ne_eq,not_true_eq_false,decide_false,Bool.or_false,gL,jF];rw[gC] at k1;refine⟨_,[],rfl,by grind,λi j t u s o A y=>?_⟩;rw[gC] at y⊢;let⟨m,v,D⟩:=d i t s;let⟨R,G,H⟩:=d j u o;have n:mI P.g t=mI P.g u:=by
    unfold mI;refine lh λk _=>?_;have z:=c.same i j t u s o A;cases e:t.args[k]? with
    |none=>grind
    |some a=>
     have O:=(bU.1 e).1;have g:k<bB u.args:=bO
     have B:=bP g;rw[B];have I:=y k a _ e B;have q:=c.lt i t s a (cH e);have r:=c.lt j u o _ (dw g);have:=(h.conn a _ q r).2 I;grind[Uf.G.lo]
   rw[A,n,G] at v;cases v
   exact D.symm.trans H
  simp only[ne_eq,w,not_false_eq_true,decide_true,Bool.or_true,iX];let⟨p,L,S,T,U⟩:=UM c f _ _ k1 (by
   have:1<=bB F:=cG
   simp;omega)
  grind
theorem BU(e:OZ l)(i:∀a∈told,a.1<=a.2∧a.2<bB l):∃P E,uE l told=ah P∧nX l told P E∧∀x y,Cc.Cg l told x y->gO E x y:=by
 let⟨F,k1,k2⟩:=nX.tell told _ [] (nX.start l told) (λa f=>⟨by grind,(i a f).2,by grind[vE]⟩);let⟨P,d,n,o,s⟩:=UM e (bB l+2) _ _ k1 bO;refine⟨P,[]++F++d,n,o,λx y h=>?_⟩
 induction h with
 |told g _ _=>exact(k2 _ g).app
 |refl _=>exact .refl _
 |symm _ c=>exact c.symm
 |trans _ _ k m=>exact k.trans m
 |MM p q r _ _ c=>grind
structure Pb where
 count:Nat
 vars:List (Pr×Nat)
 lemmas:List (List Int)
 known:List (Pr×List Pr)
namespace Pb
def num(P:Pb)(a:Pr):Option Nat:=(P.vars.find? λe=>decide (e.1=a)).map (·.2)
def fD(P:Pb)(a:Pr):Nat×Pb:=match P.num a with
 |some x=>(x,P)
 |none=>(P.count+1,{P with count:=P.count+1,vars:=P.vars++[(a,P.count+1)],lemmas:=if a.1=a.2 then P.lemmas++[[((P.count+1:Nat):Int)]] else P.lemmas})
def kD:List Pr->Pb->List Int×Pb
 | [],P=>([],P)
 |a::r,P=>if a.1=a.2 then kD r P else(-((P.fD a).1:Int)::(kD r (P.fD a).2).1,(kD r (P.fD a).2).2)
end Pb
def nH(ps:List Pr):List Pr:=(ps++aN 4 (0,0)).take 4
def Pb.step(P:Pb)(st:rl):Pb:=
 if(st.1,nH st.2)∈P.known then P
 else
  {(Pb.kD (nH st.2) (Pb.fD {P with known:=P.known++[(st.1,nH st.2)]} st.1).2).2 with
   lemmas:=(Pb.kD (nH st.2) (Pb.fD {P with known:=P.known++[(st.1,nH st.2)]} st.1).2).2.lemmas++[((Pb.fD {P with known:=P.known++[(st.1,nH st.2)]} st.1).1:Int)::(Pb.kD (nH st.2) (Pb.fD {P with known:=P.known++[(st.1,nH st.2)]} st.1).2).1]}
structure Hh(P Q:Pb):Prop where
 num:∀a x,P.num a=ah x->Q.num a=ah x
 Dt:∀c∈P.lemmas,c∈Q.lemmas
theorem Hh.refl(P):Hh P P:=⟨λ_ _ h=>h,λ_ h=>h⟩
def abQ:=@Hh.refl
variable{Q:Pb}
def Hh.trans{P R:Pb}(h:Hh P Q)(k:Hh Q R):Hh P R:=⟨λa x e=>k.num a x (h.num a x e),λc e=>k.Dt c (h.Dt c e)⟩
theorem N0{V:List (Pr×Nat)}{a b:Pr}(P:Pb)(c:P.vars=V++[(b,x)])(Q:Pb)(d:Q.vars=V):P.num a=if Q.num a=ai then(if b=a then ah x else ai) else Q.num a:=by
 unfold Pb.num;rw[c,d,List.find?_append];cases h:V.find? λe=>decide (e.1=a) with
 |some e=>simp
 |none=>grind
theorem Pb.qj(P a):Hh P (P.fD a).2∧(P.fD a).2.num a=ah (P.fD a).1∧(P.fD a).2.known=P.known:=by
 unfold Pb.fD;cases h:P.num a with
 |some x=>exact⟨Hh.refl P,h,rfl⟩
 |none=>
  have d:=λb=>N0 (a:=b) (b:=a) (x:=P.count+1) (V:=P.vars) {P with count:=P.count+1,vars:=P.vars++[(a,P.count+1)],lemmas:=if a.1=a.2 then P.lemmas++[[((P.count+1:Nat):Int)]] else P.lemmas} rfl P rfl;refine⟨⟨λb x f=>?_,λc e=>?_⟩,?_,rfl⟩
  .simp only;rw[d b,f];simp
  .show c∈(if a.1=a.2 then P.lemmas++[[((P.count+1:Nat):Int)]] else P.lemmas)
   split
   .simp[e]
   exact e
  grind
theorem Pb.FJ:∀(r:List Pr)(P:Pb),Hh P (Pb.kD r P).2∧(Pb.kD r P).2.known=P.known∧∀l∈(Pb.kD r P).1,∃q∈r,q.1≠q.2∧∃x,(Pb.kD r P).2.num q=ah x∧l=-(x:Int)
 | [],P=>⟨abQ P,rfl,by simp[Pb.kD]⟩
 |a::r,P=>by
  rw[Pb.kD];by_cases e:a.1=a.2
  .rw[cY e];let⟨c,d,f⟩:=Pb.FJ r P;exact⟨c,d,λl hl=>by let⟨q,m,k⟩:=f l hl;exact⟨q,by simp[m],k⟩⟩
  rw[cC e];let⟨g,h,i⟩:=P.qj a;let⟨c,d,f⟩:=Pb.FJ r (P.fD a).2;refine⟨g.trans c,d.trans i,λl hl=>?_⟩;obtain rfl|hl:=fA.1 hl
  .exact⟨a,by simp,e,_,c.num _ _ h,rfl⟩
  grind
def abR:=@Pb.FJ
def Ku(P:Pb)(c:Pr)(ps:List Pr):Prop:=∃(x:Nat)(ls:List Int),P.num c=ah x∧(x:Int)::ls∈P.lemmas∧∀l∈ls,∃q∈ps,q.1≠q.2∧∃y,P.num q=ah y∧l=-(y:Int)
theorem Ku.mono{P:Pb}(h:Hh P Q){c:Pr}(hs:Ku P c ps):Ku Q c ps:=by obtain⟨x,ls,e,f,g⟩:=hs;refine⟨x,ls,h.num _ _ e,h.Dt _ f,λl hl=>?_⟩;let⟨q,m,d,y,i,k⟩:=g l hl;exact⟨q,m,d,y,h.num _ _ i,k⟩
def yi(P:Pb):Prop:=∀k∈P.known,Ku P k.1 k.2
theorem Pb.XJ(P)(n:yi P)(st:rl):Hh P (P.step st)∧yi (P.step st)∧Ku (P.step st) st.1 (nH st.2):=by
 unfold Pb.step;by_cases e:(st.1,nH st.2)∈P.known
 .rw[cY e];exact⟨abQ P,n,n _ e⟩
 rw[cC e];obtain⟨g,i⟩:∃g:Pb,g={P with known:=P.known++[(st.1,nH st.2)]}:=⟨_,rfl⟩
 rw[<-i];have g0:Hh P g:=by rw[i];exact⟨λ_ _ h=>h,λ_ h=>h⟩
 let⟨r,s,u⟩:=g.qj st.1;let⟨b1,b2,b3⟩:=Pb.FJ (nH st.2) (g.fD st.1).2;generalize Pb.kD (nH st.2) (g.fD st.1).2=R at *;generalize g.fD st.1=V at *;obtain⟨ls,R⟩:=R;simp only at b1 b2 b3⊢;have m:Hh R {R with lemmas:=R.lemmas++[(V.1:Int)::ls]}:=⟨λ_ _ h=>h,λc z=>dh _ z⟩
 have said:Ku {R with lemmas:=R.lemmas++[(V.1:Int)::ls]} st.1 (nH st.2):=⟨V.1,ls,m.num _ _ (b1.num _ _ s),by simp,λl hl=>by let⟨q,A,p,y,v,w⟩:=b3 l hl;exact⟨q,A,p,y,m.num _ _ v,w⟩⟩
 have f:Hh P {R with lemmas:=R.lemmas++[(V.1:Int)::ls]}:=((g0.trans r).trans b1).trans m;refine⟨f,λk o=>?_,said⟩;have d:k∈R.known:=o;rw[b2,u,i] at d;obtain d|d:=cU.1 d
 .exact(n k d).mono f
 grind
theorem Pb.Il:∀(S:List rl)(P:Pb),yi P->Hh P (S.foldl Pb.step P)∧yi (S.foldl Pb.step P)∧∀st∈S,Ku (S.foldl Pb.step P) st.1 (nH st.2)
 | [],P,h=>⟨abQ P,h,by simp⟩
 |st::S,P,h=>by
  let⟨c,d,e⟩:=P.XJ h st;let⟨k1,k2,k3⟩:=Pb.Il S (P.step st) d;refine⟨c.trans k1,k2,λs hs=>?_⟩;obtain rfl|hs:=fA.1 hs
  .exact e.mono k1
  exact k3 s hs
def aes:=@Pb.Il
theorem Jb{q:Pr}(h:q∈nH ps):q∈ps∨q=(0,0):=by grind[nH]
theorem JB{P:Pb}{S:List rl}{g:Pr}{cs:List (List Int)}(w:∀st∈S,Ku P st.1 (nH st.2))(m:∀c∈P.lemmas,c∈cs)(f:∀p∈told,∃x,x≠0∧P.num p=ah x∧[(x:Int)]∈cs)(h:∀a x,P.num a=ah x->x≠0)(u:∀F:Pr->Prop,(∀a,F (a,a))->(∀p∈told,F p)->(∀st∈S,(∀q∈st.2,F q)->F st.1)->F g)(n:g.1≠g.2):∃x,P.num g=ah x∧mP (cs.map jq) (jQ (x:Int)):=by
 have:=u (λp=>p.1=p.2∨∃x:Nat,P.num p=ah x∧mP (cs.map jq) (jQ (x:Int))) (λa=>cB rfl) (λp hp=>?_) λst o G=>?_
 .exact this.resolve_left n
 .let⟨x,_,i,k⟩:=f p hp;refine cI ⟨x,i,mP.OJ (List.mem_map_of_mem k) ((od _ _).2 ⟨_,by simp,rfl⟩) λy r d=>?_⟩;grind[absurd,od]
 let⟨x,ls,i,k,s⟩:=w st o;refine cI ⟨x,i,mP.OJ (List.mem_map_of_mem (m _ k)) ((od _ _).2 ⟨_,by simp,rfl⟩) λy r d=>?_⟩;let⟨z,hz,e⟩:=(od _ _).1 r;obtain rfl|hz:=fA.1 hz
 .exact absurd e.symm d
 obtain⟨q,A,B,v,C,rfl⟩:=s z hz;have D:=h q v C;rw[<-e,xH bO,Int.neg_neg];grind[absurd,Jb]
