import Derived.Test.YtlehlgipbhfioaaGreatBp
namespace Go.Proofs.YtlehlgipbhfioaaGreat
set_option maxHeartbeats 6000000
set_option maxRecDepth 100000
set_option linter.all false
open Go.RowKit Go.Maps Go.Proofs.Tryz
open Go.Value renaming int->ae,slice->aj,pointer->ak,int->aS,ownBlock->aP
open Go.IntKind renaming i64->af
open Go.Obj renaming cells->aq,cells->aR
open Go.Ending renaming returned->aw
open Option renaming some->ah,none->ai
open Bool renaming true->aK,false->aL
open Go renaming undef->aF,TypeId->aE,Calls->aB,World->ay,results->aI,Value->aA
open Go.World renaming setCell->aW,alloc->bC,cell?->aU,drewN->bF,rowIs->bE
open Go.RowKit renaming intOf->aG
section
def tF.bind{α β:Type}(r:tF α)(g:α->Nat->List Tm->tF β):tF β:=match r with
 | .ok x i l=>g x i l
 | .bad e p l=>.bad e p l
def QJ(s:ByteArray)(i:Nat)(l:List Tm):tF Fo:=
 (rU s i l).bind λa k l1=>
  if ix s (if ji s k=33 then k+1 else k) 61 then
   (rU s (bl s ((if ji s k=33 then k+1 else k)+1)) l1).bind λb k2 l2=>.ok (if ji s k=33 then .neg (.eq a b) else .eq a b) k2 l2
  else .bad 2 (if ji s k=33 then k+1 else k) l1
def wD(lev:Nat):Nat:=if lev=1 then 124 else 38
def opn(lev:Nat):Int:=if lev=1 then 3 else 2
mutual
def gp(s:ByteArray):Nat->Nat->Nat->Nat->List Tm->tF Fo
 |0,_,_,_,l=>.bad 0 0 l
 |f+1,lev,d,i,l=>
  if lev=0 then
   (gp s f 1 d i l).bind λa k l1=>
    if ji s k=45 then
     if ix s (k+1) 62 then(gp s f 0 d (bl s (k+1+1)) l1).bind λb k2 l2=>.ok (.two 4 a b) k2 l2
     else .bad 2 (k+1) l1
    else .ok a k l1
  else if lev=3 then
   if ji s i=33 then
    if 20<=d then .bad 4 i l else(gp s f 3 (d+1) (bl s (i+1)) l).bind λa k l1=>.ok (.neg a) k l1
   else if ji s i=40 then
    if 20<=d then .bad 4 i l else(gp s f 0 (d+1) (bl s (i+1)) l).bind λa k l1=>if ix s k 41 then .ok a (bl s (k+1)) l1 else .bad 2 k l1
   else QJ s i l
  else(gp s f (lev+1) d i l).bind λa k l1=>gl s f lev d k l1 a
def gl(s:ByteArray):Nat->Nat->Nat->Nat->List Tm->Fo->tF Fo
 |0,_,_,_,l,_=>.bad 0 0 l
 |f+1,lev,d,k,l,a=>
  if ji s k=wD lev then(gp s f (lev+1) d (bl s (k+1)) l).bind λb k2 l2=>gl s f lev d k2 l2 (.two (opn lev) a b)
  else .ok a k l
end
variable{s:ByteArray}{i c k base r p nb fb d B b n:Nat}
theorem sf(h:ji s i=c)(e:c≠0):i<s.size:=by grind[ji]
def vp(h:ji s i=c)(e:c≠0):ix s i c=aK:=pG (sf h e) h
variable{l:List Tm}
theorem Za(v:i<=s.size){f:Fo}{x:List Tm}(h:QJ s i l=.ok f k x):i<k∧k<=s.size:=by
 unfold QJ at h;cases g:rU s i l with
 |bad e p t=>rw[g] at h;simp[tF.bind] at h
 |ok a k1 t=>
  let⟨b1,b2⟩:=Cs v g;rw[g] at h;simp only[tF.bind] at h;have m:k1<=(if ji s k1=33 then k1+1 else k1):=by split<;>omega
  generalize(if ji s k1=33 then k1+1 else k1)=q at h m;cases hs:ix s q 61 with
  |false=>rw[hs] at h;simp at h
  |true=>
   rw[hs,cY rfl] at h;have z:=(ft hs).1;have j:=jV (s:=s) (i:=q+1) bO;have u:=oL s (q+1);cases o:rU s (bl s (q+1)) t with
   |bad e p y=>rw[o] at h;simp at h
   |ok b k2 y=>let⟨c1,c2⟩:=Cs j o;grind
theorem EA(s):∀f,(∀j d i l a k u,i<=s.size->gp s f j d i l=.ok a k u->i<k∧k<=s.size)∧
  (∀j d i l a b k u,i<=s.size->gl s f j d i l a=.ok b k u->i<=k∧k<=s.size)
 |0=>⟨λ_ _ _ _ _ _ _ _ e=>(by rw[gp] at e;cases e),λ_ _ _ _ _ _ _ _ _ e=>(by rw[gl] at e;cases e)⟩
 |f+1=>by
  let⟨v,C⟩:=EA s f;constructor
  .intro j d i l a k u A h;rw[gp] at h
   split at h
   .cases g:gp s f 1 d i l with
    |bad e p o=>rw[g] at h;simp[tF.bind] at h
    |ok x k1 o=>
     let⟨b1,b2⟩:=v _ _ _ _ _ _ _ A g;rw[g] at h;simp only[tF.bind] at h
     split at h
     .split at h
      .next hs=>
       have F:=(ft hs).1;have m:=jV (s:=s) (i:=k1+1+1) bO;have q:=oL s (k1+1+1)
       split at h
       .next b k2 G D=>let⟨c1,c2⟩:=v _ _ _ _ _ _ _ m D;injection h with _ e2 _;omega
       cases h
      cases h
     grind
   split at h
   .split at h
    .next y=>
     have t:=sf y bO;have m:=jV (s:=s) (i:=i+1) bO;have q:=oL s (i+1)
     split at h
     .cases h
     cases g:gp s f 3 (d+1) (bl s (i+1)) l with
     |bad e p o=>rw[g] at h;simp[tF.bind] at h
     |ok x k1 o=>grind[tF.bind]
    split at h
    .next z=>
     have t:=sf z bO;have m:=jV (s:=s) (i:=i+1) bO;have q:=oL s (i+1)
     split at h
     .cases h
     cases g:gp s f 0 (d+1) (bl s (i+1)) l with
     |bad e p o=>rw[g] at h;simp[tF.bind] at h
     |ok x k1 o=>
      let⟨b1,b2⟩:=v _ _ _ _ _ _ _ m g;rw[g] at h;simp only[tF.bind] at h
      split at h
      .next hs=>have F:=(ft hs).1;grind[jV,oL]
      cases h
    exact Za A h
   cases g:gp s f (j+1) d i l with
   |bad e p o=>rw[g] at h;simp[tF.bind] at h
   |ok x k1 o=>grind[tF.bind]
  intro j d i l a b k u A h;rw[gl] at h
  split at h
  .next E=>
   have t:=sf E (by unfold wD;split<;>omega);have m:=jV (s:=s) (i:=i+1) bO;have q:=oL s (i+1);cases g:gp s f (j+1) d (bl s (i+1)) l with
   |bad e p o=>rw[g] at h;simp[tF.bind] at h
   |ok x k1 o=>let⟨b1,b2⟩:=v _ _ _ _ _ _ _ m g;rw[g] at h;simp only[tF.bind] at h;have:=C _ _ _ _ _ _ _ _ b2 h;omega
  grind
def tG(base r p nb fb:Nat)(s:ByteArray)(d:Nat)(w:ay)(ev:aA):tF Fo->Ending->ay->Prop
 | .ok f k l',e,w'=>∃v,e=aw v∧mw w.heap.size w' v f∧∃ev',PB w' base r p ev' nb fb s k d l'∧gN (λk=>k=r) p nb fb w ev w' ev'
 | .bad c q l',e,w'=>e=.panicked [{v:=jU c q,recovered:=aL}]∧∃ev' k d',PB w' base r p ev' nb fb s k d' l'∧gN (λk=>k=r) p nb fb w ev w' ev'
variable{w W a:ay}{ev ea eb:aA}
def PB.step(h:PB w base r p ev nb fb s i d l)(e:k<=s.size):
  PB (aW w (az r 2) (iz k)) base r p ev nb fb s k d l∧gN (λk=>k=r) p nb fb w ev (aW w (az r 2) (iz k)) ev:=
 h.read (eH (bW _ w) 2 _) (h.lp.step e)
def PB.deep(h:PB w base r p ev nb fb s i d l)(e:Nat):
  PB (aW w (az r 3) (.int .u64 e)) base r p ev nb fb s i e l∧gN (λk=>k=r) p nb fb w ev (aW w (az r 3) (.int .u64 e)) ev:=
 h.read (eH (bW _ w) 3 _) (h.lp.deep e)
theorem oH(w){base r p}{ev}{nb fb}{s}(i){d}{l}(h:PB w base r p ev nb fb s i d l)(c)(g:ix s i c=aK):
  aB prog 112 #[pz r,.int .u8 c] w λe j=>e=aw (.tuple #[])∧PB j base r p ev nb fb s (bl s (i+1)) d l∧gN (λk=>k=r) p nb fb w ev j ev:=
 (UD h.lp c g).mono (by rintro e j ⟨m,o,q⟩;exact⟨m,h.read q o⟩)
theorem xQ{w}{base r p}{ev}{nb fb}{s}(i){d}{l}(h:PB w base r p ev nb fb s i d l)(c)(q:c≠0)(g:ix s i c=aL):
  aB prog 112 #[pz r,.int .u8 c] w λe j=>e=.panicked [{v:=jU 2 (i:Int),recovered:=aL}]∧PB j base r p ev nb fb s i d l∧gN (λk=>k=r) p nb fb w ev j ev:=
 (YB h.lp c q g).mono (by rintro e j ⟨m,o⟩;exact⟨m,h.dF o⟩)
theorem mU(w){base r p}{ev}{nb fb}{s}{i d}{l}(h:PB w base r p ev nb fb s i d l):
  aB prog 110 #[pz r] w λe g=>e=aw (.int .u8 (ji s i:Int))∧PB g base r p ev nb fb s i d l∧gN (λk=>k=r) p nb fb w ev g ev:=
 (yP _ i h.lp).mono (by rintro e g ⟨j,m⟩;exact⟨j,h.dF m⟩)
variable{f:Nat->aA}
theorem eM{e:ay}(K:fQ B W e)(m:B<=b)(h:bE W b 36 n f):bE e b 36 n f:=by obtain⟨c,g,j⟩:=h;exact⟨c,K b c (0,0) m g,j⟩
theorem PB.Az(h:PB w base r p ev nb fb s i d l)(j:bE w b 36 n f)(o u):PB (aW w (az b o) u) base r p ev nb fb s i d l:=by obtain⟨c,g,_⟩:=j;have K:dV b w (aW w (az b o) u):=eH (bW _ w) o u;have m:r≠b:=λe=>xA h.lp.row bS c (0,0) (e▸g);exact⟨h.lp.of_block (K.block r h.lp.row.lt m),h.bk.iw K (λe=>h.bk.tp (cB rfl) c (0,0) (e▸g)) (λe=>h.bk.tp (cI (cB rfl)) c (0,0) (e▸g)) (λe=>h.bk.tp (cI (cI (cB rfl))) c (0,0) (e▸g)) λe=>h.bk.tp (cI (cI (cI e))) c (0,0) g,h.rp,h.rn,h.rf,h.er,bZ h.bs K.size,h.sd⟩
variable{X:Nat->Prop}
theorem gN.fresh{b:ay}(h:gN X p nb fb a ea b eb){x:Nat}(g:a.heap.size<=x)(o u):gN X p nb fb a ea (b.setCell (az x o) u) eb:=by
 refine⟨⟨h.kept.os,h.kept.tape,h.kept.output,?_,λk e hs=>?_⟩,h.row⟩
 .have:=h.kept.size;simp_all
 rw[cO _ _ _ _ (by show k≠x;omega)];exact h.kept.block k e hs
def frm(v0 v1 v2 v3:aA)(j:Nat):aA:=if j=0 then v0 else if j=1 then v1 else if j=2 then v2 else v3
abbrev kC(w:ay)(b:Nat)(v0 v1 v2 v3:aA):ay:=aW (aW (aW (aW w ⟨b,0,ai⟩ v0) ⟨b,1,ai⟩ v1) ⟨b,2,ai⟩ v2) ⟨b,3,ai⟩ v3
theorem gZ(w:ay)(e g h m:aA):bE (bC w (aq #[e,g,h,m] 36)) w.heap.size 36 4 (frm e g h m):=
 eO (ey w #[e,g,h,m] 36) λj o=>by have q:j<4:=o;obtain rfl|rfl|rfl|rfl:=(by omega:j=0∨j=1∨j=2∨j=3)<;>rfl
theorem oG(h:bE w b 36 4 f)(e g m o):(kC w b e g m o).rowIs b 36 4 (frm e g m o):=
 eO ((((h.set 0 e).set 1 g).set 2 m).set 3 o) λj q=>by grind[frm]
def uD(e:b<B)(g h j m):fQ B w (kC w b g h j m):=
 (((zo w e 0 g).trans (zo _ e 1 h)).trans (zo _ e 2 j)).trans (zo _ e 3 m)
def PB.kC(h:PB w base r p ev nb fb s i d l)(g:bE w b 36 4 f)(e j m o):PB (kC w b e j m o) base r p ev nb fb s i d l:=
 (((h.Az g 0 e).Az (g.set 0 e) 1 j).Az ((g.set 0 e).set 1 j) 2 m).Az (((g.set 0 e).set 1 j).set 2 m) 3 o
def gN.kC(h:gN X p nb fb a ea w eb)(e:a.heap.size<=b)(g j m o):gN X p nb fb a ea (kC w b g j m o) eb:=
 (((h.fresh e 0 g).fresh e 1 j).fresh e 2 m).fresh e 3 o
def eV{e g j m:aA}(h:bE w b 36 4 (frm e g j m)):cz w b 0 e∧cz w b 1 g∧cz w b 2 j∧cz w b 3 m:=
 ⟨h.cell (i:=0) bO,h.cell (i:=1) bO,h.cell (i:=2) bO,h.cell (i:=3) bO⟩
theorem JO{w}{base r p}{ev}{nb fb}{s}{i d}{l}(h:PB w base r p ev nb fb s i d l):
  aB prog 233 #[pz r] w (tG base r p nb fb s d w ev (QJ s i l)):=by
 have ao:=h.lp.small;have L:=λ(o:Obj)=>h.dF (dD (bW _ w) o);have H:=λ(o:Obj)=>uM (bC w o) i (L o).1;go_enter func233,ntmps233;unfold QJ;cases h1:rU s i l with
 |bad c q l1=>
  rw[h1] at H
  go_wp2_with(go_at_call 251;refine(H _).mono ?_;rintro e J ⟨rfl,t,k2,y,x⟩);exact⟨rfl,rfl,t,k2,d,y,(L _).2.trans x⟩
 |ok a k l1=>
  rw[h1] at H;let⟨al,an⟩:=Cs h.lp.le h1;simp[tF.bind];by_cases T:ji s k=33
  .simp[T,iX];have ab:((ji s k:Int)==33)=aK:=bX
   have ag:=sf T bO;cases hs:ix s (k+1) 61 with
   |false=>
    rw[cC bQ]
    go_wp2_with(first|(go_at_call 251;refine(H _).mono ?_;rintro e J ⟨rfl,t,y,x⟩;have G:=mU J y)|(go_at_call 110;refine G.mono ?_;rintro e U ⟨rfl,m,A⟩;have d2:=m.lp.c2;have f2:=m.lp.row.frozen 2;have g:=m.step (k:=k+1) bO;rw[show((k+1:Nat):Int)=(k:Int)+1 from by omega] at g;have F:=xQ (k+1) g.1 61 bO hs)|(go_at_call 112;refine F.mono ?_;rintro e R ⟨rfl,D,C⟩));exact⟨rfl,by simp[jU],t,_,d,D,((((L _).2.trans x).trans A).trans g.2).trans C⟩
   |true=>
    rw[cY rfl];have ac:=(ft hs).1;cases h2:rU s (bl s (k+1+1)) l1 with
    |bad c q l2=>go_wp2_with(first|(go_at_call 251;refine I.mono ?_;rintro e V ⟨rfl,z,k5,S,Q⟩)|(go_at_call 251;refine(H _).mono ?_;rintro e J ⟨rfl,t,y,x⟩;have G:=mU J y)|(go_at_call 110;refine G.mono ?_;rintro e U ⟨rfl,m,A⟩;have d2:=m.lp.c2;have f2:=m.lp.row.frozen 2;have g:=m.step (k:=k+1) bO;rw[show((k+1:Nat):Int)=(k:Int)+1 from by omega] at g;have F:=oH _ (k+1) g.1 61  hs)|(go_at_call 112;refine F.mono ?_;rintro e R ⟨rfl,D,C⟩;have I:=uM R (bl s (k+1+1)) D;rw[h2] at I));exact⟨rfl,rfl,z,k5,d,S,(((((L _).2.trans x).trans A).trans g.2).trans C).trans Q⟩
    |ok b k2 l2=>
     go_wp2_with(first|(go_at_call 251;refine I.mono ?_;rintro e V ⟨rfl,z,S,Q⟩;have v:=eM ((((L _).1.fG x (hz w)).trans (((y.fG A (hz w)).trans (m.fG g.2 _)).trans (g.1.fG C _))).trans (D.fG Q _)) (bT _) (gZ w (iz 0) (iz 0) (iz 0) (aj ai 0 0));let⟨z0,N,O,P⟩:=eV v;have y0:=cA v 0;have y1:=cA v 1;have y2:=cA v 2;have y3:=cA v 3;have ad:=dO v)|(go_at_call 251;refine(H _).mono ?_;rintro e J ⟨rfl,t,y,x⟩;have G:=mU J y)|(go_at_call 110;refine G.mono ?_;rintro e U ⟨rfl,m,A⟩;have d2:=m.lp.c2;have f2:=m.lp.row.frozen 2;have g:=m.step (k:=k+1) bO;rw[show((k+1:Nat):Int)=(k:Int)+1 from by omega] at g;have F:=oH _ (k+1) g.1 61  hs)|(go_at_call 112;refine F.mono ?_;rintro e R ⟨rfl,D,C⟩;have I:=uM R (bl s (k+1+1)) D;rw[h2] at I));have K6:=S.dF (dD (bW _ V) (aq #[iz 0,iz a,iz b,aj ai 0 0] 36));have F6:=eM (gG (hz w) V (aq #[iz 0,iz a,iz b,aj ai 0 0] 36)) (bT _) v;have NG:=zH (bC V (aq #[iz 0,iz a,iz b,aj ai 0 0] 36)) (hz w+1) (aao (hz w+1) _ (a:Int) (b:Int)) bX
     go_wp2_with(go_at_call 231;refine NG.mono ?_;rintro e w6 ⟨u,rfl,V6,aa⟩;obtain⟨E,x6,y6,Z,n6,j,rfl⟩:=V6.form;have Y:=K6.1.dF aa;have M:=eM (Hc aa (hz w)) (bT _) F6;let⟨z0,N,O,P⟩:=eV M;have t0:=cA M 0;have t1:=cA M 1;have t2:=cA M 2;have t3:=cA M 3);have F8:=oG M (iz E) (iz x6) (iz y6) (aj Z n6 j);have P8:=Y.1.kC M (iz E) (iz x6) (iz y6) (aj Z n6 j);have V8:=(V6.keep (uD (jG (hz w)) (iz E) (iz x6) (iz y6) (aj Z n6 j))).mono (iD _);have G8:=(((((((((L _).2.trans x).trans A).trans g.2).trans C).trans Q).trans K6.2).trans Y.2)).kC (bT (hz w)) (iz E) (iz x6) (iz y6) (aj Z n6 j);clear z0 N O P t0 t1 t2 t3;let⟨z0,N,O,P⟩:=eV F8;unfold Go.Proofs.YtlehlgipbhfioaaGreat.kC at F8 P8 V8 G8 z0 N O P;generalize((((w6).setCell (az (hz w) 0) (iz E)).setCell (az (hz w) 1) (iz x6)).setCell (az (hz w) 2) (iz y6)).setCell (az (hz w) 3) (aj Z n6 j)=w8 at P8 V8 G8 z0 N O P⊢;refine⟨rfl,.agg #[iz E,iz x6,iz y6,aj Z n6 j],by simp[aI,results233,go_sem,z0,N,O,P],?_⟩;exact⟨_,rfl,V8,z,P8,G8⟩
  simp[T,jF];have ab:((ji s k:Int)==33)=aL:=bX
  cases hs:ix s (k) 61 with
  |false=>
   rw[cC bQ]
   go_wp2_with(first|(go_at_call 251;refine(H _).mono ?_;clear H;rintro e J ⟨rfl,t,y,x⟩;have G:=mU J y)|(go_at_call 110;refine G.mono ?_;rintro e U ⟨rfl,m,A⟩;have F:=xQ k m 61 bO hs)|(go_at_call 112;refine F.mono ?_;rintro e R ⟨rfl,D,C⟩));exact⟨rfl,by simp[jU],t,_,d,D,(((L _).2.trans x).trans A).trans C⟩
  |true=>
   rw[cY rfl];have ac:=(ft hs).1;cases h2:rU s (bl s (k+1)) l1 with
   |bad c q l2=>go_wp2_with(first|(go_at_call 251;refine I.mono ?_;rintro e V ⟨rfl,z,k5,S,Q⟩)|(go_at_call 251;refine(H _).mono ?_;clear H;rintro e J ⟨rfl,t,y,x⟩;have G:=mU J y)|(go_at_call 110;refine G.mono ?_;rintro e U ⟨rfl,m,A⟩;have F:=oH U k m 61  hs)|(go_at_call 112;refine F.mono ?_;rintro e R ⟨rfl,D,C⟩;have I:=uM R (bl s (k+1)) D;rw[h2] at I));exact⟨rfl,rfl,z,k5,d,S,((((L _).2.trans x).trans A).trans C).trans Q⟩
   |ok b k2 l2=>go_wp2_with(first|(go_at_call 251;refine I.mono ?_;rintro e V ⟨rfl,z,S,Q⟩;have v:=eM ((((L _).1.fG x (hz w)).trans ((y.fG A (hz w)).trans (m.fG C _))).trans (D.fG Q _)) (bT _) (gZ w (iz 0) (iz 0) (iz 0) (aj ai 0 0));let⟨z0,N,O,P⟩:=eV v;have y0:=cA v 0;have y1:=cA v 1;have y2:=cA v 2;have y3:=cA v 3;have ad:=dO v)|(go_at_call 251;refine(H _).mono ?_;clear H;rintro e J ⟨rfl,t,y,x⟩;have G:=mU J y)|(go_at_call 110;refine G.mono ?_;rintro e U ⟨rfl,m,A⟩;have F:=oH U k m 61  hs)|(go_at_call 112;refine F.mono ?_;rintro e R ⟨rfl,D,C⟩;have I:=uM R (bl s (k+1)) D;rw[h2] at I));have F6:=oG v (iz 0) (iz a) (iz b) (aj ai 0 0);have P6:=S.kC v (iz 0) (iz a) (iz b) (aj ai 0 0);have G6:=(((((L _).2.trans x).trans A).trans C).trans Q).kC (bT (hz w)) (iz 0) (iz a) (iz b) (aj ai 0 0);clear z0 N O P y0 y1 y2 y3 I F G;unfold Go.Proofs.YtlehlgipbhfioaaGreat.kC at F6 P6 G6;generalize((((V).setCell (az (hz w) 0) (iz 0)).setCell (az (hz w) 1) (iz a)).setCell (az (hz w) 2) (iz b)).setCell (az (hz w) 3) (aj ai 0 0)=w6 at F6 P6 G6⊢;have Y:=P6.dF (dD (bW _ w6) (aq #[iz 0,iz a,iz b,aj ai 0 0] 36));have M:=eM (gG (hz w) w6 (aq #[iz 0,iz a,iz b,aj ai 0 0] 36)) (bT _) F6;generalize bC w6 (aq #[iz 0,iz a,iz b,aj ai 0 0] 36)=w7 at Y M⊢;let⟨z0,N,O,P⟩:=eV M;refine⟨rfl,.agg #[iz 0,iz a,iz b,aj ai 0 0],by simp[aI,results233,go_sem,z0,N,O,P],?_⟩;exact⟨_,rfl,aao _ _ _ _,z,Y.1,G6.trans Y.2⟩
def At(fn lev f:Nat):Prop:=∀(w:ay)(base r p:Nat)(ev:aA)(nb fb:Nat)(s:ByteArray)(i d:Nat)(l:List Tm),PB w base r p ev nb fb s i d l->6*(s.size-i)+5<=f+lev->d<=20->
 aB prog fn #[ak (ah ⟨r,0,ai⟩)] w (tG base r p nb fb s d w ev (gp s f lev d i l))
theorem pC{e:ay}{j:aA}(P:PB W base r p j nb fb s k d l)(F:bE W w.heap.size 36 4 f){op x y:Int}{a:Option Addr}{h:Nat}{g:Fo}(V:mw (w.heap.size+1) W (.agg #[iz op,iz x,iz y,aj a n h]) g)(G:gN (λk=>k=r) p nb fb w ev W j)(K:dG (kC W w.heap.size (iz op) (iz x) (iz y) (aj a n h)) e):
  cz e w.heap.size 0 (iz op)∧cz e w.heap.size 1 (iz x)∧cz e w.heap.size 2 (iz y)∧cz e w.heap.size 3 (aj a n h)∧
   mw w.heap.size e (.agg #[iz op,iz x,iz y,aj a n h]) g∧PB e base r p j nb fb s k d l∧gN (λk=>k=r) p nb fb w ev e j:=by
 have o:=oG F (iz op) (iz x) (iz y) (aj a n h);have u:=P.kC F (iz op) (iz x) (iz y) (aj a n h);have v:=(V.keep (uD (jG (hz w)) (iz op) (iz x) (iz y) (aj a n h))).mono (iD _);have t:=G.kC (bT (hz w)) (iz op) (iz x) (iz y) (aj a n h);have q:=eM (Hc K (hz w)) (bT _) o;let⟨z0,z,A,C⟩:=eV q;have m:=u.dF K;exact⟨z0,z,A,C,v.keep (Hc K _),m.1,t.trans m.2⟩
theorem Lm{f}(H:At 194 3 f){w}{base r p}{ev}{nb fb}{s}{i d}{l}(h:PB w base r p ev nb fb s i d l)(c)(hc:c≠0)(hb:ji s i=c)(hd:d<=20)(R:6*(s.size-bl s (i+1))+5<=f+3):
  aB prog 232 #[pz r,.int .u8 c,.func (.func 194) #[pz r] #[]] w (tG base r p nb fb s d w ev (if 20<=d then .bad 4 i l else gp s f 3 (d+1) (bl s (i+1)) l)):=by
 have hs:=vp hb hc;have an:=h.lp.row.lt;have q:=λ(o:Obj)=>h.dF (dD (bW _ w) o);have c3:=λ(o:Obj)=>(q o).1.lp.c3;have c2:=λ(o:Obj)=>(q o).1.lp.c2;have P:=λo=>oH (bC w o) i (q o).1 c hs;go_enter func232,ntmps232;by_cases A:20<=d
 .rw[cY A];have dd:((20:Int)<=(d:Int))=True:=bX
  go_wp2_with(go_at_call 69;refine(pK _ _ _).mono ?_;rintro e w4 ⟨rfl,rfl⟩);exact⟨rfl,rfl,ev,_,d,(q _).1,(q _).2⟩
 rw[cC A];have dd:((20:Int)<=(d:Int))=False:=bX
 cases S:gp s f 3 (d+1) (bl s (i+1)) l with
 |bad e0 q0 l0=>go_wp2_with(first|(go_at_call 112;refine(P _).mono ?_;rintro e O ⟨rfl,t,z⟩;have J:=t.lp.c3;have L:=t.lp.row.frozen 3;have j:=t.deep (d+1);rw[show((d+1:Nat):Int)=(d:Int)+1 from by omega] at j;have y:=H _ base r p ev nb fb s _ (d+1) l j.1 R bO;rw[S] at y)|(go_at_call 194;refine y.mono ?_;rintro e U ⟨rfl,x,k5,d5,u,D⟩));exact⟨rfl,rfl,x,k5,d5,u,(((q _).2.trans z).trans j.2).trans D⟩
 |ok g0 k0 l0=>
  go_wp2_with(first|(go_at_call 112;refine(P _).mono ?_;rintro e O ⟨rfl,t,z⟩;have J:=t.lp.c3;have L:=t.lp.row.frozen 3;have j:=t.deep (d+1);rw[show((d+1:Nat):Int)=(d:Int)+1 from by omega] at j;have y:=H _ base r p ev nb fb s _ (d+1) l j.1 R bO;rw[S] at y)|(go_at_call 194;refine y.mono ?_;rintro e U ⟨v5,rfl,Q,x,u,D⟩;obtain⟨m,G,I,E,F,g,rfl⟩:=Q.form;have T:w.heap.size+1<=O.heap.size:=(by have:=z.kept.size;simp at this;omega);have v:=eM ((((q _).1.fG z w.heap.size).trans (t.fG j.2 _)).trans (j.1.fG D _)) (bT _) (gZ w (iz 0) (iz 0) (iz 0) (aj ai 0 0));let⟨z0,V,Y,Z⟩:=eV v;have y0:=cA v 0;have y1:=cA v 1;have y2:=cA v 2;have y3:=cA v 3;have ac:=dO v;have aa:=u.lp.c3;have ab:=u.lp.row.frozen 3;have al:=u.lp.row.lt;have ad:¬w.heap.size=r:=bO;have ag:¬r=w.heap.size:=bO));have C:=u.deep d;have F6:=eM (u.fG C.2 w.heap.size) (bT _) v;have M:w.heap.size+1<=(aW O (az r 3) (.int .u64 ((d:Int)+1))).heap.size:=by simp[aW];omega
  have V6:=((Q.mono M).keep (u.fG C.2 _))
  have N:=pC C.1 F6 V6 (((((q _).2.trans z).trans j.2).trans D).trans C.2) (dD (bW _ _) (aq #[iz m,iz G,iz I,aj E F g] 36));unfold kC at N;generalize bC (aW (aW (aW (aW (aW U (az r 3) (.int .u64 d)) (az w.heap.size 0) (iz m)) (az w.heap.size 1) (iz G)) (az w.heap.size 2) (iz I)) (az w.heap.size 3) (aj E F g)) (aq #[iz m,iz G,iz I,aj E F g] 36)=w8 at N⊢;obtain⟨z0,V,Y,Z,V8,P8,G8⟩:=N;refine⟨rfl,.agg #[iz m,iz G,iz I,aj E F g],by simp[aI,results232,go_sem,z0,V,Y,Z],?_⟩;exact⟨_,rfl,V8,x,P8,G8⟩
theorem Ho{f}(H:At 68 0 f){w}{base r p}{ev}{nb fb}{s}{i d}{l}(h:PB w base r p ev nb fb s i d l)(c)(hc:c≠0)(hb:ji s i=c)(hd:d<=20)(R:6*(s.size-bl s (i+1))+5<=f+0):
  aB prog 232 #[pz r,.int .u8 c,.func (.func 68) #[pz r] #[]] w (tG base r p nb fb s d w ev (if 20<=d then .bad 4 i l else gp s f 0 (d+1) (bl s (i+1)) l)):=by
 have hs:=vp hb hc;have an:=h.lp.row.lt;have q:=λ(o:Obj)=>h.dF (dD (bW _ w) o);have c3:=λ(o:Obj)=>(q o).1.lp.c3;have c2:=λ(o:Obj)=>(q o).1.lp.c2;have P:=λo=>oH (bC w o) i (q o).1 c hs;go_enter func232,ntmps232;by_cases A:20<=d
 .rw[cY A];have dd:((20:Int)<=(d:Int))=True:=bX
  go_wp2_with(go_at_call 69;refine(pK _ _ _).mono ?_;rintro e w4 ⟨rfl,rfl⟩);exact⟨rfl,rfl,ev,_,d,(q _).1,(q _).2⟩
 rw[cC A];have dd:((20:Int)<=(d:Int))=False:=bX
 cases S:gp s f 0 (d+1) (bl s (i+1)) l with
 |bad e0 q0 l0=>go_wp2_with(first|(go_at_call 112;refine(P _).mono ?_;rintro e O ⟨rfl,t,z⟩;have J:=t.lp.c3;have L:=t.lp.row.frozen 3;have j:=t.deep (d+1);rw[show((d+1:Nat):Int)=(d:Int)+1 from by omega] at j;have y:=H _ base r p ev nb fb s _ (d+1) l j.1 R bO;rw[S] at y)|(go_at_call 68;refine y.mono ?_;rintro e U ⟨rfl,x,k5,d5,u,D⟩));exact⟨rfl,rfl,x,k5,d5,u,(((q _).2.trans z).trans j.2).trans D⟩
 |ok g0 k0 l0=>
  go_wp2_with(first|(go_at_call 112;refine(P _).mono ?_;rintro e O ⟨rfl,t,z⟩;have J:=t.lp.c3;have L:=t.lp.row.frozen 3;have j:=t.deep (d+1);rw[show((d+1:Nat):Int)=(d:Int)+1 from by omega] at j;have y:=H _ base r p ev nb fb s _ (d+1) l j.1 R bO;rw[S] at y)|(go_at_call 68;refine y.mono ?_;rintro e U ⟨v5,rfl,Q,x,u,D⟩;obtain⟨m,G,I,E,F,g,rfl⟩:=Q.form;have T:w.heap.size+1<=O.heap.size:=(by have:=z.kept.size;simp at this;omega);have v:=eM ((((q _).1.fG z w.heap.size).trans (t.fG j.2 _)).trans (j.1.fG D _)) (bT _) (gZ w (iz 0) (iz 0) (iz 0) (aj ai 0 0));let⟨z0,V,Y,Z⟩:=eV v;have y0:=cA v 0;have y1:=cA v 1;have y2:=cA v 2;have y3:=cA v 3;have ac:=dO v;have aa:=u.lp.c3;have ab:=u.lp.row.frozen 3;have al:=u.lp.row.lt;have ad:¬w.heap.size=r:=bO;have ag:¬r=w.heap.size:=bO));have C:=u.deep d;have F6:=eM (u.fG C.2 w.heap.size) (bT _) v;have M:w.heap.size+1<=(aW O (az r 3) (.int .u64 ((d:Int)+1))).heap.size:=by simp[aW];omega
  have V6:=((Q.mono M).keep (u.fG C.2 _))
  have N:=pC C.1 F6 V6 (((((q _).2.trans z).trans j.2).trans D).trans C.2) (dD (bW _ _) (aq #[iz m,iz G,iz I,aj E F g] 36));unfold kC at N;generalize bC (aW (aW (aW (aW (aW U (az r 3) (.int .u64 d)) (az w.heap.size 0) (iz m)) (az w.heap.size 1) (iz G)) (az w.heap.size 2) (iz I)) (az w.heap.size 3) (aj E F g)) (aq #[iz m,iz G,iz I,aj E F g] 36)=w8 at N⊢;obtain⟨z0,V,Y,Z,V8,P8,G8⟩:=N;refine⟨rfl,.agg #[iz m,iz G,iz I,aj E F g],by simp[aI,results232,go_sem,z0,V,Y,Z],?_⟩;exact⟨_,rfl,V8,x,P8,G8⟩
theorem aaX{f}(H3:At 194 3 f)(H0:At 68 0 f):At 194 3 (f+1):=by
 intro w base r p ev nb fb s i d l h hf hd;have G:=λ(o:Obj)=>h.dF (dD (bW _ w) o);have H:=λo=>mU (bC w o) (G o).1;have ag:=oL s (i+1);rw[gp,cC bO,cY rfl];go_enter func194,ntmps194;by_cases J:ji s i=33
 .rw[cY J];rw[J] at H;have ab:=sf J bO;have E:=λW I (P:PB W base r p I nb fb s i d l)=>Lm H3 P 33 bO J hd bO;by_cases z:20<=d
  .rw[cY z];simp only[z,iX] at E
   go_wp2_with(first|(go_at_call 110;refine(H _).mono ?_;rintro e y ⟨rfl,v,m⟩;have A:=E y ev v)|(go_at_call 232;refine A.mono ?_;rintro e O ⟨rfl,g,T,S,x,t⟩));exact⟨rfl,rfl,g,T,S,x,((G _).2.trans m).trans t⟩
  rw[cC z];simp only[z,jF] at E;cases U:gp s f 3 (d+1) (bl s (i+1)) l with
  |bad e0 q0 l0=>
   rw[U] at E
   go_wp2_with(first|(go_at_call 110;refine(H _).mono ?_;rintro e y ⟨rfl,v,m⟩;have A:=E y ev v)|(go_at_call 232;refine A.mono ?_;rintro e O ⟨rfl,g,T,S,x,t⟩));exact⟨rfl,rfl,g,T,S,x,((G _).2.trans m).trans t⟩
  |ok g0 k0 l0=>
   rw[U] at E
   go_wp2_with(first|(go_at_call 110;refine(H _).mono ?_;rintro e y ⟨rfl,v,m⟩;have A:=E y ev v)|(go_at_call 232;refine A.mono ?_;rintro e O ⟨v5,rfl,R,g,x,t⟩;have D:w.heap.size+1<=y.heap.size:=(by have:=m.kept.size;simp at this;omega);have NG:=zH O (w.heap.size+1) (R.mono D) (by have:=t.kept.size;omega);obtain⟨F,x5,y5,a5,n5,q,rfl⟩:=R.form)|(go_at_call 231;refine NG.mono ?_;rintro e w6 ⟨u,rfl,V6,K6⟩;obtain⟨M,x6,y6,a6,n6,C,rfl⟩:=V6.form;have P6:=x.dF K6;have j:=eM ((((G _).1.fG m w.heap.size).trans (v.fG t _)).trans (x.fG P6.2 _)) (bT _) (gZ w (iz 0) (iz 0) (iz 0) (aj ai 0 0));let⟨z0,V,Y,Z⟩:=eV j;have y0:=cA j 0;have y1:=cA j 1;have y2:=cA j 2;have y3:=cA j 3;have aa:=dO j));have N:=pC P6.1 j V6 ((((G _).2.trans m).trans t).trans P6.2) (bW _ _);unfold kC at N;generalize((((w6).setCell (az w.heap.size 0) (iz M)).setCell (az w.heap.size 1) (iz x6)).setCell (az w.heap.size 2) (iz y6)).setCell (az w.heap.size 3) (aj a6 n6 C)=w8 at N⊢;obtain⟨z0,V,Y,Z,V8,P8,G8⟩:=N;refine⟨rfl,.agg #[iz M,iz x6,iz y6,aj a6 n6 C],by simp[aI,results194,go_sem,z0,V,Y,Z],?_⟩;exact⟨_,rfl,V8,g,P8,G8⟩
 rw[cC J];have ac:((ji s i:Int)==33)=aL:=bX
 by_cases L:ji s i=40
 .rw[cY L];rw[L] at H;have ab:=sf L bO;have E:=λW I (P:PB W base r p I nb fb s i d l)=>Ho H0 P 40 bO L hd bO;by_cases z:20<=d
  .rw[cY z];simp only[z,iX] at E
   go_wp2_with(first|(go_at_call 110;refine(H _).mono ?_;rintro e y ⟨rfl,v,m⟩;have A:=E y ev v)|(go_at_call 232;refine A.mono ?_;rintro e O ⟨rfl,g,T,S,x,t⟩));exact⟨rfl,rfl,g,T,S,x,((G _).2.trans m).trans t⟩
  rw[cC z];simp only[z,jF] at E;cases U:gp s f 0 (d+1) (bl s (i+1)) l with
  |bad e0 q0 l0=>
   rw[U] at E
   go_wp2_with(first|(go_at_call 110;refine(H _).mono ?_;rintro e y ⟨rfl,v,m⟩;have A:=E y ev v)|(go_at_call 232;refine A.mono ?_;rintro e O ⟨rfl,g,T,S,x,t⟩));exact⟨rfl,rfl,g,T,S,x,((G _).2.trans m).trans t⟩
  |ok g0 k0 l0=>
   rw[U] at E;simp only[tF.bind];cases hs:ix s k0 41 with
   |false=>
    rw[cC bQ]
    go_wp2_with(first|(go_at_call 110;refine(H _).mono ?_;rintro e y ⟨rfl,v,m⟩;have A:=E y ev v)|(go_at_call 232;refine A.mono ?_;rintro e O ⟨v5,rfl,R,g,x,t⟩;obtain⟨F,x5,y5,a5,n5,q,rfl⟩:=R.form;have Q:=x.dF (dD (bW _ O) (aq #[iz F,iz x5,iz y5,aj a5 n5 q] 36));have MU:=xQ k0 Q.1 41 bO hs)|(go_at_call 112;refine MU.mono ?_;rintro e w6 ⟨rfl,P6,G6⟩));exact⟨rfl,rfl,g,k0,d,P6,((((G _).2.trans m).trans t).trans Q.2).trans G6⟩
   |true=>
    rw[cY rfl]
    go_wp2_with(first|(go_at_call 110;refine(H _).mono ?_;rintro e y ⟨rfl,v,m⟩;have A:=E y ev v)|(go_at_call 232;refine A.mono ?_;rintro e O ⟨v5,rfl,R,g,x,t⟩;have D:w.heap.size+1<=y.heap.size:=(by have:=m.kept.size;simp at this;omega);obtain⟨F,x5,y5,a5,n5,q,rfl⟩:=R.form;have Q:=x.dF (dD (bW _ O) (aq #[iz F,iz x5,iz y5,aj a5 n5 q] 36));have MU:=oH _ k0 Q.1 41 hs)|(go_at_call 112;refine MU.mono ?_;rintro e w6 ⟨rfl,P6,G6⟩;have j:=eM (((((G _).1.fG m w.heap.size).trans (v.fG t _)).trans (x.fG Q.2 _)).trans (Q.1.fG G6 _)) (bT _) (gZ w (iz 0) (iz 0) (iz 0) (aj ai 0 0));have E6:=eM (Q.1.fG G6 0) (dt _) (gZ O (iz F) (iz x5) (iz y5) (aj a5 n5 q));let⟨z0,V,Y,Z⟩:=eV j;let⟨t0,t1,t2,t3⟩:=eV E6;have y0:=cA j 0;have y1:=cA j 1;have y2:=cA j 2;have y3:=cA j 3;have aa:=dO j));have V6:=((R.mono D).keep (x.fG Q.2 _)).keep (Q.1.fG G6 _);have N:=pC P6 j V6 (((((G _).2.trans m).trans t).trans Q.2).trans G6) (bW _ _);unfold kC at N;generalize((((w6).setCell (az w.heap.size 0) (iz F)).setCell (az w.heap.size 1) (iz x5)).setCell (az w.heap.size 2) (iz y5)).setCell (az w.heap.size 3) (aj a5 n5 q)=w8 at N⊢;obtain⟨z0,V,Y,Z,V8,P8,G8⟩:=N;refine⟨rfl,.agg #[iz F,iz x5,iz y5,aj a5 n5 q],by simp[aI,results194,go_sem,z0,V,Y,Z],?_⟩;exact⟨_,rfl,V8,g,P8,G8⟩
 rw[cC L];have ad:((ji s i:Int)==40)=aL:=bX
 have EQ:=λW I (P:PB W base r p I nb fb s i d l)=>JO P;cases U:QJ s i l with
 |bad e0 q0 l0=>
  rw[U] at EQ
  go_wp2_with(first|(go_at_call 110;refine(H _).mono ?_;rintro e y ⟨rfl,v,m⟩;have A:=EQ y ev v)|(go_at_call 233;refine A.mono ?_;rintro e O ⟨rfl,g,T,S,x,t⟩));exact⟨rfl,rfl,g,T,S,x,((G _).2.trans m).trans t⟩
 |ok g0 k0 l0=>
  rw[U] at EQ
  go_wp2_with(first|(go_at_call 110;refine(H _).mono ?_;rintro e y ⟨rfl,v,m⟩;have A:=EQ y ev v)|(go_at_call 233;refine A.mono ?_;rintro e w6 ⟨v5,rfl,R,g,x,t⟩;have D:w.heap.size+1<=y.heap.size:=(by have:=m.kept.size;simp at this;omega);obtain⟨M,x6,y6,a6,n6,C,rfl⟩:=R.form;have j:=eM (((G _).1.fG m w.heap.size).trans (v.fG t _)) (bT _) (gZ w (iz 0) (iz 0) (iz 0) (aj ai 0 0));let⟨z0,V,Y,Z⟩:=eV j;have y0:=cA j 0;have y1:=cA j 1;have y2:=cA j 2;have y3:=cA j 3;have aa:=dO j));have N:=pC x j (R.mono D) (((G _).2.trans m).trans t) (bW _ _);unfold kC at N;generalize((((w6).setCell (az w.heap.size 0) (iz M)).setCell (az w.heap.size 1) (iz x6)).setCell (az w.heap.size 2) (iz y6)).setCell (az w.heap.size 3) (aj a6 n6 C)=w8 at N⊢;obtain⟨z0,V,Y,Z,V8,P8,G8⟩:=N;refine⟨rfl,.agg #[iz M,iz x6,iz y6,aj a6 n6 C],by simp[aI,results194,go_sem,z0,V,Y,Z],?_⟩;exact⟨_,rfl,V8,g,P8,G8⟩
theorem n9(h:bE w b 36 n f)(e:b≠c)(g j m o):(kC w c g j m o).rowIs b 36 n f:=by have K:dV c w (kC w c g j m o):=eH (eH (eH (eH (bW _ w) 0 g) 1 j) 2 m) 3 o;exact h.of_block (K.block b h.lt e)
def Ej{A:Nat->Prop}(e:¬A b)(g h j m):iH A w (kC w b g h j m):=
 (((sB w e 0 g).trans (sB _ e 1 h)).trans (sB _ e 2 j)).trans (sB _ e 3 m)
theorem BP(w b e g h j):(kC w b e g h j).heap.size=w.heap.size:=by simp[kC,aW]
structure EU(w W:ay)(base r p:Nat)(ev ev':aA)(nb fb:Nat)(s:ByteArray)(k d:Nat)(l:List Tm)(bf:Nat)(op x y:Int)(a:Option Addr)(n cap:Nat)(g:Fo):Prop where
 pb:PB W base r p ev' nb fb s k d l
 box:bE W bf 36 4 (frm (ae af op) (ae af x) (ae af y) (aj a n cap))
 res:bE W w.heap.size 36 4 (frm (ae af 0) (ae af 0) (ae af 0) (aj ai 0 0))
 val:kO (λk=>w.heap.size+1<=k∧k≠bf) W (.agg #[ae af op,ae af x,ae af y,aj a n cap]) g
 up:w.heap.size<bf
 qR:gN (λk=>k=r) p nb fb w ev W ev'
theorem aaR(f)(H:∀g,g<=f->At 153 (1+1) g)(w){base r p}{ev}{nb fb}{s}{i d}{l}(h:PB w base r p ev nb fb s i d l)(hf:6*(s.size-i)+5<=f+1+1)(hd:d<=20):
  aB prog 152 #[pz r,iz 3,.int .u8 124,.func (.func 153) #[pz r] #[]] w (tG base r p nb fb s d w ev (gp s (f+1) 1 d i l)):=by
 have ad:=h.lp.le;have A1:=λ(o:Obj)=>h.dF (dD (bW _ w) o);have C1:=λo=>H f (bT _) (bC w o) base r p ev nb fb s i d l (A1 o).1 bO hd;rw[gp,cC bO,cC bO];go_enter func152,ntmps152;cases hg:gp s f (1+1) d i l with
 |bad e0 q0 l0=>
  rw[hg] at C1
  go_wp2_with(go_at_call 153;refine(C1 _).mono ?_;rintro e S ⟨rfl,M,k5,d5,P5,G5⟩);exact⟨rfl,rfl,M,k5,d5,P5,(A1 _).2.trans G5⟩
 |ok g0 k0 l0=>
  rw[hg] at C1;simp only[tF.bind];let⟨a1,a2⟩:=(EA s f).1 (1+1) d i l g0 k0 l0 ad hg
  go_wp2_with(go_at_call 153;refine(C1 _).mono ?_;rintro e S ⟨v5,rfl,V5,M,P5,G5⟩;obtain⟨G,x5,y5,a5,n5,u,rfl⟩:=V5.form);have a8:w.heap.size+1<=S.heap.size:=by have:=G5.kept.size;simp at this;omega
  have Q5:=P5.dF (dD (bW _ S) (aq #[iz G,iz x5,iz y5,aj a5 n5 u] 36));have R0:EU w (bC S (aq #[iz G,iz x5,iz y5,aj a5 n5 u] 36)) base r p ev M nb fb s k0 d l0 S.heap.size G x5 y5 a5 n5 u g0:=⟨Q5.1,gZ S _ _ _ _,eM (((A1 _).1.fG G5 w.heap.size).trans (P5.fG Q5.2 _)) (bT _) (gZ w _ _ _ _),((kO.lt V5).mono λk hk=>⟨by simp_all,by have:=hk.2;omega⟩).keep ((P5.fG Q5.2 0).yq _),by omega,((A1 _).2.trans G5).trans Q5.2⟩
  generalize bC S (aq #[iz G,iz x5,iz y5,aj a5 n5 u] 36)=w6 at R0⊢;have ab:w.heap.size<S.heap.size:=bO
  generalize S.heap.size=bf at R0 ab⊢
  go_loopw[] (λW=>∃(F z:Nat)(P:List Tm)(C:aA)(op x y:Int)(a:Option Addr)(n t:Nat)(g:Fo),EU w W base r p ev C nb fb s z d P bf op x y a n t g∧Hid (F<=f∧gl s f 1 d k0 l0 g0=gl s F 1 d z P g∧6*(s.size-z)+5<=F)) λW=>s.size-(match aU W (az r 2) with|some v=>(aG v).toNat|none=>0)
  case atStart=>exact⟨f,k0,l0,M,G,x5,y5,a5,n5,u,g0,R0,⟨bT _,rfl,by omega⟩⟩
  case round=>
   obtain⟨F,z,P,C,op,x,y,a,n,t,g,R,HG⟩:=hrel;let⟨ap,j,ao⟩:=HG.out;obtain⟨F,rfl⟩:∃g',F=g'+1:=⟨F-1,by omega⟩
   have NX:=mU wr R.pb;rw[gl] at j;by_cases hb:ji s z=124
   .rw[cY (show ji s z=wD 1 from hb)] at j;have hs:=vp hb bO;have a0:=sf hb bO;have ac:=jV (s:=s) (i:=z+1) bO;have an:=oL s (z+1);rw[hb] at NX;have MU:=λU (L:PB U base r p C nb fb s z d P)=>oH U z L 124 hs;have PT:=λV (P4:PB V base r p C nb fb s (bl s (z+1)) d P)=>H F bO V base r p C nb fb s (bl s (z+1)) d P P4 bO hd;cases hp:gp s F (1+1) d (bl s (z+1)) P with
    |bad e0 q0 l1=>
     rw[hp] at PT j;simp only[tF.bind] at j;have q:=bL (b9 R j)
     go_wp2_with(first|(go_at_call 110;refine NX.mono ?_;rintro e U ⟨rfl,L,I⟩;have M3:=MU U L)|(go_at_call 112;refine M3.mono ?_;rintro e V ⟨rfl,P4,G4⟩));have Y:∀m,aB prog 153 #[pz r] (bF V m) λe w'=>e=.panicked [{v:=jU e0 q0,recovered:=aL}]∧tG base r p nb fb s d w ev (gl s f 1 d k0 l0 g0) e w':=λm=>(PT _ (P4.drewN m)).mono (by rintro e w' ⟨h1,O,k7,d7,P7,G7⟩;refine⟨h1,?_⟩;rw[q.out.2];exact⟨h1,O,k7,d7,P7,(((q.out.1.qR.trans I).trans G4).trans ((tK _ _ _ _ _ _).drewN m)).trans G7⟩)
     have B4:=eM ((q.out.1.pb.fG I 0).trans (L.fG G4 0)) (dt _) q.out.1.box;let⟨z0,z1,z2,z3⟩:=eV B4
     go_region_with(go_at_call 153;refine(Y 1).mono ?_;rintro e D ⟨rfl,hP⟩;refine Av D (b9 rfl hP) ?_)
     all_goals trivial
    |ok b k2 l2=>
     rw[hp] at PT j;simp only[tF.bind] at j;let⟨a3,a4⟩:=(EA s F).1 (1+1) d (bl s (z+1)) P b k2 l2 ac hp;have q:=bL (b9 R j)
     go_wp2_with(first|(go_at_call 110;refine NX.mono ?_;rintro e U ⟨rfl,L,I⟩;have M3:=MU U L)|(go_at_call 112;refine M3.mono ?_;rintro e V ⟨rfl,P4,G4⟩));have K4:=((q.out.1.pb.fG I 0).trans (L.fG G4 0))
     have B4:=eM K4 (dt _) q.out.1.box;let⟨z0,z1,z2,z3⟩:=eV B4;have J:=bL (b9 B4 K4);have Y:=λm=>PT _ (P4.drewN m);have aa:Hid (PB V base r p C nb fb s (bl s (z+1)) d P):=P4
     go_region_with(go_at_call 153;refine(Y 1).mono ?_;rintro e D ⟨v7,rfl,V7,O,P7,G7⟩;obtain⟨Q,x7,y7,a7,n7,E,rfl⟩:=V7.form;have T:=eM ((aa.out.drewN 1).fG G7 0) (dt _) J.out.1;let⟨t0,t1,t2,t3⟩:=eV T;have y0:=cA T 0;have y1:=cA T 1;have y2:=cA T 2;have y3:=cA T 3;have a6:=dO T)
     all_goals
      have R:=q.out.1;have K7:=(J.out.2.trans ((aa.out.drewN 1).fG G7 0))
      have VA:=R.val.keep (K7.yq _);have VB:kO (λk=>w.heap.size+1<=k∧k≠bf) D _ _:=Ds (λk hk=>⟨by have h1:V.heap.size<=k:=hk;have h2:=dO J.out.1;omega,by have h1:V.heap.size<=k:=hk;have h2:=dO J.out.1;omega⟩) V7;have P8:=P7.kC T (iz 3) (iz 0) (iz 0) (aj (ah (az D.heap.size 0)) 2 2);have F8:=oG T (iz 3) (iz 0) (iz 0) (aj (ah (az D.heap.size 0)) 2 2);have E8:=eM K7 (dt _) R.res;have ag:w.heap.size≠bf:=by have:=R.up;omega
      have E9:=n9 E8 ag (iz 3) (iz 0) (iz 0) (aj (ah (az D.heap.size 0)) 2 2);have G8:=(((R.qR.trans I).trans G4).trans (((tK _ _ _ _ _ _).drewN 1).trans G7)).kC (ir R.up) (iz 3) (iz 0) (iz 0) (aj (ah (az D.heap.size 0)) 2 2);have KP:iH (λk=>w.heap.size+1<=k∧k≠bf) D _:=Ej (A:=λk=>w.heap.size+1<=k∧k≠bf) (w:=D) (b:=bf) (λx=>x.2 rfl) (iz 3) (iz 0) (iz 0) (aj (ah (az D.heap.size 0)) 2 2);have hz:=BP D bf (iz 3) (iz 0) (iz 0) (aj (ah (az D.heap.size 0)) 2 2);have V8:=adp (VA.keep KP) (VB.keep KP) 3 ⟨by rw[hz];have:=R.up;omega,by rw[hz];omega⟩;rw[hz] at V8;unfold kC at P8 F8 E9 G8 V8;generalize((((D).setCell (az bf 0) (iz 3)).setCell (az bf 1) (iz 0)).setCell (az bf 2) (iz 0)).setCell (az bf 3) (aj (ah (az D.heap.size 0)) 2 2)=w8 at P8 F8 E9 G8 V8⊢;have P9:=P8.dF (dD (bW _ w8) (aq #[iz op,iz x,iz y,aj a n t,iz Q,iz x7,iz y7,aj a7 n7 E] 36));have KA:=gG 0 w8 (aq #[iz op,iz x,iz y,aj a n t,iz Q,iz x7,iz y7,aj a7 n7 E] 36);have R9:EU w (bC w8 (aq #[iz op,iz x,iz y,aj a n t,iz Q,iz x7,iz y7,aj a7 n7 E] 36)) base r p ev O nb fb s k2 d l2 bf 3 0 0 (ah (az D.heap.size 0)) 2 2 (.two 3 g b):=⟨P9.1,eM KA (dt _) F8,eM KA (dt _) E9,V8,R.up,G8.trans P9.2⟩
      generalize bC w8 (aq #[iz op,iz x,iz y,aj a n t,iz Q,iz x7,iz y7,aj a7 n7 E] 36)=w9 at R9⊢
      go_wp2;refine⟨⟨F,k2,l2,O,3,0,0,_,2,2,_,R9,⟨by omega,q.out.2,by omega⟩⟩,?_⟩;rw[q.out.1.pb.lp.c2,R9.pb.lp.c2];simp only[aG];omega
   rw[cC (show ¬ji s z=wD 1 from hb)] at j;have al:((ji s z:Int)==124)=aL:=bX
   have q:=bL (b9 R j)
   go_wp2_with(go_at_call 110;refine NX.mono ?_;rintro e U ⟨rfl,L,I⟩;have B3:=eM (q.out.1.pb.fG I 0) (dt _) q.out.1.box;have Z:=eM (q.out.1.pb.fG I 0) (dt _) q.out.1.res;let⟨t0,t1,t2,t3⟩:=eV B3;let⟨z0,z1,z2,z3⟩:=eV Z;have y0:=cA Z 0;have y1:=cA Z 1;have y2:=cA Z 2;have y3:=cA Z 3);have N:=pC L Z ((q.out.1.val.keep ((q.out.1.pb.fG I 0).yq _)).mono λk hk=>hk.1) (q.out.1.qR.trans I) (bW _ _);unfold kC at N;generalize((((U).setCell (az w.heap.size 0) (iz op)).setCell (az w.heap.size 1) (iz x)).setCell (az w.heap.size 2) (iz y)).setCell (az w.heap.size 3) (aj a n t)=w8 at N⊢;obtain⟨z0,z1,z2,z3,V8,P8,G8⟩:=N;refine⟨rfl,.agg #[iz op,iz x,iz y,aj a n t],by simp[aI,results152,go_sem,z0,z1,z2,z3],?_⟩;rw[q.out.2];exact⟨_,rfl,V8,C,P8,G8⟩
theorem Ya(f)(H:∀g,g<=f->At 194 (2+1) g)(w){base r p}{ev}{nb fb}{s}{i d}{l}(h:PB w base r p ev nb fb s i d l)(hf:6*(s.size-i)+5<=f+1+2)(hd:d<=20):
  aB prog 152 #[pz r,iz 2,.int .u8 38,.func (.func 194) #[pz r] #[]] w (tG base r p nb fb s d w ev (gp s (f+1) 2 d i l)):=by
 have ad:=h.lp.le;have A1:=λ(o:Obj)=>h.dF (dD (bW _ w) o);have C1:=λo=>H f (bT _) (bC w o) base r p ev nb fb s i d l (A1 o).1 bO hd;rw[gp,cC bO,cC bO];go_enter func152,ntmps152;cases hg:gp s f (2+1) d i l with
 |bad e0 q0 l0=>
  rw[hg] at C1
  go_wp2_with(go_at_call 194;refine(C1 _).mono ?_;rintro e S ⟨rfl,M,k5,d5,P5,G5⟩);exact⟨rfl,rfl,M,k5,d5,P5,(A1 _).2.trans G5⟩
 |ok g0 k0 l0=>
  rw[hg] at C1;simp only[tF.bind];let⟨a1,a2⟩:=(EA s f).1 (2+1) d i l g0 k0 l0 ad hg
  go_wp2_with(go_at_call 194;refine(C1 _).mono ?_;rintro e S ⟨v5,rfl,V5,M,P5,G5⟩;obtain⟨G,x5,y5,a5,n5,u,rfl⟩:=V5.form);have a8:w.heap.size+1<=S.heap.size:=by have:=G5.kept.size;simp at this;omega
  have Q5:=P5.dF (dD (bW _ S) (aq #[iz G,iz x5,iz y5,aj a5 n5 u] 36));have R0:EU w (bC S (aq #[iz G,iz x5,iz y5,aj a5 n5 u] 36)) base r p ev M nb fb s k0 d l0 S.heap.size G x5 y5 a5 n5 u g0:=⟨Q5.1,gZ S _ _ _ _,eM (((A1 _).1.fG G5 w.heap.size).trans (P5.fG Q5.2 _)) (bT _) (gZ w _ _ _ _),((kO.lt V5).mono λk hk=>⟨by simp_all,by have:=hk.2;omega⟩).keep ((P5.fG Q5.2 0).yq _),by omega,((A1 _).2.trans G5).trans Q5.2⟩
  generalize bC S (aq #[iz G,iz x5,iz y5,aj a5 n5 u] 36)=w6 at R0⊢;have ab:w.heap.size<S.heap.size:=bO
  generalize S.heap.size=bf at R0 ab⊢
  go_loopw[] (λW=>∃(F z:Nat)(P:List Tm)(C:aA)(op x y:Int)(a:Option Addr)(n t:Nat)(g:Fo),EU w W base r p ev C nb fb s z d P bf op x y a n t g∧Hid (F<=f∧gl s f 2 d k0 l0 g0=gl s F 2 d z P g∧6*(s.size-z)+5<=F)) λW=>s.size-(match aU W (az r 2) with|some v=>(aG v).toNat|none=>0)
  case atStart=>exact⟨f,k0,l0,M,G,x5,y5,a5,n5,u,g0,R0,⟨bT _,rfl,by omega⟩⟩
  case round=>
   obtain⟨F,z,P,C,op,x,y,a,n,t,g,R,HG⟩:=hrel;let⟨ap,j,ao⟩:=HG.out;obtain⟨F,rfl⟩:∃g',F=g'+1:=⟨F-1,by omega⟩
   have NX:=mU wr R.pb;rw[gl] at j;by_cases hb:ji s z=38
   .rw[cY (show ji s z=wD 2 from hb)] at j;have hs:=vp hb bO;have a0:=sf hb bO;have ac:=jV (s:=s) (i:=z+1) bO;have an:=oL s (z+1);rw[hb] at NX;have MU:=λU (L:PB U base r p C nb fb s z d P)=>oH U z L 38 hs;have PT:=λV (P4:PB V base r p C nb fb s (bl s (z+1)) d P)=>H F bO V base r p C nb fb s (bl s (z+1)) d P P4 bO hd;cases hp:gp s F (2+1) d (bl s (z+1)) P with
    |bad e0 q0 l1=>
     rw[hp] at PT j;simp only[tF.bind] at j;have q:=bL (b9 R j)
     go_wp2_with(first|(go_at_call 110;refine NX.mono ?_;rintro e U ⟨rfl,L,I⟩;have M3:=MU U L)|(go_at_call 112;refine M3.mono ?_;rintro e V ⟨rfl,P4,G4⟩));have Y:∀m,aB prog 194 #[pz r] (bF V m) λe w'=>e=.panicked [{v:=jU e0 q0,recovered:=aL}]∧tG base r p nb fb s d w ev (gl s f 2 d k0 l0 g0) e w':=λm=>(PT _ (P4.drewN m)).mono (by rintro e w' ⟨h1,O,k7,d7,P7,G7⟩;refine⟨h1,?_⟩;rw[q.out.2];exact⟨h1,O,k7,d7,P7,(((q.out.1.qR.trans I).trans G4).trans ((tK _ _ _ _ _ _).drewN m)).trans G7⟩)
     have B4:=eM ((q.out.1.pb.fG I 0).trans (L.fG G4 0)) (dt _) q.out.1.box;let⟨z0,z1,z2,z3⟩:=eV B4
     go_region_with(go_at_call 194;refine(Y 1).mono ?_;rintro e D ⟨rfl,hP⟩;refine Av D (b9 rfl hP) ?_)
     all_goals trivial
    |ok b k2 l2=>
     rw[hp] at PT j;simp only[tF.bind] at j;let⟨a3,a4⟩:=(EA s F).1 (2+1) d (bl s (z+1)) P b k2 l2 ac hp;have q:=bL (b9 R j)
     go_wp2_with(first|(go_at_call 110;refine NX.mono ?_;rintro e U ⟨rfl,L,I⟩;have M3:=MU U L)|(go_at_call 112;refine M3.mono ?_;rintro e V ⟨rfl,P4,G4⟩));have K4:=((q.out.1.pb.fG I 0).trans (L.fG G4 0))
     have B4:=eM K4 (dt _) q.out.1.box;let⟨z0,z1,z2,z3⟩:=eV B4;have J:=bL (b9 B4 K4);have Y:=λm=>PT _ (P4.drewN m);have aa:Hid (PB V base r p C nb fb s (bl s (z+1)) d P):=P4
     go_region_with(go_at_call 194;refine(Y 1).mono ?_;rintro e D ⟨v7,rfl,V7,O,P7,G7⟩;obtain⟨Q,x7,y7,a7,n7,E,rfl⟩:=V7.form;have T:=eM ((aa.out.drewN 1).fG G7 0) (dt _) J.out.1;let⟨t0,t1,t2,t3⟩:=eV T;have y0:=cA T 0;have y1:=cA T 1;have y2:=cA T 2;have y3:=cA T 3;have a6:=dO T)
     all_goals
      have R:=q.out.1;have K7:=(J.out.2.trans ((aa.out.drewN 1).fG G7 0))
      have VA:=R.val.keep (K7.yq _);have VB:kO (λk=>w.heap.size+1<=k∧k≠bf) D _ _:=Ds (λk hk=>⟨by have h1:V.heap.size<=k:=hk;have h2:=dO J.out.1;omega,by have h1:V.heap.size<=k:=hk;have h2:=dO J.out.1;omega⟩) V7;have P8:=P7.kC T (iz 2) (iz 0) (iz 0) (aj (ah (az D.heap.size 0)) 2 2);have F8:=oG T (iz 2) (iz 0) (iz 0) (aj (ah (az D.heap.size 0)) 2 2);have E8:=eM K7 (dt _) R.res;have ag:w.heap.size≠bf:=by have:=R.up;omega
      have E9:=n9 E8 ag (iz 2) (iz 0) (iz 0) (aj (ah (az D.heap.size 0)) 2 2);have G8:=(((R.qR.trans I).trans G4).trans (((tK _ _ _ _ _ _).drewN 1).trans G7)).kC (ir R.up) (iz 2) (iz 0) (iz 0) (aj (ah (az D.heap.size 0)) 2 2);have KP:iH (λk=>w.heap.size+1<=k∧k≠bf) D _:=Ej (A:=λk=>w.heap.size+1<=k∧k≠bf) (w:=D) (b:=bf) (λx=>x.2 rfl) (iz 2) (iz 0) (iz 0) (aj (ah (az D.heap.size 0)) 2 2);have hz:=BP D bf (iz 2) (iz 0) (iz 0) (aj (ah (az D.heap.size 0)) 2 2);have V8:=adp (VA.keep KP) (VB.keep KP) 2 ⟨by rw[hz];have:=R.up;omega,by rw[hz];omega⟩;rw[hz] at V8;unfold kC at P8 F8 E9 G8 V8;generalize((((D).setCell (az bf 0) (iz 2)).setCell (az bf 1) (iz 0)).setCell (az bf 2) (iz 0)).setCell (az bf 3) (aj (ah (az D.heap.size 0)) 2 2)=w8 at P8 F8 E9 G8 V8⊢;have P9:=P8.dF (dD (bW _ w8) (aq #[iz op,iz x,iz y,aj a n t,iz Q,iz x7,iz y7,aj a7 n7 E] 36));have KA:=gG 0 w8 (aq #[iz op,iz x,iz y,aj a n t,iz Q,iz x7,iz y7,aj a7 n7 E] 36);have R9:EU w (bC w8 (aq #[iz op,iz x,iz y,aj a n t,iz Q,iz x7,iz y7,aj a7 n7 E] 36)) base r p ev O nb fb s k2 d l2 bf 2 0 0 (ah (az D.heap.size 0)) 2 2 (.two 2 g b):=⟨P9.1,eM KA (dt _) F8,eM KA (dt _) E9,V8,R.up,G8.trans P9.2⟩
      generalize bC w8 (aq #[iz op,iz x,iz y,aj a n t,iz Q,iz x7,iz y7,aj a7 n7 E] 36)=w9 at R9⊢
      go_wp2;refine⟨⟨F,k2,l2,O,2,0,0,_,2,2,_,R9,⟨by omega,q.out.2,by omega⟩⟩,?_⟩;rw[q.out.1.pb.lp.c2,R9.pb.lp.c2];simp only[aG];omega
   rw[cC (show ¬ji s z=wD 2 from hb)] at j;have al:((ji s z:Int)==38)=aL:=bX
   have q:=bL (b9 R j)
   go_wp2_with(go_at_call 110;refine NX.mono ?_;rintro e U ⟨rfl,L,I⟩;have B3:=eM (q.out.1.pb.fG I 0) (dt _) q.out.1.box;have Z:=eM (q.out.1.pb.fG I 0) (dt _) q.out.1.res;let⟨t0,t1,t2,t3⟩:=eV B3;let⟨z0,z1,z2,z3⟩:=eV Z;have y0:=cA Z 0;have y1:=cA Z 1;have y2:=cA Z 2;have y3:=cA Z 3);have N:=pC L Z ((q.out.1.val.keep ((q.out.1.pb.fG I 0).yq _)).mono λk hk=>hk.1) (q.out.1.qR.trans I) (bW _ _);unfold kC at N;generalize((((U).setCell (az w.heap.size 0) (iz op)).setCell (az w.heap.size 1) (iz x)).setCell (az w.heap.size 2) (iz y)).setCell (az w.heap.size 3) (aj a n t)=w8 at N⊢;obtain⟨z0,z1,z2,z3,V8,P8,G8⟩:=N;refine⟨rfl,.agg #[iz op,iz x,iz y,aj a n t],by simp[aI,results152,go_sem,z0,z1,z2,z3],?_⟩;rw[q.out.2];exact⟨_,rfl,V8,C,P8,G8⟩
end
theorem acj(f)(H:∀g,g<=f->At 153 (1+1) g):At 111 1 (f+1):=by
 intro w base r p ev nb fb s i d l h T L;have m:=λ(o:Obj)=>h.dF (dD (bW _ w) o);have t:=λo=>aaR f H (bC w o) (m o).1 bO L;go_enter func111,ntmps111;cases y:gp s (f+1) 1 d i l with
 |bad R U P=>
  rw[y] at t
  go_wp2_with(go_at_call 152;refine(t _).mono ?_;rintro e V ⟨rfl,j,O,J,u,q⟩);exact⟨rfl,rfl,j,O,J,u,(m _).2.trans q⟩
 |ok g0 k0 P=>
  rw[y] at t
  go_wp2_with(go_at_call 152;refine(t _).mono ?_;rintro e Q ⟨v5,rfl,v,j,u,q⟩;obtain⟨k,A,B,x,z,a,rfl⟩:=v.form;have c:=eM ((m _).1.fG q (hz w)) (bT _) (gZ w (iz 0) (iz 0) (iz 0) (aj ai 0 0));let⟨z0,C,D,E⟩:=eV c;have X:=cA c 0;have Y:=cA c 1;have Z:=cA c 2;have y3:=cA c 3;have M:=dO c);have N:=pC u c (v.mono bQ) ((m _).2.trans q) (bW _ _);unfold kC at N;generalize((((Q).setCell (az (hz w) 0) (iz k)).setCell (az (hz w) 1) (iz A)).setCell (az (hz w) 2) (iz B)).setCell (az (hz w) 3) (aj x z a)=W at N⊢;obtain⟨z0,C,D,E,I,G,F⟩:=N;refine⟨rfl,.agg #[iz k,iz A,iz B,aj x z a],by simp[aI,results111,go_sem,z0,C,D,E],?_⟩;exact⟨_,rfl,I,j,G,F⟩
theorem abC(f)(H:∀g,g<=f->At 194 (2+1) g):At 153 2 (f+1):=by
 intro w base r p ev nb fb s i d l h T L;have m:=λ(o:Obj)=>h.dF (dD (bW _ w) o);have t:=λo=>Ya f H (bC w o) (m o).1 bO L;go_enter func153,ntmps153;cases y:gp s (f+1) 2 d i l with
 |bad R U P=>
  rw[y] at t
  go_wp2_with(go_at_call 152;refine(t _).mono ?_;rintro e V ⟨rfl,j,O,J,u,q⟩);exact⟨rfl,rfl,j,O,J,u,(m _).2.trans q⟩
 |ok g0 k0 P=>
  rw[y] at t
  go_wp2_with(go_at_call 152;refine(t _).mono ?_;rintro e Q ⟨v5,rfl,v,j,u,q⟩;obtain⟨k,A,B,x,z,a,rfl⟩:=v.form;have c:=eM ((m _).1.fG q (hz w)) (bT _) (gZ w (iz 0) (iz 0) (iz 0) (aj ai 0 0));let⟨z0,C,D,E⟩:=eV c;have X:=cA c 0;have Y:=cA c 1;have Z:=cA c 2;have y3:=cA c 3;have M:=dO c);have N:=pC u c (v.mono bQ) ((m _).2.trans q) (bW _ _);unfold kC at N;generalize((((Q).setCell (az (hz w) 0) (iz k)).setCell (az (hz w) 1) (iz A)).setCell (az (hz w) 2) (iz B)).setCell (az (hz w) 3) (aj x z a)=W at N⊢;obtain⟨z0,C,D,E,I,G,F⟩:=N;refine⟨rfl,.agg #[iz k,iz A,iz B,aj x z a],by simp[aI,results153,go_sem,z0,C,D,E],?_⟩;exact⟨_,rfl,I,j,G,F⟩
theorem Zc{f}(H1:At 111 1 f)(H0:At 68 0 f):At 68 0 (f+1):=by
 intro w base r p ev nb fb s i d l h hf hd;have an:=h.lp.le;have a7:=h.lp.small;have P:=λ(o:Obj)=>h.dF (dD (bW _ w) o);have T:=λo=>H1 (bC w o) base r p ev nb fb s i d l (P o).1 bO hd;rw[gp,cY rfl];go_enter func68,ntmps68;cases hg:gp s f 1 d i l with
 |bad e0 q0 l0=>
  rw[hg] at T
  go_wp2_with(go_at_call 111;refine(T _).mono ?_;rintro e u ⟨rfl,t,k5,d5,E,C⟩);exact⟨rfl,rfl,t,k5,d5,E,(P _).2.trans C⟩
 |ok g0 k0 l0=>
  rw[hg] at T;simp only[tF.bind];let⟨a1,a2⟩:=(EA s f).1 1 d i l g0 k0 l0 an hg;by_cases H:ji s k0=45
  .rw[cY H];have a3:=sf H bO;cases hs:ix s (k0+1) 62 with
   |false=>
    rw[cC bQ]
    go_wp2_with(first|(go_at_call 111;refine(T _).mono ?_;rintro e u ⟨v5,rfl,O,t,E,C⟩;obtain⟨g,z,A,x,y,a,rfl⟩:=O.form;have Y:w.heap.size+1<=u.heap.size:=(by have:=C.kept.size;simp at this;omega);have q:=E.dF (dD (bW _ u) (aq #[iz g,iz z,iz A,aj x y a] 36));have M:=mU _ q.1;rw[H] at M)|(go_at_call 110;refine M.mono ?_;rintro e w6 ⟨rfl,F,I⟩;have ab:=F.lp.c2;have ac:=F.lp.row.frozen 2;have j:=F.step (k:=k0+1) bO;rw[show((k0+1:Nat):Int)=(k0:Int)+1 from by omega] at j;have MU:=xQ (k0+1) j.1 62 bO hs)|(go_at_call 112;refine MU.mono ?_;rintro e G ⟨rfl,R,U⟩));exact⟨rfl,by simp[jU],t,_,d,R,(((((P _).2.trans C).trans q.2).trans I).trans j.2).trans U⟩
   |true=>
    rw[cY rfl];have a4:=(ft hs).1;have a0:=jV (s:=s) (i:=k0+1+1) bO;have ap:=oL s (k0+1+1);cases hp:gp s f 0 d (bl s (k0+1+1)) l0 with
    |bad e0 q0 l1=>
     go_wp2_with(first|(go_at_call 111;refine(T _).mono ?_;rintro e u ⟨v5,rfl,O,t,E,C⟩;obtain⟨g,z,A,x,y,a,rfl⟩:=O.form;have Y:w.heap.size+1<=u.heap.size:=(by have:=C.kept.size;simp at this;omega);have q:=E.dF (dD (bW _ u) (aq #[iz g,iz z,iz A,aj x y a] 36));have M:=mU _ q.1;rw[H] at M)|(go_at_call 110;refine M.mono ?_;rintro e w6 ⟨rfl,F,I⟩;have ab:=F.lp.c2;have ac:=F.lp.row.frozen 2;have j:=F.step (k:=k0+1) bO;rw[show((k0+1:Nat):Int)=(k0:Int)+1 from by omega] at j;have MU:=oH _ (k0+1) j.1 62 hs)|(go_at_call 112;refine MU.mono ?_;rintro e G ⟨rfl,R,U⟩));have V:fQ 0 (bC u (aq #[iz g,iz z,iz A,aj x y a] 36)) G:=((q.1.fG I 0).trans (F.fG j.2 0)).trans (j.1.fG U 0);have KA:fQ 0 _ G:=(((P _).1.fG C 0).trans (E.fG q.2 0)).trans V;have B7:=eM V (dt _) (gZ u (iz g) (iz z) (iz A) (aj x y a));have B:=eM KA (dt _) (gZ w (iz 0) (iz 0) (iz 0) (aj ai 0 0));have V7:mw (w.heap.size+1) G _ _:=(O.mono bQ).keep ((E.fG q.2 _).trans (V.mono (dt _)));have J:=(((((P _).2.trans C).trans q.2).trans I).trans j.2).trans U;have C7:=λm=>H0 (bF G m) base r p t nb fb s (bl s (k0+1+1)) d l0 (R.drewN m) bO hd;let⟨t0,t1,t2,t3⟩:=eV B7;let⟨z0,z1,z2,z3⟩:=eV B;have y0:=cA B 0;have y1:=cA B 1;have y2:=cA B 2;have y3:=cA B 3;have HH:Hid (_∧_∧_∧_∧_):=⟨B7,B,V7,J,R⟩
     have ad:w.heap.size+1<=G.heap.size:=by have:=dO B;omega
     generalize u.heap.size=bf at *;rw[hp] at C7;have al:∀m,aB prog 68 #[pz r] (bF G m) λe w'=>e=.panicked [{v:=jU e0 q0,recovered:=aL}]∧tG base r p nb fb s d w ev (.bad e0 q0 l1) e w':=λm=>(C7 m).mono (by rintro e w' ⟨h1,X,k8,d8,P8,G8⟩;exact⟨h1,h1,X,k8,d8,P8,(HH.out.2.2.2.1.trans ((tK _ _ _ _ _ _).drewN m)).trans G8⟩)
     go_region_with(go_at_call 68;refine(al 1).mono ?_;rintro e D ⟨rfl,hP⟩;refine Av D (b9 rfl hP) ?_)
     all_goals trivial
    |ok b k2 l2=>
     go_wp2_with(first|(go_at_call 111;refine(T _).mono ?_;rintro e u ⟨v5,rfl,O,t,E,C⟩;obtain⟨g,z,A,x,y,a,rfl⟩:=O.form;have Y:w.heap.size+1<=u.heap.size:=(by have:=C.kept.size;simp at this;omega);have q:=E.dF (dD (bW _ u) (aq #[iz g,iz z,iz A,aj x y a] 36));have M:=mU _ q.1;rw[H] at M)|(go_at_call 110;refine M.mono ?_;rintro e w6 ⟨rfl,F,I⟩;have ab:=F.lp.c2;have ac:=F.lp.row.frozen 2;have j:=F.step (k:=k0+1) bO;rw[show((k0+1:Nat):Int)=(k0:Int)+1 from by omega] at j;have MU:=oH _ (k0+1) j.1 62 hs)|(go_at_call 112;refine MU.mono ?_;rintro e G ⟨rfl,R,U⟩));have V:fQ 0 (bC u (aq #[iz g,iz z,iz A,aj x y a] 36)) G:=((q.1.fG I 0).trans (F.fG j.2 0)).trans (j.1.fG U 0);have KA:fQ 0 _ G:=(((P _).1.fG C 0).trans (E.fG q.2 0)).trans V;have B7:=eM V (dt _) (gZ u (iz g) (iz z) (iz A) (aj x y a));have B:=eM KA (dt _) (gZ w (iz 0) (iz 0) (iz 0) (aj ai 0 0));have V7:mw (w.heap.size+1) G _ _:=(O.mono bQ).keep ((E.fG q.2 _).trans (V.mono (dt _)));have J:=(((((P _).2.trans C).trans q.2).trans I).trans j.2).trans U;have C7:=λm=>H0 (bF G m) base r p t nb fb s (bl s (k0+1+1)) d l0 (R.drewN m) bO hd;let⟨t0,t1,t2,t3⟩:=eV B7;let⟨z0,z1,z2,z3⟩:=eV B;have y0:=cA B 0;have y1:=cA B 1;have y2:=cA B 2;have y3:=cA B 3;have HH:Hid (_∧_∧_∧_∧_):=⟨B7,B,V7,J,R⟩
     have ad:w.heap.size+1<=G.heap.size:=by have:=dO B;omega
     generalize u.heap.size=bf at *;rw[hp] at C7
     go_region_with(go_at_call 68;refine(C7 1).mono ?_;rintro e D ⟨v8,rfl,V8,X,P8,G8⟩;obtain⟨Z,x8,y8,a8,n8,L,rfl⟩:=V8.form;have K8:=(HH.out.2.2.2.2.drewN 1).fG G8 0;have B8:=eM K8 (dt _) HH.out.1;let⟨s0,s1,s2,s3⟩:=eV B8;have Q:=eM K8 (dt _) HH.out.2.1;let⟨u0,u1,u2,u3⟩:=eV Q;have x0:=cA Q 0;have x1:=cA Q 1;have x2:=cA Q 2;have x3:=cA Q 3;have a6:=dO Q)
     all_goals
      go_wp2;let⟨B7,B,V7,J,R⟩:=HH.out;have ag:fQ 0 G D:=λk c fz hk hh=>K8 k c fz hk hh;have VA:=V7.keep (ag.mono (dt (w.heap.size+1)));have VB:mw (w.heap.size+1) D _ _:=V8.mono ad;have hz:=BP D w.heap.size (iz 4) (iz 0) (iz 0) (aj (ah (az D.heap.size 0)) 2 2);have KP:fQ (w.heap.size+1) D _:=uD (w:=D) (jG w.heap.size) (iz 4) (iz 0) (iz 0) (aj (ah (az D.heap.size 0)) 2 2);have V9:=adp (VA.keep KP) (VB.keep KP) 4 (show w.heap.size+1<=_ by rw[hz];omega);rw[hz] at V9;have P9:=P8.kC Q (iz 4) (iz 0) (iz 0) (aj (ah (az D.heap.size 0)) 2 2);have F9:=oG Q (iz 4) (iz 0) (iz 0) (aj (ah (az D.heap.size 0)) 2 2);have G9:=(J.trans (((tK _ _ _ _ _ _).drewN 1).trans G8)).kC (bT w.heap.size) (iz 4) (iz 0) (iz 0) (aj (ah (az D.heap.size 0)) 2 2);unfold kC at P9 F9 G9 V9;generalize((((D).setCell (az w.heap.size 0) (iz 4)).setCell (az w.heap.size 1) (iz 0)).setCell (az w.heap.size 2) (iz 0)).setCell (az w.heap.size 3) (aj (ah (az D.heap.size 0)) 2 2)=w9 at P9 F9 G9 V9⊢;have W:=P9.dF (dD (bW _ w9) (aq #[iz g,iz z,iz A,aj x y a,iz Z,iz x8,iz y8,aj a8 n8 L] 36));have aa:=eM (gG 0 w9 (aq #[iz g,iz z,iz A,aj x y a,iz Z,iz x8,iz y8,aj a8 n8 L] 36)) (dt _) F9;generalize bC w9 (aq #[iz g,iz z,iz A,aj x y a,iz Z,iz x8,iz y8,aj a8 n8 L] 36)=a9 at W aa V9⊢;let⟨z0,z1,z2,z3⟩:=eV aa;refine⟨rfl,.agg #[iz 4,iz 0,iz 0,aj (ah (az D.heap.size 0)) 2 2],by simp[aI,results68,go_sem,z0,z1,z2,z3],?_⟩;exact⟨_,rfl,Ds (λk hk=>Nat.le_of_succ_le hk) V9,X,W.1,G9.trans W.2⟩
  rw[cC H];have ao:((ji s k0:Int) != 45)=aK:=bX
  go_wp2_with(first|(go_at_call 111;refine(T _).mono ?_;rintro e u ⟨v5,rfl,O,t,E,C⟩;obtain⟨g,z,A,x,y,a,rfl⟩:=O.form;have Y:w.heap.size+1<=u.heap.size:=(by have:=C.kept.size;simp at this;omega);have q:=E.dF (dD (bW _ u) (aq #[iz g,iz z,iz A,aj x y a] 36));have M:=mU _ q.1)|(go_at_call 110;refine M.mono ?_;rintro e w6 ⟨rfl,F,I⟩;have B6:=eM (q.1.fG I 0) (dt _) (gZ u (iz g) (iz z) (iz A) (aj x y a));have F6:=eM ((((P _).1.fG C 0).trans (E.fG q.2 0)).trans (q.1.fG I 0)) (dt _) (gZ w (iz 0) (iz 0) (iz 0) (aj ai 0 0));let⟨t0,t1,t2,t3⟩:=eV B6;let⟨z0,z1,z2,z3⟩:=eV F6;have y0:=cA F6 0;have y1:=cA F6 1;have y2:=cA F6 2;have y3:=cA F6 3));have N:=pC F F6 ((O.mono bQ).keep ((E.fG q.2 _).trans (q.1.fG I _))) ((((P _).2.trans C).trans q.2).trans I) (bW _ _);unfold kC at N;generalize((((w6).setCell (az w.heap.size 0) (iz g)).setCell (az w.heap.size 1) (iz z)).setCell (az w.heap.size 2) (iz A)).setCell (az w.heap.size 3) (aj x y a)=D at N⊢;obtain⟨z0,z1,z2,z3,V8,P8,G8⟩:=N;refine⟨rfl,.agg #[iz g,iz z,iz A,aj x y a],by simp[aI,results68,go_sem,z0,z1,z2,z3],?_⟩;exact⟨_,rfl,V8,t,P8,G8⟩
theorem tE:∀f,At 68 0 f∧At 111 1 f∧At 153 2 f∧At 194 3 f
 |0=>⟨λ_ _ _ _ _ _ _ _ _ _ _ _ a=>absurd a bO,λ_ _ _ _ _ _ _ _ _ _ _ _ a=>absurd a bO,λ_ _ _ _ _ _ _ _ _ _ _ _ a=>absurd a bO,λ_ _ _ _ _ _ _ _ _ _ _ _ a=>absurd a bO⟩
 |f+1=>⟨Zc (tE f).2.1 (tE f).1,acj f λg _=>(tE g).2.2.1,abC f λg _=>(tE g).2.2.2,aaX (tE f).2.2.2 (tE f).1⟩
def JG(w):(Instr.typeAssert .nilIface 20 155 aK).run prog w=.ok (.tuple #[.agg #[iz 0,iz 0],.bool aL]) w:=bV
def JF(w v):(Instr.typeAssert (.iface 155 v) 20 155 aK).run prog w=.ok (.tuple #[v,.bool aK]) w:=bV
def ZX:Array.replicate 13 aF=#[aF,aF,aF,aF,aF,aF,aF,aF,aF,aF,aF,aF,aF]:=rfl
theorem JD(a c d w):
  CallsD prog 66 #[a,c,d] .returning w λe i w'=>e=aw (.tuple #[])∧i=.returning∧w'=bC w (aq #[iz 0,iz 0] 155):=by
 refine Lb func66 rfl λg cs h=>?_;apply wpS_seq;apply wpS_region;simp[wpOpsS,go_sem,recoverD,h,ntmps66,Exit.thenS,JG,ZX];refine wpS_of_wp ?_
 go_wp2;cases g
 simp_all[bodyPostS,aI,results66]
structure lP(w:ay)(b:Nat)(v0 v1 v2 v3 v4 v5:aA):Prop where
 f:bE w b 36 4 (frm v0 v1 v2 v3)
 e:rK w (b+1) 37 v4
 q:rK w (b+2) 3 v5
variable{w w':ay}{S:Nat->Prop}{b n base p nb fb:Nat}{v0 v1 v2 v3 v4 v5 ev:aA}
def lP.kept(h:lP w b v0 v1 v2 v3 v4 v5)(K:bI S w w')(a:∀k,b<=k->k<=b+2->¬S k):lP w' b v0 v1 v2 v3 v4 v5:=
 ⟨h.f.of_block (K.block _ h.f.lt (a _ bO bO)),h.e.of_block (K.block _ (dO h.e) (a _ bO bO)),h.q.of_block (K.block _ (dO h.q) (a _ bO bO))⟩
variable{f:Nat->aA}
def zE{c:Nat}{d:aE}(h:bE w b d n f)(a:b≠c)(o u):bE (aW w (az c o) u) b d n f:=
 h.of_block ((eH (bW _ w) o u).block b h.lt a)
def lP.put(h:lP w b v0 v1 v2 v3 v4 v5)(a c d e g i):lP (((kC w b a c d e).setCell ⟨b+1,0,ai⟩ g).setCell ⟨b+2,0,ai⟩ i) b a c d e g i:=
 ⟨zE (zE (oG h.f a c d e) bO _ _) bO _ _,
  jJ (rK.set (jJ (jJ (jJ (jJ h.e bO _ _) bO _ _) bO _ _) bO _ _) g) bO _ _,
  rK.set (jJ (jJ (jJ (jJ (jJ h.q bO _ _) bO _ _) bO _ _) bO _ _) bO _ _) i⟩
def lP.adx(h:lP w b v0 v1 v2 v3 v4 v5)(a c d e):lP (kC w b a c d e) b a c d e v4 v5:=
 ⟨oG h.f a c d e,jJ (jJ (jJ (jJ h.e bO _ _) bO _ _) bO _ _) bO _ _,jJ (jJ (jJ (jJ h.q bO _ _) bO _ _) bO _ _) bO _ _⟩
theorem lP.acd(w b c d e g h i):bI (λk=>b<=k∧k<=b+2) w (((kC w b c d e g).setCell ⟨b+1,0,ai⟩ h).setCell ⟨b+2,0,ai⟩ i):=by
 have a:b<=b∧b<=b+2:=bO
 have j:b<=b+1∧b+1<=b+2:=bO
 have m:b<=b+2∧b+2<=b+2:=bO
 exact(((((bW _ w).setCell (p:=az b 0) a c).setCell (p:=az b 1) a d).setCell (p:=az b 2) a e).setCell (p:=az b 3) a g |>.setCell (p:=⟨b+1,0,ai⟩) j h).setCell (p:=⟨b+2,0,ai⟩) m i
def aet:=@lP.acd
theorem CG(w){b}{v0 v1 v2 v3 v4 v5}(B:lP w b v0 v1 v2 v3 v4 v5)(c q):
  CallsD prog 66 #[ak (ah ⟨b,0,ai⟩),ak (ah ⟨b+1,0,ai⟩),ak (ah ⟨b+2,0,ai⟩)] (.panicking [{v:=jU c q,recovered:=aL}]) w λe s w'=>e=aw (.tuple #[])∧s=.panicking [{v:=jU c q,recovered:=aK}]∧lP w' b (ae af 0) (ae af 0) (ae af 0) (aj ai 0 0) (ae af c) (ae af q)∧bI (λk=>b<=k∧k<=b+2) w w':=by
 refine Lb func66 rfl λt cs o=>?_;unfold jU at o⊢;apply wpS_seq;apply wpS_region;simp[wpOpsS,go_sem,recoverD,o,ntmps66,Exit.thenS,JF,ZX];refine wpS_of_wp ?_;have h:bE (bC w (aR #[ae af c,ae af q] 155)) w.heap.size 155 2 (λj=>(#[aS .i64 c,aS .i64 q])[j]?.getD aF):=ey w #[ae af c,ae af q] 155;generalize g:bC w (aR #[ae af c,ae af q] 155)=d at h⊢;have m:dG w d:=g▸dD (bW _ w) _;have a:=B.kept m λ_ _ _ e=>e;have r:b+2<w.heap.size:=dO B.q;generalize w.heap.size=x at *;have C:aU d ⟨x,0,ai⟩=ah (ae af c):=dU h (i:=0) bO;have x1:aU d ⟨x,1,ai⟩=ah (ae af q):=dU h (i:=1) bO;let⟨z0,H,I,J⟩:=eV a.f;have D:=cA a.f 0;have E:=cA a.f 1;have F:=cA a.f 2;have G:=cA a.f 3;have u:=a.e.cell;have y:=a.q.cell;have z:=a.e.frozen;have A:=a.q.frozen
 go_wp2_with fail
 go_region
 all_goals
  refine⟨rfl,_,rfl,.tuple #[],by simp[aI,results66],rfl,rfl,(a.put _ _ _ _ _ _).kept (Xh (bW (λ_=>False) _)) λ_ _ _ e=>e,?_⟩;exact((dW m λ_ _ e=>e.elim).trans (lP.acd d b _ _ _ _ _ _)).drew
variable{l:List Tm}
theorem Bk.aaY(h:Bk w base p ev nb fb l){k:Nat}(j:me p ev nb fb k)(e:aE)(d:84≠e)(g:152≠e)(c)(a:Nat×Nat):w.heap[k]?≠ah (aR c e a):=by
 obtain rfl|rfl|rfl|i:=j
 .exact xA h.kE d c a
 .let⟨D,d,_⟩:=h.lF;exact sM d c _ a
 .let⟨D,d,_⟩:=h.om;exact sM d c _ a
 exact wK h.rows i g c a
theorem Bk.oJ(h:Bk w base p ev nb fb l)(B:lP w b v0 v1 v2 v3 v4 v5)(K:bI (λk=>b<=k∧k<=b+2) w w'):Bk w' base p ev nb fb l:=by
 have a:∀k,me p ev nb fb k->¬(b<=k∧k<=b+2):=λk c j=>by
  let⟨c0,d,_⟩:=B.f;let⟨c1,g,_⟩:=B.e;let⟨c2,i,_⟩:=B.q;obtain rfl|rfl|rfl:=(by omega:k=b∨k=b+1∨k=b+2)
  .exact h.aaY c 36 bS bS _ _ d
  .exact h.aaY c 37 bS bS _ _ g
  exact h.aaY c 3 bS bS _ _ i
 have L:=h.low;exact h.blocks (K.block p L.p (a _ (cB rfl))) (K.block nb L.n (a _ (cI (cB rfl)))) (K.block fb L.f (a _ (cI (cI (cB rfl))))) λk e=>K.block k (L.e k e) (a _ (cI (cI (cI e))))
theorem gN.oJ{X:Nat->Prop}{a:ay}{c d:aA}(G:gN X p nb fb a c w d)(K:bI S w w')(h:∀k,S k->a.heap.size<=k):gN X p nb fb a c w' d:=
 ⟨⟨K.os.trans G.kept.os,K.tape.trans G.kept.tape,K.output.trans G.kept.output,bZ G.kept.size K.size,λk g hs=>(K.block k (cQ g G.kept.size) λe=>by have:=h k e;omega).trans (G.kept.block k g hs)⟩,G.row⟩
def tV:=@gN.oJ
theorem Bk.U0(h:Bk w base p ev nb fb l)(d:bE w b 36 n f)(K:dV b w w'):Bk w' base p ev nb fb l:=by obtain⟨c,a,_⟩:=d;exact h.iw K (λe=>h.tp (cB rfl) c (0,0) (e▸a)) (λe=>h.tp (cI (cB rfl)) c (0,0) (e▸a)) (λe=>h.tp (cI (cI (cB rfl))) c (0,0) (e▸a)) λe=>h.tp (cI (cI (cI e))) c (0,0) a
def qT(s:ByteArray)(l:List Tm):Fo×Nat×Nat×List Tm:=match gp s (6*s.size+5) 0 0 (bl s 0) l with
 | .bad c q l'=>(.eq 0 0,c,q,l')
 | .ok f k l'=>if k<s.size then(.eq 0 0,2,k,l') else(f,0,0,l')
def nT(s:ByteArray)(l:List Tm):Fo×Nat×Nat×List Tm:=if 400<s.size then(.eq 0 0,1,0,l) else qT s l
theorem JE(w:ay):lP (bC (bC (bC w (aq #[iz 0,iz 0,iz 0,aj ai 0 0] 36)) (aq #[iz 0] 37)) (aq #[iz 0] 3)) w.heap.size (iz 0) (iz 0) (iz 0) (aj ai 0 0) (iz 0) (iz 0):=by
 have one:∀(w:ay)(v:aA)(a:aE),rK (bC w (aq #[v] a)) (hz w) a v:=λw v a=>eO (ey w #[v] a) (λj g=>by grind)
 have keep:∀{w:ay}{b n:Nat}{f:Nat->aA}{a:aE}(o:Obj),bE w b a n f->bE (bC w o) b a n f:=λ{w b n f a} o h=>h.of_block ((dD (bW (λ_=>False) w) o).block b (dO h) λe=>e);have c:(bC w (aq #[iz 0,iz 0,iz 0,aj ai 0 0] 36)).heap.size=hz w+1:=bQ
 have d:(bC (bC w (aq #[iz 0,iz 0,iz 0,aj ai 0 0] 36)) (aq #[iz 0] 37)).heap.size=hz w+2:=bQ
 exact⟨keep _ (keep _ (gZ w _ _ _ _)),keep _ (c▸one _ (iz 0) 37),d▸one _ (iz 0) 3⟩
theorem QH{w}{base}(r){p}{ev}{nb fb}{s}{l}(h:PB w base r p ev nb fb s 0 0 l):
  aB prog 37 #[pz r] w λe w'=>∃v,e=aw (.tuple #[v,iz ((qT s l).2.1:Int),iz ((qT s l).2.2.1:Int)])∧mw w.heap.size w' v (qT s l).1∧
   ∃o,Bk w' base p o nb fb (qT s l).2.2.2∧gN (λk=>k=r) p nb fb w ev w' o∧(qT s l).2.2.2.length<=150:=by
 have ag:=h.lp.small;have BM:=JE w;have K3:dG w (bC (bC (bC w (aq #[iz 0,iz 0,iz 0,aj ai 0 0] 36)) (aq #[iz 0] 37)) (aq #[iz 0] 3)):=((bW _ w).alloc _ |>.alloc _).alloc _;have S3:(bC (bC (bC w (aq #[iz 0,iz 0,iz 0,aj ai 0 0] 36)) (aq #[iz 0] 37)) (aq #[iz 0] 3)).heap.size=w.heap.size+3:=bQ
 have Y:=h.dF K3;have L:=h.bk.low;have ad:=h.lp.row.lt
 go_enter_defers func37,ntmps37
 have ac:=jV (s:=s) (i:=0) bO;have CB:Hid (∀W o,gN (λk=>k=r) p nb fb (bC (bC (bC w (aq #[iz 0,iz 0,iz 0,aj ai 0 0] 36)) (aq #[iz 0] 37)) (aq #[iz 0] 3)) ev W o->lP W w.heap.size (iz 0) (iz 0) (iz 0) (aj ai 0 0) (iz 0) (iz 0)):=λW o G=>BM.kept G.kept (λk h1 h2 y=>by
  obtain e|e|e|e|e:=y
  .omega
  .have:=L.p;omega
  .have:=L.n;omega
  .have:=L.f;omega
  have:=L.e k e;omega)
 have BL:=qS 0 Y.1.lp;have C4:Hid (∀W,PB W base r p ev nb fb s (bl s 0) 0 l->_):=λW P=>(tE (6*s.size+5)).1 W base r p ev nb fb s (bl s 0) 0 l P bO bO;have I:Hid (qT s l=_):=qT.eq_1 s l
 go_wp2_with fail;rw[show w.heap.size+1+1=w.heap.size+2 from rfl];generalize bC (bC (bC w (aq #[iz 0,iz 0,iz 0,aj ai 0 0] 36)) (aq #[iz 0] 37)) (aq #[iz 0] 3)=w3 at BM K3 S3 Y CB BL⊢;refine BL.mono ?_;rintro e w4 ⟨rfl,L4,K4⟩;have N:=Y.1.read K4 L4;have F4:=C4.out w4 N.1;cases hg:gp s (6*s.size+5) 0 0 (bl s 0) l with
 |bad c q l'=>
  rw[hg] at F4 I
  go_wp2_with(go_at_call 68;refine F4.mono ?_;rintro e Q ⟨rfl,j,k5,d5,O,U⟩);have t:=CB.out Q j (N.2.trans U);refine ug (f:=66) (args:=#[pz w.heap.size,ak (ah ⟨w.heap.size+1,0,ai⟩),ak (ah ⟨w.heap.size+2,0,ai⟩)]) bQ aey ?_;refine(CG Q t c q).mono ?_;rintro e u' w9 ⟨rfl,rfl,m,u⟩;let⟨z0,E,F,H⟩:=eV m.f;have J:=m.e.cell;have M:=m.q.cell;refine⟨.tuple #[.agg #[iz 0,iz 0,iz 0,aj ai 0 0],iz c,iz q],?_,?_⟩
  .simp[aI,results37,go_sem,z0,E,F,H,J,M]
  .rw[I.out];exact⟨_,rfl,aao _ _ _ _,j,O.bk.oJ t u,gN.oJ ((Y.2.trans N.2).trans U) u λk y=>y.1,O.sd⟩
 |ok f0 k l'=>
  rw[hg] at F4 I
  go_wp2_with(go_at_call 68;refine F4.mono ?_;rintro e Q ⟨v5,rfl,V5,j,O,U⟩;obtain⟨d,B,C,x,z,a,rfl⟩:=V5.form;have t:=CB.out Q j (N.2.trans U);let⟨z0,E,F,H⟩:=eV t.f;have y0:=cA t.f 0;have y1:=cA t.f 1;have y2:=cA t.f 2;have y3:=cA t.f 3);have D:=O.kC t.f (iz d) (iz B) (iz C) (aj x z a);have T:=t.adx (iz d) (iz B) (iz C) (aj x z a);have aa:w.heap.size+3<=w4.heap.size:=by have:=N.2.kept.size;omega
  have V6:mw (w.heap.size+3) _ _ _:=(V5.mono aa).keep (uD (w:=Q) (by omega:w.heap.size<w.heap.size+3) (iz d) (iz B) (iz C) (aj x z a));have V:=((Y.2.trans N.2).trans U).kC (bT w.heap.size) (iz d) (iz B) (iz C) (aj x z a);unfold kC at D T V6 V;generalize((((Q).setCell (az w.heap.size 0) (iz d)).setCell (az w.heap.size 1) (iz B)).setCell (az w.heap.size 2) (iz C)).setCell (az w.heap.size 3) (aj x z a)=A at D T V6 V⊢;have c1:=D.lp.c1;have c2:=D.lp.c2;have y:=D.lp.le;by_cases Z:k<s.size
  .rw[cY Z] at I;go_quiet(fail);have ab:aU (bF A nq) (az r 2)=ah (iz k):=c2
   go_wp2_with(go_at_call 69;refine(pK _ _ _).mono ?_;rintro e w7 ⟨rfl,rfl⟩);have g:lP (bF A nq) w.heap.size _ _ _ _ _ _:=T.kept (dR (bW (λ_=>False) A) nq) λ_ _ _ e=>e;refine ug (f:=66) (args:=#[pz w.heap.size,ak (ah ⟨w.heap.size+1,0,ai⟩),ak (ah ⟨w.heap.size+2,0,ai⟩)]) bQ aey ?_;refine(CG (bF A nq) g 2 k).mono ?_;rintro e u' w9 ⟨rfl,rfl,m,u⟩;let⟨z0,E,F,H⟩:=eV m.f;have J:=m.e.cell;have M:=m.q.cell;refine⟨.tuple #[.agg #[iz 0,iz 0,iz 0,aj ai 0 0],iz 2,iz k],?_,?_⟩
   .simp[aI,results37,go_sem,z0,E,F,H,J,M]
   rw[I.out];exact⟨_,rfl,aao _ _ _ _,j,(D.drewN nq).bk.oJ g u,gN.oJ (V.drewN nq) u λk y=>y.1,O.sd⟩
  rw[cC Z] at I;go_quiet(fail);have g:lP (bF A nq) w.heap.size _ _ _ _ _ _:=T.kept (dR (bW (λ_=>False) A) nq) λ_ _ _ e=>e;have P7:=D.drewN nq;have G7:=V.drewN nq;have V7:=V6.keep (show fQ (w.heap.size+3) A (bF A nq) from λ_ _ _ _ hh=>hh);clear T D V V6 c1 c2;generalize bF A nq=w7 at *;let⟨z0,E,F,H⟩:=eV g.f;have g0:=cA g.f 0;have g1:=cA g.f 1;have g2:=cA g.f 2;have g3:=cA g.f 3;have J:=g.e.cell;have M:=g.q.cell;have g4:=g.e.frozen;have g5:=g.q.frozen
  go_wp2_with fail;have B8:=g.put (iz d) (iz B) (iz C) (aj x z a) (iz 0) (iz 0);have X:=aet w7 w.heap.size (iz d) (iz B) (iz C) (aj x z a) (iz 0) (iz 0);unfold kC at B8 X;clear z0 E F H J M g0 g1 g2 g3 g4 g5;generalize((((((w7).setCell (az w.heap.size 0) (iz d)).setCell (az w.heap.size 1) (iz B)).setCell (az w.heap.size 2) (iz C)).setCell (az w.heap.size 3) (aj x z a)).setCell ⟨w.heap.size+1,0,ai⟩ (iz 0)).setCell ⟨w.heap.size+2,0,ai⟩ (iz 0)=R at B8 X⊢;have V8:mw (w.heap.size+3) R _ _:=V7.keep (λk c fz y hh=>(X.block k (bY.1 hh).1 λe=>by omega).trans hh);have E8:=P7.bk.oJ g X;have G8:=gN.oJ G7 X λk y=>y.1;refine ug (f:=66) (args:=#[pz w.heap.size,ak (ah ⟨w.heap.size+1,0,ai⟩),ak (ah ⟨w.heap.size+2,0,ai⟩)]) bQ aey ?_;refine(JD _ _ _ R).mono ?_;rintro e u' w9 ⟨rfl,rfl,rfl⟩;have u:dG R (bC R (aq #[iz 0,iz 0] 155)):=dD (bW _ R) _;have m:=B8.kept u λ_ _ _ e=>e;have V9:=V8.keep (Hc u _);have E9:=E8.dF u;have G9:=gN.oJ G8 u λ_ e=>e.elim;generalize bC R (aq #[iz 0,iz 0] 155)=w9 at m V9 E9 G9⊢;let⟨z0,E,F,H⟩:=eV m.f;have J:=m.e.cell;have M:=m.q.cell;refine⟨.tuple #[.agg #[iz d,iz B,iz C,aj x z a],iz 0,iz 0],?_,?_⟩
  .simp[aI,results37,go_sem,z0,E,F,H,J,M]
  rw[I.out];exact⟨_,rfl,V9.mono bO,j,E9,G9,O.sd⟩
theorem YE(w){base p}{ev}{nb fb}{l}(h:Bk w base p ev nb fb l)(s)(hs:s.size<=400)(a:base<=w.heap.size)(c:l.length<=150):
  PB (bC w (aq #[pz p,.string s,iz 0,.int .u64 0] 107)) base w.heap.size p ev nb fb s 0 0 l:=by
 have K:dG w (bC w (aq #[pz p,.string s,iz 0,.int .u64 0] 107)):=dD (bW _ w) _;have L:=h.low;have d:=L.p;have g:=L.n;have i:=L.f;exact⟨zM w _ s 0 0 (dt _) hs,h.dF K,by omega,by omega,by omega,λe=>by have:=L.e _ e;omega,bZ a K.size,c⟩
theorem QI{w}{base p}{ev}{nb fb}{l}(h:Bk w base p ev nb fb l)(hl:l.length<=150)(I:base<=w.heap.size)(s):
  aB prog 17 #[pz p,.string s] w λe w'=>∃v,e=aw (.tuple #[v,iz ((nT s l).2.1:Int),iz ((nT s l).2.2.1:Int)])∧mw w.heap.size w' v (nT s l).1∧
   ∃i,Bk w' base p i nb fb (nT s l).2.2.2∧bI (me p ev nb fb) w w'∧(aP i=aP ev∨∀k,aP i=ah k->w.heap.size<=k)∧(nT s l).2.2.2.length<=150:=by
 by_cases hs:400<s.size
 .have hp:nT s l=(.eq 0 0,1,0,l):=by simp[nT,hs]
  have d:(400:Int)<(s.size:Int):=bO
  go_enter func17,ntmps17
  go_wp2_with fail;have y:=gZ w (iz 0) (iz 0) (iz 0) (aj ai 0 0);have j:dG w (bC w (aq #[iz 0,iz 0,iz 0,aj ai 0 0] 36)):=dD (bW _ w) _;generalize bC w (aq #[iz 0,iz 0,iz 0,aj ai 0 0] 36)=Y at y j⊢;let⟨z0,B,C,D⟩:=eV y;refine⟨rfl,.tuple #[.agg #[iz 0,iz 0,iz 0,aj ai 0 0],iz 1,iz 0],by simp[aI,results17,go_sem,z0,B,C,D],?_⟩;rw[hp];exact⟨_,rfl,aao _ _ _ _,ev,h.dF j,dW j λ_ _ e=>e.elim,cB rfl,hl⟩
 have hp:nT s l=qT s l:=by simp[nT,hs]
 have d:¬(400:Int)<(s.size:Int):=bO
 have j:dG w (bC w (aq #[iz 0,iz 0,iz 0,aj ai 0 0] 36)):=dD (bW _ w) _;have J:(bC w (aq #[iz 0,iz 0,iz 0,aj ai 0 0] 36)).heap.size=w.heap.size+1:=bQ
 have y:=gZ w (iz 0) (iz 0) (iz 0) (aj ai 0 0);have A:=YE (bC w (aq #[iz 0,iz 0,iz 0,aj ai 0 0] 36)) (h.dF j) s bO bO hl;have L:=eM (gG 0 (bC w (aq #[iz 0,iz 0,iz 0,aj ai 0 0] 36)) (aq #[pz p,.string s,iz 0,.int .u64 0] 107)) (dt _) y;have O:dG w (bC (bC w (aq #[iz 0,iz 0,iz 0,aj ai 0 0] 36)) (aq #[pz p,.string s,iz 0,.int .u64 0] 107)):=j.alloc _;have q:(bC (bC w (aq #[iz 0,iz 0,iz 0,aj ai 0 0] 36)) (aq #[pz p,.string s,iz 0,.int .u64 0] 107)).heap.size=w.heap.size+2:=bQ
 rw[J] at A;go_enter func17,ntmps17;have Q:=QH (w.heap.size+1) A
 go_wp2_with fail;generalize bC (bC w (aq #[iz 0,iz 0,iz 0,aj ai 0 0] 36)) (aq #[pz p,.string s,iz 0,.int .u64 0] 107)=U at A L O Q q⊢;refine Q.mono ?_;rintro e t ⟨v,rfl,P,H,T,M,o⟩;obtain⟨c,u,x,m,r,a,rfl⟩:=P.form;have g:=eM (A.fG M 0) (dt _) L;let⟨z0,B,C,D⟩:=eV g;have g0:=cA g 0;have V:=cA g 1;have W:=cA g 2;have X:=cA g 3
 go_wp2_with fail;have F:=oG g (iz c) (iz u) (iz x) (aj m r a);have z:dV w.heap.size t (kC t w.heap.size (iz c) (iz u) (iz x) (aj m r a)):=eH (eH (eH (eH (bW _ t) 0 _) 1 _) 2 _) 3 _;have G:=(P.mono (Nat.le_of_eq q.symm)).keep (uD (w:=t) (by omega:w.heap.size<w.heap.size+2) (iz c) (iz u) (iz x) (aj m r a));have E:=T.U0 g z;unfold kC at F z G E;generalize((((t).setCell (az w.heap.size 0) (iz c)).setCell (az w.heap.size 1) (iz u)).setCell (az w.heap.size 2) (iz x)).setCell (az w.heap.size 3) (aj m r a)=Z at F z G E⊢;let⟨z0,B,C,D⟩:=eV F;have N:=gN.oJ (tJ (⟨dW O λ_ _ e=>e.elim,cB rfl⟩:gN (λk=>k=w.heap.size+1) p nb fb w ev U ev) M) z λk R=>Nat.le_of_eq R.symm;refine⟨rfl,.tuple #[.agg #[iz c,iz u,iz x,aj m r a],iz ((qT s l).2.1:Int),iz ((qT s l).2.2.1:Int)],by simp[aI,results17,go_sem,z0,B,C,D],?_⟩;rw[hp];exact⟨_,rfl,G.mono bO,H,E,dW N.kept (λk R e=>e.elim (λe=>by omega) id),N.row,o⟩
