import Derived.Test.YtlehlgipbhfioaaGreatBk
import Derived.Test.YtlehlgipbhfioaaGreatBn
namespace Go.Proofs.YtlehlgipbhfioaaGreat
set_option maxHeartbeats 12000000
set_option maxRecDepth 100000
set_option linter.all false
open Go.RowKit Go.Maps Go.Proofs.Tryz
open Go.Value renaming int->ae,slice->aj,pointer->ak,int->aS,pointer->br,slice->aT,ownBlock->aP
open Go.IntKind renaming i64->af
open Go.Obj renaming cells->aq
open Go.Ending renaming returned->aw
open Option renaming some->ah,none->ai
open List renaming range->aO,replicate->aN,length->bB
open Go.World renaming frozen?->bG,alloc->bC,cell?->aU,rowIs->bE,ownsRow->bD,setCell->aW,drewN->bF,grownBy->bH
open Go.RowKit renaming Below->aC,intOf->aG
open Go renaming Calls->aB,World->ay,results->aI,Aside->aH,Value->aA,TypeId->aE,Addr->aD,maxLen->aY
open Go.Act renaming put->aQ,eval->bq
open Go.Builtin renaming append_->bw
open Bool renaming true->aK,false->aL
open Decidable renaming decide->aM
section
def acN:(288:aE)<prog.types.size:=ft bV
def OF:prog.cellsOf 288=5:=bV
def Q9:prog.keyType 288=aK:=bV
def Zm:prog.keyTypeAt 3 288=aK:=bV
theorem JU:Keyed prog 288:=Dr (deep_law_laid Ii (m:=3) bO acN Zm (by rw[underlying288]))
theorem JT(t):(oR t).formed prog 288=aK:=by simp[oR,nC,Value.formed,underlying288,OF]
theorem VU(t)(h:t.ok):∃kl,keyOf prog 288 (oR t)=ah kl:=by
 have d:t.name.size<=aY:=bZ h.name bS;have g0:(Lit.int .i64 (t.arg 0:Int)).wf=aK:=uj (by have:=h.arg 0;omega);have a:(Lit.int .i64 (t.arg 1:Int)).wf=aK:=uj (by have:=h.arg 1;omega);have b:(Lit.int .i64 (t.arg 2:Int)).wf=aK:=uj (by have:=h.arg 2;omega);have c:(Lit.int .i64 (t.arg 3:Int)).wf=aK:=uj (by have:=h.arg 3;omega);unfold keyOf;rw[underlying288];simp only[Q9,JT];obtain⟨m,e⟩:∃m,prog.types.size+1=m+3:=⟨prog.types.size-2,by simp_all⟩
 rw[e];have f:aO 4=[0,1,2,3]:=rfl;simp[Program.keyLits,underlying288,underlying96,underlying3,underlying9,OF,Fk,xw,Fj,oR,nC,Value.cells,f,d,g0,a,b,c]
noncomputable def MJ(t:Tm):Lit:=(keyOf prog 288 (oR t)).getD (.bool aL)
variable{t s:Tm}
theorem xX(h:t.ok):keyOf prog 288 (oR t)=ah (MJ t):=by grind[MJ,VU]
theorem VY{u:Tm}(a:Sk t)(b:Sk u)(h:MJ t=MJ u):t=u:=
 BD a b (JU.inj (xX a.ok) (by rw[h];exact xX b.ok))
theorem VX(a:t.ok):∃k,MJ t=k∧WideAt.IsKeyLit k:=by have h:=xX a;generalize MJ t=k at h;exact⟨k,rfl,JU.key h⟩
def tY(W:ay)(mb:Nat)(fm:List (Key×Nat)):Prop:=∃D,mL W 288 mb D∧Maps.size D<=bB fm∧∀s,Sk s->kP D (MJ s) (uO fm (s.name,s.args))
variable{W W' w w5:ay}{mb n nb:Nat}{fm:List (Key×Nat)}
theorem tY.keep(h:tY W mb fm)(i:W'.heap[mb]?=W.heap[mb]?):tY W' mb fm:=by obtain⟨D,d,e,f⟩:=h;obtain⟨es,a,b,c⟩:=d;exact⟨D,⟨es,a,i.trans b,c⟩,e,f⟩
theorem tY.lt(h:tY W mb fm):∃es a,W.heap[mb]?=ah (Obj.map es a):=by obtain⟨D,⟨es,a,b,_⟩,_⟩:=h;exact⟨es,a,b⟩
theorem QN(k a:Key)(n)(h:uO fm k=ai):uO (fm++[(k,n)]) a=if a=k then ah n else uO fm a:=by unfold uO at *;grind
theorem tY.look(h:tY W mb fm)(hs:Sk s):(Instr.lookup 286 (.map (ah mb)) (oR s) aK).run prog W=.ok (.tuple #[iz (((uO fm (s.name,s.args)).getD 0:Nat):Int),.bool (uO fm (s.name,s.args)).isSome]) W:=by obtain⟨D,a,c,b⟩:=h;exact(b s hs).look a JU underlying286 (xX hs.ok)
theorem tY.store(h:tY W mb fm)(hs:Sk s)(f:uO fm (s.name,s.args)=ai)(o:n<100000)(m:bB fm<1000000):
  ∃c,(Instr.mapUpdate 286 (.map (ah mb)) (oR s) (iz n)).run prog W=.ok () c∧tY c mb (fm++[((s.name,s.args),n)])∧dV mb W c:=by
 obtain⟨D,j,v,l⟩:=h;let⟨r,q,p,a⟩:=ke j JU underlying286 cJ (xX hs.ok) (ou underlying3 (uj o));have b:=gT j JU;refine⟨r,q,⟨_,jP p,?_,λu i=>?_⟩,jw a.grown⟩
 .grind[size_put,List.length_append,List.length_singleton]
 rw[QN _ _ n f];by_cases e:u=s
 .subst e;rw[cY rfl];let⟨y,e,d⟩:=VX i.ok;rw[e];exact tS b.isMap d n
 have d:¬(u.name,u.args)=(s.name,s.args):=λk=>e (by
  cases u;cases s;simp at k;simp[k])
 rw[cC d];exact(l u i).n9 (λx=>e (VY i hs x)) _
theorem tY.new(W:ay):tY (bC W (.map #[] 0)) W.heap.size []:=by have a:=jC (H:=Unit) W prog 288 (plainElem prog 3);exact⟨.map [],jP a,dt _,λs _=>⟨rfl,rfl⟩⟩
def Tr(g:Uf.G)(t:Tm)(i:Nat):Tm:=⟨t.name,(aO 4).map λk=>if k<i then(match t.args[k]? with|some a=>g.lo a|none=>0) else 0⟩
theorem Nx(g t i k)(b:k<4):(Tr g t i).arg k=if k<i then(match t.args[k]? with|some a=>g.lo a|none=>0) else 0:=by obtain rfl|rfl|rfl|rfl:=(by omega:k=0∨k=1∨k=2∨k=3)<;>rfl
theorem XS(g t):Tr g t (bB t.args)=⟨t.name,mI g t⟩:=by grind[Tr,mI]
theorem Tq(g t i a)(d:i<4)(c:t.args[i]?=ah a):(nC (Tr g t i)).set (1+i) (iz (g.lo a:Int))=nC (Tr g t (i+1)):=by
 have e:∀k,k<4->(Tr g t (i+1)).arg k=if k=i then g.lo a else(Tr g t i).arg k:=λk b=>by rw[Nx _ _ _ _ b,Nx _ _ _ _ b];grind
 unfold nC;rw[e 0 bO,e 1 bO,e 2 bO,e 3 bO];obtain rfl|rfl|rfl|rfl:=(by omega:i=0∨i=1∨i=2∨i=3)<;>rfl
variable{g:Uf.G}
theorem aaN{k:Nat}(d:Uf.Ok n g k)(j:t.ok)(o:n<=1000)(h:∀a∈t.args,a<n):Sk ⟨t.name,mI g t⟩:=by
 refine⟨⟨j.name,by simp[mI],λa c=>?_⟩,by simp[mI]⟩;simp only[mI,gI,j6] at c;obtain⟨i,m,c⟩:=c;cases e:t.args[i]? with
 |none=>grind
 |some b=>rw[e] at c;simp at c;have f:=h b (cH e);have l:=d.UL b f;omega
def DO(L:List (List Nat))(t:List Uf.Rec):Prop:=∀r∈L,bB r<=2*bB t
variable{L:List (List Nat)}
theorem DO.get{t:List Uf.Rec}(h:DO L t)(j:Nat):bB (L[j]?.getD [])<=2*bB t:=by
 cases e:L[j]? with
 |none=>simp
 |some r=>exact h r (cH e)
theorem DO.of{t:List Uf.Rec}(h:∀j:Nat,bB (L[j]?.getD [])<=2*bB t):DO L t:=λr a=>by grind[List.getElem?_of_mem]
theorem DO.link{t:List Uf.Rec}(h:DO L t)(hl:bB L=n){a b:Nat}(i:a<n)(k:b<n):DO (Pf.link n ⟨g,L⟩ a b).2.L (lz n g t a b):=by
 unfold Pf.link lz;by_cases c:iA n g a b=aK
 .simp[c,iX];refine DO.of λj=>?_;have d:=h.get a;have e:=h.get b;have f:=h.get j;grind[l9]
 simp[c];exact h
theorem UP{c w}{l}{n}(hn:n=bB l)(cb:n<=1000)(ad:∀t∈l,t.ok∧∀a∈t.args,a<n){pb sp nb kb}{tv dv jv}{g}{t}{lv}(h:sU w c.heap.size pb sp nb kb tv dv jv n g t L lv)(hT:sR c tv l)(U:aC c.heap.size c w)(hR:DO L t)(fd P)(ag:Jg n 0 l [] ⟨g,L⟩ aL=(fd,P)):
  aB prog 139 #[pz pb] w λe w'=>e=aw (.bool fd)∧∃v t' x,sU w' c.heap.size pb sp nb kb tv dv v n P.g t' P.L x∧DO P.L t'∧aC c.heap.size c w':=by
 have bR:=@rA prog;let⟨ta,tc,Y,_⟩:=id hT;have x1:aU w (az pb 1)=ah (aj ta (bB l) tc):=by rw[<-Y];exact h.cells.cell (i:=1) bO
 rw[<-hn] at x1;have y1:=fF (.map #[] 0) x1;have b8:(hz c)<=hz w:=U.size;have al:Hid (sU (bC w (.map #[] 0)) (hz c) pb sp nb kb tv dv jv n g t L lv∧DO L t∧tY (bC w (.map #[] 0)) (hz w) []∧aC (hz c) c (bC w (.map #[] 0))∧Jg n 0 (l.drop 0) [] ⟨g,L⟩ aL=(fd,P)):=
  ⟨h.below ((cW _ _).alloc (bT _) _),hR,tY.new w,U.alloc b8 _,ag⟩
 have HT:Hid (sR c tv l):=hT;have HO:=bL ad;have HN:=bL hn;clear hT h U hR ag ad x1 hn;go_enter func139,ntmps139
 go_wp2;generalize bC w (.map #[] 0)=w1 at *;obtain⟨mb,a4⟩:=bJ (hz w);have cj:(hz c)<=mb:=bO
 rw[a4] at al;simp only[a4];clear a4 y1 bR
 go_loopw[3,18] (λt3 a7 W=>∃(i:Nat)(f:Bool),i<=n∧a7=iz i∧t3=.bool f∧Hid (∃fm g L t jv lv,sU W (hz c) pb sp nb kb tv dv jv n g t L lv∧DO L t∧tY W mb fm∧aC (hz c) c W∧Jg n i (l.drop i) fm ⟨g,L⟩ f=(fd,P)∧bB fm<=i∧∀e∈fm,e.2<i)) λ_ a7 _=>n-(aG a7).toNat
 case atStart=>let⟨h1,h2,h3,h4,h5⟩:=al.out;exact⟨0,aL,dt _,rfl,rfl,[],g,L,t,jv,lv,h1,h2,h3,h4,h5,bT _,by simp⟩
 case round=>
  obtain⟨i,f,hi,rfl,rfl,HR⟩:=hrel;clear al;by_cases A:i<n
  .have di:=bM i n;have ce:=fq (a:=i) bO;have a3:i<bB l:=by rw[<-HN.out];exact A
   have a6:=bP a3;have H:=HO.out l[i] (dw a3);have F:l.drop i=l[i]::l.drop (i+1):=dP a3;generalize l[i]=T at *;let⟨fm,g,L,t,jv,lv,hM,hR,hS,U,m,bb⟩:=HR.out;let⟨tb,c6,cy,u,J,q1,q2,q3⟩:=(HT.out.mono (iS U)).get a6;rw[Y,<-HN.out] at J;simp only[fL,mC] at J;obtain⟨rfl,rfl⟩:=J;obtain⟨Q,R,rfl,q4⟩:=id q3;have HA:Hid (pQ c (aj Q (bB T.args) R) T.args):=by
    let⟨cx,cn,cm,u',J,p1,p2,p3⟩:=HT.out.get a6;have bo:=iS U _ _ p2;rw[Y] at J;simp only[fL,fw,oy,mC,sk] at J;obtain⟨⟨rfl,rfl⟩,rfl⟩:=J;rw[q2] at bo;cases bo
    exact p3
   rw[F] at m;have cp:=H.1.args;have ch:(hz c)<=hz wr:=U.size;have N:Hid (sU (bC (bC wr (aq #[.string T.name,aj Q (bB T.args) R] 102)) (aq #[.string T.name,iz 0,iz 0,iz 0,iz 0] 288)) (hz c) pb sp nb kb tv dv jv n g t L lv∧tY (bC (bC wr (aq #[.string T.name,aj Q (bB T.args) R] 102)) (aq #[.string T.name,iz 0,iz 0,iz 0,iz 0] 288)) mb fm∧aC (hz c) c (bC (bC wr (aq #[.string T.name,aj Q (bB T.args) R] 102)) (aq #[.string T.name,iz 0,iz 0,iz 0,iz 0] 288))∧(bC (bC wr (aq #[.string T.name,aj Q (bB T.args) R] 102)) (aq #[.string T.name,iz 0,iz 0,iz 0,iz 0] 288)).heap[hz wr+1]?=ah (aq (nC (Tr g T 0)).toArray 288)):=by
    have ap:aC (hz wr) wr (bC (bC wr (aq #[.string T.name,aj Q (bB T.args) R] 102)) (aq #[.string T.name,iz 0,iz 0,iz 0,iz 0] 288)):=((cW _ _).alloc (bT _) _).alloc bQ _;let⟨es,ck,d⟩:=hS.lt;refine⟨hM.below ap,hS.keep (ap.block mb (bY.1 d).1),U.trans (ap.mono ch),?_⟩;have:=eW (bC wr (aq #[.string T.name,aj Q (bB T.args) R] 102)) (aq #[.string T.name,iz 0,iz 0,iz 0,iz 0] 288);have hz:(bC wr (aq #[.string T.name,aj Q (bB T.args) R] 102)).heap.size=hz wr+1:=bQ
    rw[hz] at this;rw[this];rfl
   have C:=bL (b9 hR (b9 m bb));have an:=bL H;clear hR m bb hM hS U HR q3 q4 H F a6;have a5:Uf.Ok n g (bB t):=N.out.1.ie.ok
   go_wp2;obtain⟨w2,bj⟩:=bK ((bC (bC wr (aq #[.string T.name,aj Q (bB T.args) R] 102)) (aq #[.string T.name,iz 0,iz 0,iz 0,iz 0] 288)));rw[<-bj] at N⊢;obtain⟨D,bc⟩:=bJ (hz wr+1);rw[bc] at N;simp only[bc];have be:(hz c)<=D:=bO
   clear bj q1 q2
   go_loopw[29] (λa8 W=>∃(j:Nat),j<=bB T.args∧a8=iz j∧Hid (sU W (hz c) pb sp nb kb tv dv jv n g t L lv∧tY W mb fm∧aC (hz c) c W∧W.heap[D]?=ah (aq (nC (Tr g T j)).toArray 288))) λa8 _=>bB T.args-(aG a8).toNat
   case atStart=>exact⟨0,dt _,rfl,N⟩
   case round=>
    obtain⟨j,hj,rfl,o⟩:=hrel;by_cases X:j<bB T.args
    .have dj:=bM j (bB T.args);have cv:=fq (a:=j) bO;let⟨ab,ao,co,J,k1⟩:=(HA.out.mono (iS o.out.2.2.1)).get (bP X);simp only[fL,mC] at J;obtain⟨rfl,rfl⟩:=J;have b0:=bP X;have b6:=an.out.2 T.args[j] (dw X);have x0:aU wr (az pb 0)=ah (pz sp):=o.out.1.cells.cell (i:=0) bO;generalize T.args[j]=a at *;have LE:=Kw (hz c) o.out.1.ie.mu (bB t) a5 a;rw[lN b6,cY rfl,eS] at LE;have k2:aU wr ⟨D,1+j,ai⟩=ah (iz ((Tr g T j).arg j:Int)):=by
      have V:=o.out.2.2.2;simp only[aU,V];obtain rfl|rfl|rfl|rfl:=(by omega:j=0∨j=1∨j=2∨j=3)<;>rfl
     have k3:bG wr ⟨D,1+j,ai⟩=aL:=by have V:=o.out.2.2.2;simp[bG,V]
     go_wp2_with(go_at_call 38;refine LE.mono ?_;rintro e w5 ⟨rfl,mq,rfl⟩);refine⟨⟨j+1,X,by simp,?_⟩,by simp[aG];omega⟩;let⟨I,z2,E,z4⟩:=o.out;have bx:(bF wr mq).heap[D]?=ah (aq (nC (Tr g T j)).toArray 288):=z4;have ci:sU (bF wr mq) (hz c) pb sp nb kb tv dv jv n g t L lv:=I.below ⟨rfl,rfl,rfl,bT _,λ_ _=>rfl⟩;refine⟨ci.aaO bx _ _,z2.keep ?_,(show aC (hz c) c (bF wr mq) from⟨E.os,E.tape,E.output,E.size,E.block⟩).setCell (p:=⟨D,1+j,ai⟩) be _,?_⟩
     .let⟨es,ck,d⟩:=z2.lt;have cc:¬D=mb:=λe=>by rw[e] at z4;rw[z4] at d;cases d
      simp only[aW];rw[oP,cC cc];rfl
     rw[mf bx (1+j) (iz (g.lo a:Int)),Tq g T j a bO b0]
    have dj:=bN j (bB T.args);obtain rfl:j=bB T.args:=bO
    have B:=o.out.2.2.2;rw[XS] at B;have bi:Sk ⟨T.name,mI g T⟩:=aaN a5 an.out.1 cb an.out.2;have LK:=o.out.2.1.look bi;simp only[oR,nC] at LK;have c0:aU wr (az D 0)=ah (.string T.name):=by simp only[aU,B];rfl
    have c1:aU wr (az D 1)=ah (iz ((⟨T.name,mI g T⟩:Tm).arg 0:Int)):=by simp only[aU,B];rfl
    have c2:aU wr (az D 2)=ah (iz ((⟨T.name,mI g T⟩:Tm).arg 1:Int)):=by simp only[aU,B];rfl
    have c3:aU wr (az D 3)=ah (iz ((⟨T.name,mI g T⟩:Tm).arg 2:Int)):=by simp only[aU,B];rfl
    have c4:aU wr (az D 4)=ah (iz ((⟨T.name,mI g T⟩:Tm).arg 3:Int)):=by simp only[aU,B];rfl
    have m:=C.out.2.1;rw[Jg] at m;simp only at m;cases hf:uO fm (T.name,mI g T) with
    |none=>
     rw[hf] at LK m;let⟨W2,r1,r2,Z⟩:=o.out.2.1.store bi hf (n:=i) bO (by have:=C.out.2.2.1;omega);simp only[oR,nC] at r1;have y:Hid (sU W2 (hz c) pb sp nb kb tv dv jv n g t L lv∧aC (hz c) c W2):=by let⟨I,z2,E,z4⟩:=o.out;let⟨es,ck,d⟩:=z2.lt;have hl:=I.ie.mu;refine⟨I.keep (I.ie.other Z (λe=>iW hl.ie d e.symm) (λe=>iW hl.nodes d e.symm) λk hk e=>iL hl.iA d (e▸hk)) (Z.block _ I.cells.lt λe=>iW I.cells d e.symm) (Z.block _ I.outer.lt λe=>iW I.outer d e.symm) λj b hj V=>Z.block b (dI (I.rows j hj) V).2 λe=>iL (I.rows j hj) d (e▸V),⟨Z.os.trans E.os,Z.tape.trans E.tape,Z.output.trans E.output,bZ E.size Z.size,λk hk=>(Z.block k (cQ hk E.size) λe=>by omega).trans (E.block k hk)⟩⟩
     have O:=bL r2;generalize(⟨T.name,mI g T⟩:Tm).arg 0=v0 at *;generalize(⟨T.name,mI g T⟩:Tm).arg 1=v1 at *;generalize(⟨T.name,mI g T⟩:Tm).arg 2=v2 at *;generalize(⟨T.name,mI g T⟩:Tm).arg 3=v3 at *;have z:=bL m
     go_wp2;refine⟨⟨i+1,f,A,by simp,rfl,?_⟩,by simp[aG];omega⟩;refine⟨_,g,L,t,jv,lv,y.out.1,C.out.1,O.out,y.out.2,z.out,?_,λe M=>?_⟩
     .have:=C.out.2.2.1;simp;exact this
     .obtain M|M:=cU.1 M
      .exact oQ (C.out.2.2.2 e M)
      .simp at M;subst M;exact jG i
    |some q=>
     rw[hf] at LK m;simp only at m;have cr:q<i:=by have:=EB hf;exact C.out.2.2.2 _ this
     have cd:∀r∈L,bB r<=1048576:=λr hr=>by have h1:=C.out.1 r hr;have h2:=a5.num;omega
     have LI:=Of wr (hz c) o.out.1 q i bO A cd;have O:Hid (∀W2,nL wr W2->tY W2 mb fm):=λW2 ca=>by let⟨es,ck,d⟩:=o.out.2.1.lt;exact o.out.2.1.keep ((ca mb es ck d).trans d.symm)
     have ba:Hid (DO (Pf.link n ⟨g,L⟩ q i).2.L (lz n g t q i)):=C.out.1.link o.out.1.len bO A;have a9:Hid (aC (hz c) c wr):=o.out.2.2.1;generalize(⟨T.name,mI g T⟩:Tm).arg 0=v0 at *;generalize(⟨T.name,mI g T⟩:Tm).arg 1=v1 at *;generalize(⟨T.name,mI g T⟩:Tm).arg 2=v2 at *;generalize(⟨T.name,mI g T⟩:Tm).arg 3=v3 at *;have z:=bL m;simp only[eQ,iM] at LK;cases V:(Pf.link n ⟨g,L⟩ q i).1
     .rw[V] at LI z
      go_wp2_with(go_at_call 138;refine LI.mono ?_;rintro e w5 ⟨rfl,v,x,a1,a0,a2⟩;have y:=bL (b9 a1 (b9 a0 a2)));refine⟨⟨i+1,f,A,by simp,rfl,?_⟩,by simp[aG];omega⟩;refine⟨fm,_,_,_,_,_,y.out.1,ba.out,O.out _ y.out.2.2,a9.out.trans y.out.2.1,?_,iU C.out.2.2.1,λe M=>oQ (C.out.2.2.2 e M)⟩;have:=z.out;rw[Bool.or_false] at this;exact this
     rw[V] at LI z
     go_wp2_with(go_at_call 138;refine LI.mono ?_;rintro e w5 ⟨rfl,v,x,a1,a0,a2⟩;have y:=bL (b9 a1 (b9 a0 a2)));refine⟨⟨i+1,aK,A,by simp,rfl,?_⟩,by simp[aG];omega⟩;refine⟨fm,_,_,_,_,_,y.out.1,ba.out,O.out _ y.out.2.2,a9.out.trans y.out.2.1,?_,iU C.out.2.2.1,λe M=>oQ (C.out.2.2.2 e M)⟩;have:=z.out;rw[Bool.or_true] at this;exact this
  have di:=bN i n;obtain rfl:i=n:=bO
  have y:Hid (f=fd∧∃v t' x,sU wr (hz c) pb sp nb kb tv dv v i P.g t' P.L x∧DO P.L t'∧aC (hz c) c wr):=by
   let⟨fm,g,L,t,jv,lv,h1,h2,h3,h4,h5,h6⟩:=HR.out;rw[HN.out,nz,Jg] at h5;cases h5
   exact⟨rfl,jv,t,lv,h1,h2,h4⟩
  have b7:=y.out.1;subst b7
  go_wp2;go_ret;let⟨_,v,t',x,h1,h2,h3⟩:=y.out;rw[Y] at h1;exact⟨rfl,v,t',⟨x,h1⟩,h2,h3⟩
def Ey:(prog.info? 39).map (λi=>(i.zero,i.size,i.bytes))=ah (ah (aj ai 0 0),1,24):=bV
theorem Mm(w:ay)(n:Nat)(h:n<=1048577):(Instr.makeSlice 116 (iz n) (iz n)).run prog w=.ok (aj (ah (az w.heap.size 0)) n n) (bC w (aq (aN n (aj ai 0 0)).toArray 39)):=by let⟨f,b,c,d,e⟩:=eB Ey;have a:=oo (P:=prog) w 116 39 f _ underlying116 b c .i64 .i64 (n:Int) (n:Int) bO (kh _) (by rw[e];omega) bO;rw[d] at a;simp[eS,iq] at a;rw[<-jE];exact a
theorem Ee(w:ay)(n:Nat):bE (bC w (aq (aN n (aT ai 0 0)).toArray 39)) w.heap.size 39 n (λ_=>aj ai 0 0):=by refine⟨_,eW _ _,by simp,λi a=>?_⟩;simp[a]
theorem St.lower{base a p:Nat}{jv:aA}{t:List Uf.Rec}(h:St w base p nb jv n g t)(b:a<=base):St w a p nb jv n g t:=by
 obtain⟨⟨l,m,f,o,q,r,u,v,x⟩,y,hl⟩:=h;refine⟨⟨l,m,⟨f.1,?_⟩,o,q,r,bZ b u,bZ b v,x⟩,y,bZ b hl⟩;obtain e|⟨g,c,d,e,i,j,k⟩:=f.2
 .exact cB e
 exact cI ⟨g,c,d,e,bZ b i,j,k⟩
variable{tv dv sv gv:aA}
theorem sU.start{B sp kb:Nat}(hs:St W B sp nb (aj ai 0 0) n Uf.g0 [])(c:bE W kb 39 n λ_=>aj ai 0 0)(f:B<=kb)(e:B<=W.heap.size):
  sU (bC W (aq #[pz sp,tv,dv,aj (ah (az kb 0)) n n] 246)) B W.heap.size sp nb kb tv dv (aj ai 0 0) n Uf.g0 [] (aN n []) (λ_=>aj ai 0 0):=by
 have a:bz W (bC W (aq #[pz sp,tv,dv,aj (ah (az kb 0)) n n] 246)):=(cW _ _).alloc (bT _) _;refine⟨(ey W #[pz sp,tv,dv,aj (ah (az kb 0)) n n] 246).congr λj d=>?_,hs.other (S:=λ_=>False) ⟨a.os,a.tape,a.output,a.size,λk c _=>a.block k c⟩ id id λ_ _=>id,c.of_block (a.block _ c.lt),λj d=>?_,λi j b _ _ h=>by simp[aP] at h,by simp,e,f⟩
 .have:j=0∨j=1∨j=2∨j=3:=by simp at d;omega
  obtain rfl|rfl|rfl|rfl:=this<;>rfl
 rw[rD,cY d];exact eR _ _ _ _
theorem aaJ(f:St w5 w.heap.size (w.heap.size+1) w.heap.size (aj ai 0 0) n Uf.g0 [])(a:aC w.heap.size w.drew w5):
  ∃pb sp nb kb,br (ah ⟨w5.heap.size+1,0,ai⟩)=pz pb∧sU (bC (bC w5 (aq (Array.replicate n (aT ai 0 0)) 39)) (aq #[ak (ah ⟨w.heap.size+1,0,ai⟩),tv,dv,aj (ah (az w5.heap.size 0)) n n] 246)) w.heap.size pb sp nb kb tv dv (aj ai 0 0) n Uf.g0 [] (aN n []) (λ_=>aj ai 0 0)∧aC w.heap.size w (bC (bC w5 (aq (Array.replicate n (aT ai 0 0)) 39)) (aq #[ak (ah ⟨w.heap.size+1,0,ai⟩),tv,dv,aj (ah (az w5.heap.size 0)) n n] 246)):=by
 have e:(aN n (aT ai 0 0)).toArray=Array.replicate n (aT ai 0 0):=bQ
 have d:=Ee w5 n;rw[e] at d;have hz:=a.size;have b:w.heap.size<=w5.heap.size:=hz;have c:=sU.start (tv:=tv) (dv:=dv) (W:=bC w5 (aq (Array.replicate n (aT ai 0 0)) 39)) (B:=w.heap.size) (f.other (S:=λ_=>False) ((bW _ _).alloc _) id id λ_ _=>id) d b bX;have hs:(bC w5 (aq (Array.replicate n (aT ai 0 0)) 39)).heap.size=w5.heap.size+1:=bQ
 rw[hs] at c;exact⟨_,_,_,_,rfl,c,((show aC w.heap.size w w5 from⟨a.os,a.tape,a.output,a.size,a.block⟩).alloc b _).alloc (by rw[hs];omega) _⟩
theorem aaI(d:St w5 (w.heap.size+1) (w.heap.size+1+1) (w.heap.size+1) (aj ai 0 0) n Uf.g0 [])(a:aC (w.heap.size+1) (bC w (aq (Array.replicate n (aT ai 0 0)) 39)).drew w5):
  ∃pb sp nb kb,br (ah ⟨w5.heap.size,0,ai⟩)=ak (ah ⟨pb,0,ai⟩)∧sU (bC w5 (aq #[ak (ah ⟨w.heap.size+1+1,0,ai⟩),tv,dv,aj (ah ⟨w.heap.size,0,ai⟩) n n] 246)) w.heap.size pb sp nb kb tv dv (aj ai 0 0) n Uf.g0 [] (aN n []) (λ_=>aj ai 0 0)∧aC w.heap.size w (bC w5 (aq #[ak (ah ⟨w.heap.size+1+1,0,ai⟩),tv,dv,aj (ah ⟨w.heap.size,0,ai⟩) n n] 246)):=by
 have e:(aN n (aT ai 0 0)).toArray=Array.replicate n (aT ai 0 0):=bQ
 have b:=Ee w n;rw[e] at b;have hz:=a.size;have hs:(bC w (aq (Array.replicate n (aT ai 0 0)) 39)).drew.heap.size=w.heap.size+1:=bQ
 rw[hs] at hz;have c:=sU.start (tv:=tv) (dv:=dv) (W:=w5) (B:=w.heap.size) (d.lower (iD _)) (b.of_block (a.block _ (jG _))) (bT _) bO;refine⟨_,_,_,_,rfl,c,Below.alloc ?_ bO _⟩;exact(show aC w.heap.size w (bC w (aq (Array.replicate n (aT ai 0 0)) 39)).drew from nK w _).trans (a.mono (iD _))
theorem I5{w}{l}(Y:bB l<=1000)(Z:∀t∈l,t.ok∧∀a∈t.args,a<bB l){D}(E)(hT:sR w (aj D (bB l) E) l){v}(z){told}(hD:mB w (aj v (bB told) z) told)(al:bB told<=1048576)(an:∀a∈told,a.1<bB l∧a.2<bB l){P}(hP:uE l told=ah P):
  aB prog 92 #[aj D (bB l) E,aj v (bB told) z] w λe w'=>∃pb sp nb kb jv t lv,e=aw (ak (ah ⟨pb,0,ai⟩))∧sU w' w.heap.size pb sp nb kb (aj D (bB l) E) (aj v (bB told) z) jv (bB l) P.g t P.L lv∧DO P.L t∧aC w.heap.size w w':=by
 have N:∀W,_:=λW=>WQ W (bB l) bO;have m1:∀W,_:=λW=>Mm W (bB l) bO;obtain⟨n,hn⟩:=bJ (bB l);have O:=bL hn;have HT:=bL hT;have HD:=bL hD;have HO:=bL Z;have HL:=bL an;have HP:=bL hP;rw[hn] at N m1 Y⊢;go_enter func92,ntmps92
 go_wp2_with fail
 go_cut[5] from 8 to 17 λt5 wx=>∃pb sp nb kb,t5=ak (ah ⟨pb,0,ai⟩)∧sU wx (hz w) pb sp nb kb (aj D n E) (aj v (bB told) z) (aj ai 0 0) n Uf.g0 [] (aN n []) (λ_=>aj ai 0 0)∧aC (hz w) w wx
 case first=>
  go_region_law(first|(go_simp;go_at_call 32;refine(N _).mono ?_;rintro e w5 ⟨rfl,h,f⟩));all_goals
   try simp[aQ,cD,cw,ct,cf,cN,cK]
   go_wp2_with fail;go_meet
   case rel=>
    first
    |exact aaJ h f
    |(have hs:(bC w (aq (Array.replicate n (aT ai 0 0)) 39)).drew.heap.size=hz w+1:=bQ
      rw[hs] at h f;exact aaI h f)
 case rest=>
  obtain⟨pb,sp,nb,kb,rfl,M1,B1⟩:=hcut;have R:=bL (b9 M1 B1);have ac:Hid (∃g t L jv lv,sU wc (hz w) pb sp nb kb (aj D n E) (aj v (bB told) z) jv n g t L lv∧DO L t∧aC (hz w) w wc∧UO l (n+2) (Pf.tell n (told.drop 0) ⟨g,L⟩)=ah P):=by
   refine⟨_,_,_,_,_,R.out.1,λr hr=>?_,R.out.2,?_⟩
   .grind
   have:=HP.out;unfold uE at this;rw[O.out] at this;exact this
  go_wp2_with fail;obtain⟨dn,V⟩:=bJ (bB told);have F:=bL V;rw[V] at ac al⊢
  go_loopw[20] (λM W=>∃(i:Nat),i<=dn∧M=ae af i∧Hid (∃g t L jv lv,sU W (hz w) pb sp nb kb (aj D n E) (aj v dn z) jv n g t L lv∧DO L t∧aC (hz w) w W∧UO l (n+2) (Pf.tell n (told.drop i) ⟨g,L⟩)=ah P)) λM _=>dn-(aG M).toNat
  case atStart=>grind
  case round=>
   obtain⟨i,hi,rfl,HR⟩:=hrel;by_cases X:i<dn
   .have di:=bM i dn;have ao:=fq (a:=i) bO;have q:i<bB told:=by rw[F.out];exact X
    let⟨g,t,L,jv,lv,y,A,x,d⟩:=HR.out;have o:told.drop i=told[i]::told.drop (i+1):=dP q;rw[o,Pf.tell] at d;let⟨a1,a2⟩:=HL.out _ (dw q);obtain⟨b,m,ad,q1,q2⟩:∃b m,v=ah ⟨b,m,ai⟩∧aU wr ⟨b,m+i*2,ai⟩=ah (ae af (told[i].1:Int))∧aU wr ⟨b,m+i*2+1,ai⟩=ah (ae af (told[i].2:Int)):=by
     let⟨a,c,e,hp⟩:=(show mB w (aj v (bB told) z) told from HD.out).mono (iS x);simp[fL,mC] at e;obtain⟨rfl,rfl⟩:=e;obtain e|⟨b,m,rfl,hp⟩:=hp
     .rw[e] at q;simp at q
     exact⟨b,m,rfl,hp i _ (bP q)⟩
    subst ad;rw[O.out] at a1 a2;have ag:Uf.Ok n g (bB t):=y.ie.ok;have aa:∀r∈L,bB r<=1048576:=λr hr=>by have h1:=A r hr;have h2:=ag.num;omega
    have U:aC (hz wr) wr (bC wr (aq #[ae af (told[i].1:Int),ae af (told[i].2:Int)] 34)):=(cW _ _).alloc (bT _) _;have LI:=Of (bC wr (aq #[ae af (told[i].1:Int),ae af (told[i].2:Int)] 34)) (hz w) (y.below U) told[i].1 told[i].2 a1 a2 aa;have HF:Hid (DO (Pf.link n ⟨g,L⟩ told[i].1 told[i].2).2.L (lz n g t told[i].1 told[i].2)∧aC (hz w) w (bC wr (aq #[ae af (told[i].1:Int),ae af (told[i].2:Int)] 34))∧UO l (n+2) (Pf.tell n (told.drop (i+1)) (Pf.link n ⟨g,L⟩ told[i].1 told[i].2).2)=ah P):=⟨A.link y.len a1 a2,x.alloc x.size _,d⟩
    clear d A y x aa HR o U;generalize told[i]=p at *
    go_wp2_with(go_at_call 138;refine LI.mono ?_;rintro e w5 ⟨rfl,B,C,h,f,ap⟩;have u:=bL (b9 h f));refine⟨⟨i+1,X,by simp,?_⟩,by simp[aG];omega⟩;exact⟨_,_,_,_,_,u.out.1,HF.out.1,HF.out.2.1.trans u.out.2,HF.out.2.2⟩
   have di:=bN i dn;obtain rfl:i=dn:=bO
   have T:Hid (∃g t L jv lv,sU wr (hz w) pb sp nb kb (aj D n E) (aj v i z) jv n g t L lv∧DO L t∧aC (hz w) w wr∧UO l (n+2) ⟨g,L⟩=ah P):=by let⟨g,t,L,jv,lv,y,A,x,d⟩:=HR.out;rw[<-F.out,nz,Pf.tell] at d;exact⟨g,t,L,jv,lv,y,A,x,d⟩
   clear HR
   go_wp2_with fail
   go_loopg[31] (n+2) λk _ W=>Hid (∃g t L jv lv,sU W (hz w) pb sp nb kb (aj D n E) (aj v i z) jv n g t L lv∧DO L t∧aC (hz w) w W∧UO l k ⟨g,L⟩=ah P)
   case atStart=>exact T
   case round=>
    clear T;let⟨g,t,L,jv,lv,y,A,x,d⟩:=hrel.out;cases gk with
    |zero=>exact absurd d (by simp[UO])
    |succ k=>
    rw[UO] at d;have J:sR w (aj D n E) l:=by rw[<-O.out];exact HT.out
    have H:∀t∈l,t.ok∧∀a∈t.args,a<n:=by rw[<-O.out];exact HO.out
    cases j:Jg (bB l) 0 l [] ⟨g,L⟩ aL with
    |mk fd P'=>
    rw[j] at d;have LA:=UP O.out.symm Y H y J x A fd P' (by rw[<-O.out];exact j);cases fd
    .simp[gL,jF,fw] at d;subst d;clear j y A x J H hrel
     go_wp2_with(go_at_call 139;refine LA.mono ?_;rintro e w5 ⟨rfl,B,t',C,h,I,f⟩;have u:=bL (b9 h (b9 I f)));go_ret;have Q:=u.out.1;rw[<-F.out] at Q;exact⟨pb,sp,nb,kb,B,t',C,rfl,Q,u.out.2.1,u.out.2.2⟩
    simp[iX] at d;have ab:=bL d;clear j y A x J H hrel d
    go_wp2_with(go_at_call 139;refine LA.mono ?_;rintro e w5 ⟨rfl,B,t',C,h,I,f⟩;have u:=bL (b9 h (b9 I f)))
    go_roundg k
    case measure=>omega
    case rel=>exact⟨P'.g,t',P'.L,B,C,u.out.1,u.out.2.1,u.out.2.2,ab.out⟩
theorem BF{P:Program}(w)(dT m o b:aE)(d a c f e h)(l:P.underlying dT=ah (.slice b))(hs:(P.info? b).map (·.size)=ah 2)(k:Nat.min e c=0):
  (Builtin.copy_ #[dT,m] o #[aj d c f,aj a e h]).run P w=.ok (goInt 0) w:=by
 cases j:P.info? b with
 |none=>simp[j] at hs
 |some i=>
  have hl:∀(x:aD),(loadCells x 0).run P w=.ok #[] w:=λx=>by simpa using run_loadCells_list (P:=P) w x [] bQ
  cases d<;>cases a<;>simp[Builtin.copy_,gM l,Builtin.lenOf,Builtin.firstCells,sizeOf,typeInfo,j,k,storeCells,hl]
theorem I4(w c a pc):aB prog 142 #[.agg #[iz c.1,iz c.2],aj a 0 pc] w λe b=>e=aw (.agg (rF c []).toArray)∧aC w.heap.size w b:=by
 have f:∀(W:ay)(d:Option aD),(Builtin.copy_ #[109,109] 3 #[aj d 4 4,aj a 0 pc]).run prog W=.ok (goInt 0) W:=λW d=>BF W _ _ _ 34 d a 4 4 0 pc underlying109 Om rfl;go_enter func142,ntmps142
 go_wp2;refine⟨rfl,.agg #[iz c.1,iz c.2,iz 0,iz 0,iz 0,iz 0,iz 0,iz 0,iz 0,iz 0],by simp[aI,results142,go_sem],rfl,?_⟩;exact(((cW w.heap.size w).alloc (bT _) _).alloc bQ _).alloc bX _
theorem zG(w c a pc ps)(hp:mB w (aj a (bB ps) pc) ps)(b:bB ps<=4):aB prog 142 #[.agg #[iz c.1,iz c.2],aj a (bB ps) pc] w λe d=>e=aw (.agg (rF c ps).toArray)∧aC w.heap.size w d:=by
 by_cases h:ps=[]
 .subst h;exact I4 w c a pc
 exact Mi c pc hp ⟨by grind,b⟩
def oC(S:List rl):List aA:=S.flatMap λs=>rF s.1 s.2
theorem PQ(ps):bB (kU ps)=4:=by simp[kU]
theorem Ik(c ps):bB (rF c ps)=10:=by simp[rF,xz,PQ,OD]
def YU:(prog.info? 206).map (λi=>(i.zero,i.size,i.bytes))=ah (ah (.agg #[iz 0,iz 0,iz 0,iz 0,iz 0,iz 0,iz 0,iz 0,iz 0,iz 0]),10,80):=bV
structure OS(w W:ay)(S:List rl)(G:List Pr)(sv gv:aA):Prop where
 vT:bD W w.heap.size 206 10 sv (bB S) (oC S)
 grow:bD W w.heap.size 34 2 gv (bB G) (lj G)
 below:aC w.heap.size w W
variable{S:List rl}{G:List Pr}
def OS.under(h:OS w W S G sv gv)(a:aC W.heap.size W W'):OS w W' S G sv gv:=
 ⟨ew h.vT a,ew h.grow a,h.below.trans (a.mono h.below.size)⟩
theorem OS.BQ{i f:ay}{o:aA}(h:OS w W S G sv gv)(p:aC W.heap.size W i){c:Pr}{ps:List Pr}(m:bD f w.heap.size 206 10 o (bB S+1) (oC S++rF c ps))(a:bH i f (aP sv)):OS w f (S++[(c,ps)]) G o gv:=by
 have d:=h.under p;refine⟨?_,eP d.grow λb j=>a.block b (dI d.grow j).2 λe=>kz d.grow d.vT bS j e.symm,?_⟩
 .grind[oC]
 exact⟨a.os.trans d.below.os,a.tape.trans d.below.tape,a.output.trans d.below.output,bZ d.below.size a.size,λk l=>(a.block k (cQ l d.below.size) λe=>by have:=(dI d.vT e.symm).1;omega).trans (d.below.block k l)⟩
theorem OS.WE{d:List Pr}{c:aA}(h:OS w W S G sv gv)(a:tZ w.heap.size 34 2 W gv W' c (bB d) (lj d)):OS w W' S d sv c:=by refine⟨eP h.vT λb f=>a.kept.block b (dI h.vT f).2 λe=>kz h.vT h.grow bS f e,a.row,?_⟩;exact⟨a.kept.os.trans h.below.os,a.kept.tape.trans h.below.tape,a.kept.output.trans h.below.output,bZ h.below.size a.kept.size,λk i=>(a.kept.block k (cQ i h.below.size) λe=>by have:=(dI h.grow e).1;omega).trans (h.below.block k i)⟩
end
section
variable{A B w X w5 W W' W1 w8:ay}
def wV{C:ay}(h:aC A.heap.size A B)(k:aC B.heap.size B C):aC A.heap.size A C:=h.trans (k.mono h.size)
def oh(A):aC A.heap.size A A.drew:=⟨rfl,rfl,rfl,bT _,λ_ _=>rfl⟩
def mV(h:aC A.drew.heap.size A.drew B):aC A.heap.size A B:=⟨h.os,h.tape,h.output,h.size,h.block⟩
variable{n a base lb b m:Nat}{v sv gv pv gv':aA}{xs:List aA}
theorem pB{B g:Nat}{e:aE}{k:Nat}(h:bD w B e k v n xs)(o:g<=B):bD w g e k v n xs:=by
 refine⟨h.1,?_⟩;obtain x|⟨b,d,f,i,j,l⟩:=h.2
 .exact cB x
 exact cI ⟨b,d,f,i,bZ o j,l⟩
def Lg(h:a<=1048576):IntKind.i64.wrap ((a:Int)+1+1)=(a:Int)+1+1:=aew
def Wp(a:Nat):(0:Int)<=(a:Int)+1:=bO
def Zy(a:Nat):(0:Int)<=(a:Int):=bO
def GJ(d:aC X.heap.size X w5)(b k)(h:b<X.heap.size):aU w5 (az b k)=aU X (az b k)∧bG w5 (az b k)=bG X (az b k):=⟨cL (a:=az b k) (d.block b h),jZ (a:=az b k) (d.block b h)⟩
variable{p:List Nat}
theorem pQ.tm(h:bD W base 3 1 v (bB p) (p.map i64)):pQ W v p:=by
 obtain⟨e,l⟩|⟨b,f,k,e,_⟩:=h.2
 .refine⟨ai,0,by rw[e,l],cB cG⟩
 refine⟨_,f,e,cI ⟨b,0,rfl,λj c d=>?_⟩⟩;have:=h.cells (g:=b) (by rw[e];rfl) j (iz c) (by rw[fN] at d⊢;cases i:p[j]? with|none=>rw[i] at d;simp at d|some y=>rw[i] at d;simp at d;subst d;rfl);rw[j9] at this;exact this
def pU:=@pQ.tm
structure GM(w W:ay)(S:List rl)(G:List Pr)(sv gv pv:aA)(p:List Nat):Prop where
 st:OS w W S G sv gv
 BS:bD W w.heap.size 3 1 pv (bB p) (p.map i64)
variable{S:List rl}{G:List Pr}
def GM.under(h:GM w W S G sv gv pv p)(d:aC W.heap.size W W'):GM w W' S G sv gv pv p:=⟨h.st.under d,ew h.BS d⟩
variable{c:Pr}
theorem GM.BQ{k:aA}(h:GM w W S G sv gv pv p)(i:aC W.heap.size W W1){ps:List Pr}(f:bD w8 w.heap.size 206 10 k (bB S+1) (oC S++rF c ps))(d:bH W1 w8 (aP sv)):GM w w8 (S++[(c,ps)]) G k gv pv p:=by have g:=h.under i;exact⟨h.st.BQ i f d,eP g.BS λb j=>d.block b (dI g.BS j).2 λe=>kz g.BS g.st.vT bS j e.symm⟩
def GM.WE{d:List Pr}(h:GM w W S G sv gv pv p)(g:tZ w.heap.size 34 2 W gv W' gv' (bB d) (lj d)):GM w W' S d sv gv' pv p:=
 ⟨h.st.WE g,eP h.BS λb f=>g.kept.block b (dI h.BS f).2 λe=>kz h.BS h.st.grow bS f e⟩
structure Hl(W:ay)(lb:Nat)(c:Pr)(gv:aA):Prop where
 row:bE W lb 34 2 (λj=>if j=0 then ae af c.1 else ae af c.2)
 ne:aP gv≠ah lb
def Hl.under(h:Hl W lb c gv)(d:aC W.heap.size W W'):Hl W' lb c gv:=⟨h.row.of_block (d.block _ h.row.lt),h.ne⟩
def Hl.c0(h:Hl W lb c gv):cz W lb 0 (iz c.1):=h.row.cell (i:=0) bO
def Hl.c1(h:Hl W lb c gv):cz W lb 1 (iz c.2):=h.row.cell (i:=1) bO
def Hl.BQ(h:Hl W lb c gv)(f:aC W.heap.size W W1)(hs:bD W base 206 10 sv n xs)(d:bH W1 w8 (aP sv)):Hl w8 lb c gv:=
 ⟨(h.under f).row.of_block (d.block _ (h.under f).row.lt λe=>dY (h.under f).row bS (ew hs f) e.symm),h.ne⟩
theorem Hl.WE(h:Hl W lb c gv)(f:tZ base 34 2 W gv W' gv' n xs):Hl W' lb c gv':=
 ⟨h.row.of_block (f.kept.block _ h.row.lt h.ne),λe=>by
  obtain d|d:=f.at_
  .exact h.ne (d▸e)
  have:=d lb e;have:=h.row.lt;omega⟩
theorem adw(h:GM w W S G sv gv pv p)(d:aC W.drew.heap.size W.drew w5):
  ∃lb,br (ah ⟨w5.heap.size,0,ai⟩)=ak (ah ⟨lb,0,ai⟩)∧Hid (GM w (bC w5 (aq #[ae af c.1,ae af c.2] 34)) S G sv gv pv p∧Hl (bC w5 (aq #[ae af c.1,ae af c.2] 34)) lb c gv):=by
 have R:=ey w5 #[ae af c.1,ae af c.2] 34;have b1:aC W.heap.size W (bC w5 (aq #[ae af c.1,ae af c.2] 34)):=(mV d).alloc (mV d).size _;refine⟨_,rfl,h.under b1,R.congr λj i=>?_,λe=>?_⟩
 .grind
 have f:=(dI h.st.grow e).2;have g:=(mV d).size;omega
theorem adv{x y:aA}(h:GM w W S G sv gv pv p)(d:aC (bC W (aq #[x,y] 34)).drew.heap.size (bC W (aq #[x,y] 34)).drew w5):
  ∃lb,br (ah ⟨W.heap.size,0,ai⟩)=ak (ah ⟨lb,0,ai⟩)∧Hid (GM w (aW (aW w5 ⟨W.heap.size,0,ai⟩ (ae af c.1)) ⟨W.heap.size,1,ai⟩ (ae af c.2)) S G sv gv pv p∧Hl (aW (aW w5 ⟨W.heap.size,0,ai⟩ (ae af c.1)) ⟨W.heap.size,1,ai⟩ (ae af c.2)) lb c gv):=by
 have R:=(ey W #[x,y] 34).of_block (d.block W.heap.size bQ);have f:=(R.set 0 (ae af c.1)).set 1 (ae af c.2);have g:aC W.heap.size W w5:=(nK W _).trans (d.mono bQ);have b1:aC W.heap.size W (aW (aW w5 ⟨W.heap.size,0,ai⟩ (ae af c.1)) ⟨W.heap.size,1,ai⟩ (ae af c.2)):=(g.setCell (p:=⟨W.heap.size,0,ai⟩) (bT _) _).setCell (p:=⟨W.heap.size,1,ai⟩) (bT _) _;refine⟨_,rfl,h.under b1,f.congr λj k=>?_,λe=>?_⟩
 .grind
 have i:=(dI h.st.grow e).2;omega
theorem Ea(c ps):∃e x1 x2 x3 g h i j k l:Int,rF c ps=[iz e,iz x1,iz x2,iz x3,iz g,iz h,iz i,iz j,iz k,iz l]:=by
 match ps with
 | []=>exact⟨_,_,_,_,_,_,_,_,_,_,rfl⟩
 | [a]=>exact⟨_,_,_,_,_,_,_,_,_,_,rfl⟩
 | [a,b]=>exact⟨_,_,_,_,_,_,_,_,_,_,rfl⟩
 | [a,b,d]=>exact⟨_,_,_,_,_,_,_,_,_,_,rfl⟩
 |a::b::d::f::r=>
  have:rF c (a::b::d::f::r)=rF c [a,b,d,f]:=by simp[rF,kU]
  rw[this];exact⟨_,_,_,_,_,_,_,_,_,_,rfl⟩
theorem J1(w:ay)(e x1 x2 x3 f g h k l o:aA)(q:aE):∀j u,[e,x1,x2,x3,f,g,h,k,l,o][j]?=ah u->aU (bC w (aq #[e,x1,x2,x3,f,g,h,k,l,o] q)) ((az w.heap.size 0:aD).add j)=ah u:=by intro j u r;have s:=ey w #[e,x1,x2,x3,f,g,h,k,l,o] q;have d:=(bU.1 r).1;rw[j9,fM,s.cell (i:=j) (by simpa using d)];grind
theorem Yp(e:n<=1000){E:iE}(d:G.Nodup∧∀q∈G,gO E q.1 q.2∧q.1<n∧q.2<n):bB G<=1000000:=by have:=xD d.1 (n:=n) λq f=>(d.2 q f).2;have g:n*n<=1000*1000:=sm e e;omega
def UU(h:a<=1000000000000):a+1<=aY:=cJ
def UT(h:a<=1000000000000):(a+1)*80<=140737488355328:=bO
def aa7(h:a<=1000000)(d:b<=4):(a+b)*16<=140737488355328:=bO
theorem Um{size:Nat}{k:aE}{a:Option aD}{c:Nat}(h:bD w base k size (aj a m c) n xs){f:Nat}(e:a=ah (az b f)):base<=b:=by
 obtain⟨d,_⟩|⟨g,i,j,d,l,_⟩:=h.2
 .rw[e] at d;cases d
 grind
def J4(m:Nat):aS .i64 ((m:Int)+1+1)=aS .i64 (((m+1:Nat):Int)+1):=bQ
theorem Jc{len:Nat}(h:m+1<len):len-(aG (aS .i64 ((m:Int)+1+1))).toNat<len-(aG (aS .i64 ((m:Int)+1))).toNat:=by simp[aG];omega
def Yj(h:¬m=0):(1:Int)<(m:Int)+1:=bO
theorem ZZ(w:ay)(a c:Pr):mB (bC w (aq #[iz a.1,iz a.2,iz c.1,iz c.2] 34)) (aj (ah (az w.heap.size 0)) 2 2) [a,c]:=by
 have R:=ey w #[iz a.1,iz a.2,iz c.1,iz c.2] 34;refine⟨_,2,rfl,cI ⟨hz w,0,rfl,λj q d=>?_⟩⟩
 match j,d with
 |0,d=>simp at d;subst d;exact⟨R.cell (i:=0) bQ,R.cell (i:=1) bQ⟩
 |1,d=>simp at d;subst d;exact⟨R.cell (i:=2) bQ,R.cell (i:=3) bQ⟩
def uU(h:aC A.heap.size A X)(O):aC A.heap.size A (X.alloc O):=h.alloc h.size O
theorem Ly(told)(d:Pr->List Pr)(a t x S G):iP told d a t [x] S G=(S,G):=by rw[iP];intro _ _ _ h;cases h
theorem Q8(w pb ta tc dv lv l told)(L:List (List Nat))(n)(de:bB L=n)(fc:bB l=n)(hn:n<=1000)(dg:∀r∈L,bB r<=1048576)(x1:aU w ⟨pb,1,ai⟩=ah (aj ta (bB L) tc))(x2:aU w ⟨pb,2,ai⟩=ah dv)(x3:aU w ⟨pb,3,ai⟩=ah lv)(hT:sR w (aj ta (bB L) tc) l)(hD:mB w dv told)(et:bB told<=1048576)(Y:zW w lv L)(E:iE)(hE:wu L E)(hQ:∀x y,qv E x y->eT x y∉told->(∃s t:Tm,l[(eT x y).1]?=ah s∧l[(eT x y).2]?=ah t∧bB s.args=bB t.args∧bB s.args<=4)∧∀q∈iZ l (eT x y),gO E q.1 q.2∧q.1<n∧q.2<n)(g)(hg:gO E g.1 g.2∧g.1<n∧g.2<n)(SF)(hS:yC L told (iZ l) g=ah SF):
  aB prog 93 #[ak (ah ⟨pb,0,ai⟩),.agg #[ae af g.1,ae af g.2]] w λe w'=>∃v,e=aw v∧bD w' w.heap.size 206 10 v (bB SF) (oC SF)∧aC w.heap.size w w':=by
 have HX:=bL (b9 x1 (b9 x2 (b9 x3 (b9 hT (b9 hD Y)))));have HE:=bL (b9 hE (b9 hQ dg));have dC:Hid (∃S G,OS w (bC (bC w (aq #[ae af g.1,ae af g.2] 34)) (aq #[ae af g.1,ae af g.2] 34)) S G (aj ai 0 0) (aj (ah ⟨w.heap.size+1,0,ai⟩) 1 1)∧p9 L told (iZ l) (n*n+2) 0 S G=ah SF∧(G.Nodup∧∀q∈G,gO E q.1 q.2∧q.1<n∧q.2<n)∧bB S<=2*n*0):=by
  refine⟨[],[g],⟨by simpa[oC] using eR _ _ _ _,?_,?_⟩,by rw[<-hS,yC,de],⟨by simp,by simpa using hg⟩,by simp⟩
  .refine⟨rfl,cI ⟨w.heap.size+1,1,#[ae af g.1,ae af g.2],rfl,by omega,?_,bT _,by unfold aY;omega,rfl,rfl⟩⟩;have:=eW (bC w (aq #[ae af g.1,ae af g.2] 34)) (aq #[ae af g.1,ae af g.2] 34);simpa using this
  exact((cW _ _).alloc (bT _) _).alloc bQ _
 clear x1 x2 x3 hT hD Y hE hQ dg hS hg;obtain⟨g1,g2⟩:=g;simp only at *;obtain⟨i0,ds,d1,d2,d3⟩:=eB YU;go_enter func93,ntmps93
 go_wp2_with fail;generalize(bC (bC w (aq #[ae af g1,ae af g2] 34)) (aq #[ae af g1,ae af g2] 34))=w1 at *
 go_loopg[5,6,7] (n*n+2) λk t5 t6 t7 W=>∃i:Nat,t7=ae af i∧Hid (∃S G,OS w W S G t5 t6∧p9 L told (iZ l) k i S G=ah SF∧(G.Nodup∧∀q∈G,gO E q.1 q.2∧q.1<n∧q.2<n)∧bB S<=2*n*i∧i<=bB G)
 case atStart=>grind
 case round=>
  obtain⟨i,rfl,HR⟩:=hrel;clear dC;obtain⟨S,G,hR,o,hG,cm,fb⟩:=HR.out;cases gk with
  |zero=>exact absurd o (by simp[p9])
  |succ k=>
  rw[p9] at o;obtain⟨sa,sc,D⟩:=dZ hR.vT;obtain⟨ga,gc,a5⟩:=dZ hR.grow;subst D a5;have eX:bB G<=1000000:=by have:=xD hG.1 (n:=n) λq hq=>(hG.2 q hq).2;have h2:n*n<=1000*1000:=sm hn hn;omega
  by_cases ao:i<bB G
  .have fj:=fq (a:=i) bO;have dy:2*n*i<=2000*1000000:=sm bO bO;rw[bP ao] at o;simp only at o;obtain⟨c1,c2,c3⟩:=hG.2 _ (dw ao);have T:=nQ hR.grow;obtain⟨a,c,e,T⟩:=T;simp only[fL,mC] at e;obtain⟨rfl,rfl⟩:=e;obtain e|⟨gb,go,rfl,T⟩:=T
   .rw[e] at ao;simp at ao
   obtain⟨q1,q2⟩:=T i _ (bP ao);generalize G[i]=q at *;cases hp:BW L q.1 q.2 with
   |none=>rw[hp] at o;exact absurd o bQ
   |some p=>
   rw[hp] at o;simp only at o;have hM:=iS hR.below;obtain⟨x1,x2,x3,hT,hD,Y⟩:=HX.out;have PA:=Ym (w:=wr.drew) pb ta tc bO HE.out.2.2 (hM _ _ x1) (hM _ _ x3) (Y.mono hM) HE.out.1 c1 bO bO hp;obtain⟨pr,co,b8,_,bR,b7⟩:=FK HE.out.1 c1 bO bO;obtain rfl:q.1::pr=p:=by rw[hp] at co;exact(qG co).symm
   have em:bB (q.1::pr)<=n:=by rw[<-de];exact sK b8 b7
   have HK:=bL (b9 hR (b9 o (b9 hG (b9 cm bR))));obtain⟨qa,qb⟩:=q;simp only at *;clear T hM x1 x2 x3 hT hD Y co b8 b7 hp hR o hG cm bR HR c1 c2 c3;generalize d0:qa::pr=p at *;have c7:=bL d0;clear d0
   go_wp2_with fail
   go_cut[8] from 20 to 31 λt8 wx=>Hid (bD wx w.heap.size 3 1 t8 (bB p) (p.map i64)∧OS w wx S G (aj sa (bB S) sc) (aj (ah ⟨gb,go,ai⟩) (bB G) gc))
   case first=>
    go_region_law(first|(go_simp;go_at_call 140;refine PA.mono ?_;rintro e w5 ⟨pv,rfl,el,J⟩));all_goals
     try simp only[aQ,cD,cw,ct,cf,cN,cK]
     go_wp2_with fail;go_meet
     case rel=>have hz:w.heap.size<=wr.heap.size:=HK.out.1.below.size;exact⟨pB el hz,HK.out.1.under (mV J)⟩
   case rest=>
    clear PA q1 q2;obtain⟨pa,pc,eo⟩:=dZ hcut.out.1;subst eo;have c6:Hid (∃H d,GM w wc H d (aj sa (bB S) sc) (aj (ah ⟨gb,go,ai⟩) (bB G) gc) (aj pa (bB p) pc) p∧iP told (iZ l) qa aK (p.drop 0) H d=iP told (iZ l) qa aK p S G∧(d.Nodup∧∀q∈d,gO E q.1 q.2∧q.1<n∧q.2<n)∧bB H<=2*n*i+2*0∧i<bB d):=⟨S,G,⟨hcut.out.2,hcut.out.1⟩,by rw[lT],HK.out.2.2.1,by have:=HK.out.2.2.2.1;omega,ao⟩
    have ek:1<=bB p:=by rw[<-c7.out];simp
    clear hcut;obtain⟨w4,rfl⟩:=bK wc
    go_wp2_with fail
    go_loopw[5,6,9] (λt5 t6 t9 W=>∃m:Nat,m+1<=bB p∧t9=ae af ((m:Int)+1)∧Hid (∃H d,GM w W H d t5 t6 (aj pa (bB p) pc) p∧iP told (iZ l) qa (aM (m=0)) (p.drop m) H d=iP told (iZ l) qa aK p S G∧(d.Nodup∧∀q∈d,gO E q.1 q.2∧q.1<n∧q.2<n)∧bB H<=2*n*i+2*m∧i<bB d)) λ_ _ t9 _=>bB p-(aG t9).toNat
    case atStart=>exact⟨0,ek,rfl,c6⟩
    case round=>
     obtain⟨m,ej,rfl,HJ⟩:=hrel;clear c6;obtain⟨H,d,Q,N,bc,ad,a6⟩:=HJ.out;obtain⟨d5,d7,D⟩:=dZ Q.st.vT;obtain⟨ag,an,a5⟩:=dZ Q.st.grow;subst D a5;by_cases F:m+1<bB p
     .have dm:aM ((m:Int)+1<(bB p:Int))=aK:=cZ (Dc F);have Z:m<bB p:=yt F;have bj:m<=1048576:=bZ (ir Z) (bZ em (bZ hn bS));have e7:=Dc F;have e8:=Wp m;have e9:=qo Z;have eC:=Zy m;have fd:=Lg bj;have fi:=sD bj;have bi:p.drop m=p[m]::p[m+1]::p.drop (m+2):=by rw[dP Z,dP F]
      rw[bi,iP] at N;have bx:=HK.out.2.2.2.2.at (bP Z) (bP F)
      obtain⟨C,po,fl,e1,k1⟩:=(pQ.tm Q.BS).get (bP Z);obtain⟨e5,fm,e6,e2,k2⟩:=(pQ.tm Q.BS).get (bP F);rw[e1] at e2;simp only[fL,fw,oy,mC,sk] at e1 e2;obtain⟨rfl,rfl⟩:=e1;obtain⟨⟨rfl,rfl⟩,rfl⟩:=e2;have cv:Hid (p.drop (m+1)=p[m+1]::p.drop (m+2)):=dP F;have a9:Hid (p[m]?=ah p[m]∧p[m+1]?=ah p[m+1]):=⟨bP Z,bP F⟩
      generalize p[m]=x at *;generalize p[m+1]=y at *;have OR:∀W,_:=λW=>yN W x y;have hQ:=HE.out.2.1 x y bx;obtain⟨c,hc⟩:=bJ (eT x y);rw[hc] at hQ N;simp only[hc] at OR;have HH:Hid (_∧True∧_∧_∧_∧_):=b9 Q (b9 trivial (b9 N (b9 bc (b9 ad hQ))));clear hc Q N bc ad hQ HJ bx bi;have eu:∀O,aU (bC wr O) ⟨C,po+m,ai⟩=ah (ae af x):=λO=>fF _ k1;have ez:∀O,aU (bC wr O) ⟨C,po+(m+1),ai⟩=ah (ae af y):=λO=>fF _ k2
      go_wp2_with fail
      go_cut[10] from 38 to 47 λe3 wx=>∃lb,e3=ak (ah ⟨lb,0,ai⟩)∧Hid (GM w wx H d (aj d5 (bB H) d7) (aj ag (bB d) an) (aj (ah ⟨C,po,ai⟩) (bB p) pc) p∧Hl wx lb c (aj ag (bB d) an))
      case first=>
       go_region_law(first|(go_simp;go_at_call 79;refine(OR _).mono ?_;rintro e w5 ⟨rfl,J⟩;have f1:=λh=>(GJ J wr.heap.size 0 h).1;have f2:=λh=>(GJ J wr.heap.size 1 h).1;have f3:=λh=>(GJ J wr.heap.size 0 h).2;have f4:=λh=>(GJ J wr.heap.size 1 h).2));all_goals
        try simp only[aQ,cD,cw,ct,cf,cN,cK]
        go_wp2_with fail;go_meet
        case rel=>
         first
         |exact adw HH.out.1 J
         |exact adv HH.out.1 J
      case rest=>
       obtain⟨lb,rfl,HL⟩:=hcut;have y1:=HL.out.2.c0;have y2:=HL.out.2.c1;clear k1 k2 eu ez;obtain⟨w6,rfl⟩:=bK wc;have a0:=iS HL.out.1.st.below;obtain⟨x1,x2,x3,hT,hD,Y⟩:=HX.out;have e4:=a0 _ _ x2;have DC:=C8 w6.drew dv (hD.mono a0) (bZ et bS) c;clear x1 x3 Y x2;have da:Hid (sR w (aj ta (bB L) tc) l):=hT;have ch:Hid _:=b9 a0 (a0 _ _ HX.out.1);clear hT hD a0;apply_assumption;refine wp_seq_k ?_;intro KK fa
       go_cut[5,6,11] from 48 to 66 λt5 t6 _ wx=>Hid (GM w wx (if c∈told then H else H++[(c,iZ l c)]) (if c∈told then d else fK d (iZ l c)) t5 t6 (aj (ah ⟨C,po,ai⟩) (bB p) pc) p∧Hl wx lb c t6)
       case first=>
        by_cases j:c∈told
        .rw[cZ j] at DC;have HI:Hid ((if c∈told then H else H++[(c,iZ l c)])=H∧(if c∈told then d else fK d (iZ l c))=d):=⟨cY j,cY j⟩
         clear j
         go_wp2_with fail
         go_cut[54] from 48 to 53 λcr wx=>cr=.bool aL∧Hid (aC w6.heap.size w6 wx)
         case first=>
          go_region_law(first|(go_simp;go_at_call 133;refine DC.mono ?_;rintro e w7 ⟨rfl,ap⟩));all_goals
           try simp only[aQ,cD,cw,ct,cf,cN,cK]
           go_wp2_with fail;go_meet
           case rel=>exact⟨rfl,mV ap⟩
         case rest=>
          obtain⟨rfl,V⟩:=hcut
          go_wp2_with fail;go_meet
          case rel=>rw[HI.out.1,HI.out.2];exact⟨HL.out.1.under V.out,HL.out.2.under V.out⟩
        rw[cP j] at DC;obtain⟨⟨s,t,hs,ht,cc,cp⟩,be⟩:=HH.out.2.2.2.2.2 j;have HI:Hid ((if c∈told then H else H++[(c,iZ l c)])=H++[(c,iZ l c)]∧(if c∈told then d else fK d (iZ l c))=fK d (iZ l c)):=⟨cC j,cC j⟩
        have HA:=bL (b9 hs (b9 ht (b9 cc cp)));have dk:bB (iZ l c)<=4:=by
         have:bB (iZ l c)=min (bB s.args) (bB t.args):=by simp[iZ,ye,hs,ht]
         rw[this];exact bZ (Nat.min_le_left _ _) cp
        clear j hs ht cc cp be
        go_wp2_with fail
        go_cut[54] from 48 to 53 λcr wx=>cr=.bool aK∧Hid (aC w6.heap.size w6 wx)
        case first=>
         go_region_law(first|(go_simp;go_at_call 133;refine DC.mono ?_;rintro e w7 ⟨rfl,ap⟩));all_goals
          try simp only[aQ,cD,cw,ct,cf,cN,cK]
          go_wp2_with fail;go_meet
          case rel=>exact⟨rfl,mV ap⟩
        case rest=>
         obtain⟨rfl,V⟩:=hcut;have a1:=iS V.out;have d9:=a1 _ _ y1;have dA:=a1 _ _ y2;have AP:=Kg c (a1 _ _ (ch.out.2)) ((da.out.mono ch.out.1).mono a1) s t HA.out.1 HA.out.2.1 HA.out.2.2.1 HA.out.2.2.2;clear y1 y2 DC a1
         go_wp2_with(go_at_call 141;refine AP.mono ?_;rintro e w8 ⟨av,rfl,ba,cj⟩;refine dM ?_);delta aH;have ck:=iS cj;have y1:=ck _ _ d9;have y2:=ck _ _ dA;obtain⟨aa,ac,ec⟩:=dZ ba;subst ec;have NS:=zG w8 c aa ac (iZ l c) (nQ ba) dk;obtain⟨v0,v1,v2,v3,v4,v5,v6,v7,v8,v9,D⟩:=Ea c (iZ l c);rw[D] at NS;have cE:=bL D;have a8:=bL (b9 ba cj);clear D ba cj d9 dA AP ck;generalize b6:bB (iZ l c)=al at *;have ab:=bL b6;clear b6;apply_assumption
         go_wp2_with(go_at_call 142;refine NS.mono ?_;rintro e w9 ⟨rfl,bb⟩;refine dM ?_);delta aH;have R9:=HL.out.1.under (wV (wV V.out a8.out.2) bb);have X9:=HL.out.2.under (wV (wV V.out a8.out.2) bb);have H9:=bL (b9 R9 (b9 bb X9));have ee:w.heap.size<=w9.heap.size:=R9.st.below.size;have a3:bB H<=1000000000000:=bZ HH.out.2.2.2.2.1 (bZ (Nat.add_le_add dy (KG 2 bj)) bS);have eb:bB d<=1000000:=Yp hn HH.out.2.2.2.1;clear NS bb R9 X9 y1 y2;apply_assumption
         go_wp2_with(first|(at_builtin;refine dM ?_));delta aH;refine fX _ rfl _ _ 200 rfl w.heap.size 206 i0 _ 10 80 underlying200 ds d1 d2 d3 rfl bS _ _ _ rfl (H9.out.1.st.vT.alloc _) ⟨_,0,ai⟩ 1 1 [ae af v0,ae af v1,ae af v2,ae af v3,ae af v4,ae af v5,ae af v6,ae af v7,ae af v8,ae af v9] rfl rfl (J1 w9 _ _ _ _ _ _ _ _ _ _ _) cM (UU a3) (UT a3) (bZ ee bQ) ?_;intro vv U M f _ a4;have XV:Hl U lb c (aj ag (bB d) an):=H9.out.2.2.BQ ((cW _ _).alloc (bT _) _) H9.out.1.st.vT f;have RV:GM w U (H++[(c,iZ l c)]) d vv (aj ag (bB d) an) (aj (ah ⟨C,po,ai⟩) (bB p) pc) p:=H9.out.1.BQ ((cW _ _).alloc (bT _) _) (by rw[cE.out];exact M) f;have PV:mB U (.slice aa (bB (iZ l c)) ac) (iZ l c):=by have r8:=a8.out.1;have r9:=ew (ew r8 H9.out.2.1) ((cW w9.heap.size w9).alloc (bT _) (aq #[ae af v0,ae af v1,ae af v2,ae af v3,ae af v4,ae af v5,ae af v6,ae af v7,ae af v8,ae af v9] 206));have s9:=H9.out.1.st.vT.alloc (aq #[ae af v0,ae af v1,ae af v2,ae af v3,ae af v4,ae af v5,ae af v6,ae af v7,ae af v8,ae af v9] 206);rw[ab.out];rw[<-ab.out] at r9⊢;exact nQ (eP r9 λb hb=>f.block b (dI r9 hb).2 λe=>kz r9 s9 bS hb e.symm)
         have dl:∀b d4,aa=ah ⟨b,d4,ai⟩->aP (aT ag (bB d) an)≠ah b:=λb d4 e e2=>by have h1:=(dI HL.out.1.st.grow e2).2;have h2:=V.out.size;have h3:wc.heap.size<=b:=Um a8.out.1 e;omega
         have AD:=zV U w.heap.size RV.st.below.size _ d RV.st.grow aa ac (iZ l c) PV dl (aa7 eb (by rw[ab.out];exact dk));have c9:=bL (b9 RV XV);clear M f a4 RV PV XV H9;rw[ab.out] at AD
         go_wp2_with(go_at_call 89;refine AD.mono ?_;rintro e fp ⟨eL,rfl,ca⟩);go_meet
         case rel=>rw[HI.out.1,HI.out.2];exact⟨c9.out.1.WE ca,c9.out.2.WE ca⟩
       case rest=>
        have be:=HH.out.2.2.2.2.2;have dd:((if c∈told then d else fK d (iZ l c)).Nodup∧∀q∈(if c∈told then d else fK d (iZ l c)),gO E q.1 q.2∧q.1<n∧q.2<n)∧i<bB (if c∈told then d else fK d (iZ l c)):=by
         by_cases j:c∈told
         .rw[cY j];exact⟨HH.out.2.2.2.1,a6⟩
         rw[cC j];obtain⟨r1,r2,⟨u,r3⟩,_⟩:=AX (λq=>gO E q.1 q.2∧q.1<n∧q.2<n) (iZ l c) d HH.out.2.2.2.1.1 HH.out.2.2.2.1.2 (be j).2;exact⟨⟨r1,r2⟩,by rw[r3,cR];exact cQ a6 (Xa _ _)⟩
        have di:bB (if c∈told then H else H++[(c,iZ l c)])<=2*n*i+2*m+1:=by
         have:=HH.out.2.2.2.2.1;by_cases j:c∈told
         .rw[cY j];exact iU this
         rw[cC j,cR];exact Nat.succ_le_succ this
        have cb:=HH.out.2.2.1;have I:=bL hcut.out;generalize(if c∈told then H else H++[(c,iZ l c)])=S2 at *;generalize(if c∈told then d else fK d (iZ l c))=G2 at *;obtain⟨d6,d8,D⟩:=dZ I.out.1.st.vT;obtain⟨dN,ea,a5⟩:=dZ I.out.1.st.grow;subst D a5;have P:=bL (b9 dd (b9 di cb));clear hcut dd di cb be y1 y2 DC e4 ch da HL;by_cases R:m=0
        .have cd:=bL R;have dz:aM ((1:Int)<(m:Int)+1)=aL:=by rw[R];decide
         have eJ:¬(0:Int)<(m:Int):=by rw[R];decide
         have eK:¬0<m:=by rw[R];decide
         clear R;apply_assumption
         go_wp2_with fail;refine⟨⟨m+1,F,J4 m,?_⟩,Jc F⟩;refine⟨S2,G2,I.out.1,?_,P.out.1.1,bZ P.out.2.1 (iD _),P.out.1.2⟩;have:=P.out.2.2;rw[cY (cZ cd.out),gC] at this;rw[cP (Nat.succ_ne_zero m),cv.out];exact this
        have dz:aM ((1:Int)<(m:Int)+1)=aK:=cZ (Yj R);have cd:=bL R;have cn:p[0]?=ah qa:=by rw[<-c7.out];rfl
        have bo:=pQ.tm I.out.1.BS;have ce:Hid (∀W,aC wc.heap.size wc W->aU W ⟨C,po,ai⟩=ah (ae af qa)∧aU W ⟨C,po+m,ai⟩=ah (ae af x)∧aU W ⟨C,po+(m+1),ai⟩=ah (ae af y)∧aU W ⟨lb,0,ai⟩=ah (ae af c.1)∧aU W ⟨lb,1,ai⟩=ah (ae af c.2)):=λW hB=>by
         have a2:=iS hB;obtain⟨b0,o0,c0,e0,z0⟩:=(bo.mono a2).get cn;obtain⟨b1,o1,c1,e1,z1⟩:=(bo.mono a2).get a9.out.1;obtain⟨b2,o2,c2,e2,z2⟩:=(bo.mono a2).get a9.out.2;cases e0
         cases e1
         cases e2
         exact⟨z0,z1,z2,a2 _ _ I.out.2.c0,a2 _ _ I.out.2.c1⟩
        have dc:∀(W:ay)(z:Nat),_:=λW z=>yN W qa z;obtain⟨cy,ei⟩:=bK (eT qa y);obtain⟨cx,eh⟩:=bK (eT qa x);obtain⟨v0,v1,v2,v3,v4,v5,v6,v7,v8,v9,D⟩:=Ea cy [cx,c];have db:∀(X:ay)(bs:Nat),mB X (aj (ah ⟨bs,0,ai⟩) 2 2) [cx,c]->aB prog 142 #[.agg #[ae af cy.1,ae af cy.2],aj (ah ⟨bs,0,ai⟩) 2 2] X λe w'=>e=aw (.agg #[ae af v0,ae af v1,ae af v2,ae af v3,ae af v4,ae af v5,ae af v6,ae af v7,ae af v8,ae af v9])∧aC X.heap.size X w':=λX bs T=>by have:=zG X cy (ah ⟨bs,0,ai⟩) 2 [cx,c] T bQ;rw[D] at this;exact this
        have cE:=bL D;obtain⟨k0,k1,k2,k3,k4⟩:=ce.out _ (cW _ _);have a3:bB S2<=1000000000000:=bZ P.out.2.1 (bZ (Nat.add_le_add (Nat.add_le_add dy (KG 2 bj)) (bT 1)) bS);have eg:w.heap.size<=wc.heap.size:=I.out.1.st.below.size;have eI:0<bB p:=Nat.lt_of_le_of_lt (dt m) Z;have c8:Hid (∀(w7:ay)(vv:aA)(U:ay),aC wc.heap.size wc w7->bD U w.heap.size 206 10 vv (bB S2+1) (oC S2++[ae af v0,ae af v1,ae af v2,ae af v3,ae af v4,ae af v5,ae af v6,ae af v7,ae af v8,ae af v9])->bH (bC w7 (aq #[ae af v0,ae af v1,ae af v2,ae af v3,ae af v4,ae af v5,ae af v6,ae af v7,ae af v8,ae af v9] 206)) U (aP (aT d6 (bB S2) d8))->(aU U ⟨C,po,ai⟩=ah (ae af qa)∧aU U ⟨C,po+m,ai⟩=ah (ae af x)∧aU U ⟨C,po+(m+1),ai⟩=ah (ae af y)∧aU U ⟨lb,0,ai⟩=ah (ae af c.1)∧aU U ⟨lb,1,ai⟩=ah (ae af c.2))∧GM w U (S2++[(cy,[cx,c])]) G2 vv (aj dN (bB G2) ea) (aj (ah ⟨C,po,ai⟩) (bB p) pc) p):=λw7 vv U hB ho hg=>by
         have s7:=I.out.1.BQ (uU hB _) (by rw[D];exact ho) hg;have x7:=I.out.2.BQ (uU hB _) I.out.1.st.vT hg;have a7:=pQ.tm s7.BS;obtain⟨b0,o0,c0,e0,z0⟩:=a7.get cn;obtain⟨b1,o1,c1,e1,z1⟩:=a7.get a9.out.1;obtain⟨b2,o2,c2,e2,z2⟩:=a7.get a9.out.2;cases e0
         cases e1
         cases e2
         exact⟨⟨z0,z1,z2,x7.c0,x7.c1⟩,s7⟩
        subst ei eh;clear R bo cn D;apply_assumption
        go_wp2_with fail
        go_region_held3 (λW=>aU W ⟨C,po,ai⟩=ah (ae af qa)∧aU W ⟨C,po+m,ai⟩=ah (ae af x)∧aU W ⟨C,po+(m+1),ai⟩=ah (ae af y)∧aU W ⟨lb,0,ai⟩=ah (ae af c.1)∧aU W ⟨lb,1,ai⟩=ah (ae af c.2)) (first|exact ce.out _ (by first|assumption|exact oh wc|exact uU (by first|assumption|exact oh wc) _)|assumption) (first|(refine fe rfl (.tmp 69) (.tmp 90) 200 rfl w.heap.size 206 i0 _ 10 80 underlying200 ds d1 d2 d3 rfl bS (aj d6 (bB S2) d8) (bB S2) (oC S2) (by(try simp only[aQ,cD,cw,ct,cf,cN,cK]);first|rfl|(simp[bq];done)) (by exact fT (ew I.out.1.st.vT ci) _) ⟨w7.heap.size,0,ai⟩ 1 1 [ae af v0,ae af v1,ae af v2,ae af v3,ae af v4,ae af v5,ae af v6,ae af v7,ae af v8,ae af v9] (by(try simp only[aQ,cD,cw,ct,cf,cN,cK]);first|rfl|(simp[bq];done)) rfl (J1 w7 _ _ _ _ _ _ _ _ _ _ _) cM (UU a3) (UT a3) (bZ (bZ eg ci.size) bQ) ?_;intro vv U M f a4;have SV:=c8.out w7 vv U ci M f;have dE:=SV.1)|(go_at_call 79;refine(dc _ _).mono ?_;rintro e w5 ⟨rfl,J⟩;have KS:aC wc.heap.size wc w5:=wV (by first|assumption|exact oh wc|exact uU (by first|assumption|exact oh wc) _) J)|(go_at_call 142;refine(db _ _ (by first|exact ZZ _ _ _|exact(ZZ _ _ _).below J)).mono ?_;rintro e w7 ⟨rfl,ap⟩;have ci:aC wc.heap.size wc w7:=wV (by first|assumption|exact oh wc|exact uU (by first|assumption|exact oh wc) _) ap))
        all_goals
         have HF:=bL SV.2;clear SV dE M f a4 c8 ce db dc k0 k1 k2 k3 k4
         go_wp2_with fail;refine⟨⟨m+1,F,J4 m,?_⟩,Jc F⟩;refine⟨_,G2,HF.out,?_,P.out.1.1,?_,P.out.1.2⟩
         .have:=P.out.2.2;rw[cC (by rw[cP cd.out];exact Bool.false_ne_true)] at this;rw[cP (Nat.succ_ne_zero m),cv.out];exact this
         rw[cR];exact Nat.succ_le_succ P.out.2.1
     have dx:m+1=bB p:=Nat.le_antisymm ej (Nat.le_of_not_lt F);have dm:aM ((m:Int)+1<(bB p:Int))=aL:=cP (by rw[<-dx];exact Int.lt_irrefl _);have HF:Hid (∀(W:ay),W=wr->∃S G,OS w W S G (aj d5 (bB H) d7) (aj ag (bB d) an)∧p9 L told (iZ l) k (i+1) S G=ah SF∧(G.Nodup∧∀q∈G,gO E q.1 q.2∧q.1<n∧q.2<n)∧bB S<=2*n*(i+1)∧i+1<=bB G):=λW hW=>by
      subst hW;have bi:p.drop m=[p[m]'bO]:=by rw[dP bO,dx,nz]
      rw[bi,Ly] at N;have o:=HK.out.2.1;rw[<-N] at o;refine⟨H,d,Q.st,o,bc,bZ ad ?_,a6⟩;rw[Nat.mul_succ];omega
     clear Q N bc ad HJ
     go_wp2_with fail
     go_roundg k
     case measure=>exact jG k
     case rel=>obtain⟨S2,G2,h1⟩:=HF.out _ rfl;exact⟨i+1,by simp,S2,G2,h1⟩
  rw[gW bO] at o;have dj:S=SF:=qG o;have HF:Hid (bD wr w.heap.size 206 10 (aj sa (bB S) sc) (bB SF) (oC SF)∧aC w.heap.size w wr):=by
   rw[<-dj];exact⟨hR.vT,hR.below⟩
  clear hR o hG cm HR dj
  go_wp2_with fail;go_ret;exact⟨_,rfl,HF.out.1,HF.out.2⟩
end
section
open Go.MapKept
def wI(p:Pr):Int×Int:=((p.1:Int),(p.2:Int))
def rI(p:Pr):Prop:=p.1<=1048576∧p.2<=1048576
variable{p:Pr}
theorem rI.Xi(h:rI p):Hi (wI p):=by unfold Hi La wI;obtain⟨a,b⟩:=h;simp only;omega
theorem NN{q:Pr}(h:wI p=wI q):p=q:=by grind[wI]
def jX(vs:List (Pr×Nat))(a:Pr):Option Nat:=(vs.find? λe=>decide (e.1=a)).map (·.2)
def pO(W:ay)(vb:Nat)(vs:List (Pr×Nat)):Prop:=∃D,mL W 34 vb D∧Maps.size D<=bB vs∧∀p,rI p->kP D (Dz (wI p)) (jX vs p)
variable{W:ay}{mb:Nat}{vs:List (Pr×Nat)}
theorem pO.keep{W':ay}(h:pO W mb vs)(g:W'.heap[mb]?=W.heap[mb]?):pO W' mb vs:=by obtain⟨D,d,e,f⟩:=h;obtain⟨es,a,b,c⟩:=d;exact⟨D,⟨es,a,g.trans b,c⟩,e,f⟩
theorem pO.lt(h:pO W mb vs):∃es a,W.heap[mb]?=ah (Obj.map es a):=by obtain⟨D,⟨es,a,b,_⟩,_⟩:=h;exact⟨es,a,b⟩
theorem pO.new(W:ay):pO (bC W (.map #[] 0)) W.heap.size []:=by have a:=jC (H:=Unit) W prog 34 (plainElem prog 3);exact⟨.map [],jP a,dt _,λp _=>⟨rfl,rfl⟩⟩
theorem pO.look(h:pO W mb vs)(hp:rI p):(Instr.lookup 113 (.map (ah mb)) (.agg #[iz p.1,iz p.2]) aK).run prog W=.ok (.tuple #[iz (((jX vs p).getD 0:Nat):Int),.bool (jX vs p).isSome]) W:=by obtain⟨D,a,c,b⟩:=h;have:=(b p hp).look a wJ underlying113 (my hp.Xi);grind[nG,wI]
theorem pO.Jf(h:pO W mb vs)(hp:rI p):(Instr.lookup 113 (.map (ah mb)) (.agg #[iz p.1,iz p.2]) aL).run prog W=.ok (iz (((jX vs p).getD 0:Nat):Int)) W:=by obtain⟨D,a,c,b⟩:=h;have:=kP.Jf a (b p hp) wJ underlying113 (my hp.Xi);grind[nG,wI]
theorem PX(k a n)(h:jX vs k=ai):jX (vs++[(k,n)]) a=if a=k then ah n else jX vs a:=by unfold jX at *;grind
theorem pO.store(h:pO W mb vs)(hp:rI p)(d:jX vs p=ai){n:Nat}(r:n<=1048576)(k:bB vs<1000000):
  ∃c,(Instr.mapUpdate 113 (.map (ah mb)) (.agg #[iz p.1,iz p.2]) (iz n)).run prog W=.ok () c∧pO c mb (vs++[(p,n)])∧dV mb W c:=by
 obtain⟨D,g,q,j⟩:=h;let⟨o,i,m,a⟩:=ke g wJ underlying113 cJ (my hp.Xi) (ou (H:=Unit) underlying3 (nw (n:=(n:Int)) bO));have b:=gT g wJ;simp only[nG,wI] at i;refine⟨o,i,⟨_,jP m,?_,λu f=>?_⟩,jw a.grown⟩
 .grind[size_put,List.length_append,List.length_singleton]
 rw[PX _ _ n d];by_cases e:u=p
 .subst e;rw[cY rfl];let⟨s,e,l⟩:=xB f.Xi;rw[e];exact tS b.isMap l n
 rw[cC e];exact(j u f).n9 (λx=>e (NN (xC f.Xi hp.Xi x))) _
end
section
open Go.MapKept
def ab9:(206:aE)<prog.types.size:=ft bV
def Nv:prog.cellsOf 206=10:=bV
def Tj:prog.cellsOf 204=8:=bV
def Pp:prog.keyType 206=aK:=bV
def XQ:prog.keyTypeAt 5 206=aK:=bV
theorem Is:Keyed prog 206:=Dr (deep_law_laid Ii (m:=5) bO ab9 XQ (by rw[underlying206]))
def nV(l:List Nat):aA:=.agg (l.map λn:Nat=>aS .i64 n).toArray
def qg(c:Pr)(ps:List Pr):List Nat:=[c.1,c.2]++(kU ps).flatMap λp=>[p.1,p.2]
theorem o6(c ps):rF c ps=(qg c ps).map (λn:Nat=>aS .i64 n):=by simp only[rF,qg,OD,lj,fZ,List.map_flatMap,iG,nZ];rfl
theorem xE(ps):∃a b c d,kU ps=[a,b,c,d]:=by
 match ps with
 | []=>exact⟨_,_,_,_,rfl⟩
 | [a]=>exact⟨_,_,_,_,rfl⟩
 | [a,b]=>exact⟨_,_,_,_,rfl⟩
 | [a,b,c]=>exact⟨_,_,_,_,rfl⟩
 |a::b::c::d::r=>exact⟨a,b,c,d,by simp[kU]⟩
theorem sO(c ps):∃f x1 x2 x3 g i l m n o,qg c ps=[f,x1,x2,x3,g,i,l,m,n,o]:=by let⟨a,b,d,e,h⟩:=xE ps;simp_all[qg]
theorem QT{c g:Pr}{ps f:List Pr}(h:qg c ps=qg g f):c=g∧kU ps=kU f:=by let⟨a,b,d,e,o⟩:=xE ps;let⟨i,l,m,n,p⟩:=xE f;grind[qg]
def Dw{n:Nat}(h:n<=1048576):(Lit.int .i64 n).wf=aK:=nw bO
theorem SX(a x1 x2 x3 b c d e f g)(h:∀x∈[a,x1,x2,x3,b,c,d,e,f,g],x<=1048576):∃kl,keyOf prog 206 (nV [a,x1,x2,x3,b,c,d,e,f,g])=ah kl:=by
 have g0:=Dw (h a bQ);have l:=Dw (h x1 bQ);have n:=Dw (h x2 bQ);have o:=Dw (h x3 bQ);have p:=Dw (h b bQ);have q:=Dw (h c bQ);have r:=Dw (h d bQ);have s:=Dw (h e bQ);have t:=Dw (h f bQ);have u:=Dw (h g bQ);have v:(nV [a,x1,x2,x3,b,c,d,e,f,g]).formed prog 206=aK:=by simp[nV,Value.formed,underlying206,Nv]
 unfold keyOf;rw[underlying206];simp only[Pp,v];obtain⟨m,w⟩:∃m,prog.types.size+1=m+5:=⟨prog.types.size-4,by simp_all⟩
 rw[w];have y:aO 4=[0,1,2,3]:=rfl;simp[Program.keyLits,underlying206,underlying204,underlying34,underlying3,Nv,Tj,Mb,xw,nV,Value.cells,y,g0,l,n,o,p,q,r,s,t,u];repeat rw[cY (by intro i x;obtain rfl|rfl:=(by omega:i=0∨i=1)<;>simp)]
 exact⟨_,rfl⟩
def DM(k:Pr×List Pr):Prop:=rI k.1∧∀q∈k.2,rI q
def LH(k:Pr×List Pr):aA:=.agg (rF k.1 k.2).toArray
variable{k j:Pr×List Pr}
theorem XO(h:DM k):∃kl,keyOf prog 206 (LH k)=ah kl:=by
 let⟨c,x1,x2,x3,d,f,g,i,l,m,e⟩:=sO k.1 k.2;have hs:∀x∈qg k.1 k.2,x<=1048576:=λx a=>by
  simp only[qg,cU,lI] at a;obtain a|⟨p,hp,a⟩:=a
  .simp at a;obtain rfl|rfl:=a
   .exact h.1.1
   exact h.1.2
  have b:rI p:=by
   unfold kU at hp;obtain hp|hp:=cU.1 (je hp)
   .exact h.2 p hp
   rw[ac4 hp];exact⟨by simp,by simp⟩
  simp at a;obtain rfl|rfl:=a
  .exact b.1
  exact b.2
 rw[e] at hs;have:=SX c x1 x2 x3 d f g i l m hs;unfold LH;rw[o6,e];exact this
noncomputable def we(k:Pr×List Pr):Lit:=(keyOf prog 206 (LH k)).getD (.bool aL)
theorem uu(h:DM k):keyOf prog 206 (LH k)=ah (we k):=by grind[we,XO]
theorem XP(h:LH k=LH j):k.1=j.1∧kU k.2=kU j.2:=by unfold LH at h;rw[o6,o6] at h;let⟨b,x1,x2,x3,c,d,f,g,i,l,e⟩:=sO k.1 k.2;let⟨m,n,o,p,q,r,s,t,u,v,a⟩:=sO j.1 j.2;refine QT ?_;rw[e,a] at h⊢;simp at h;grind
theorem Pg(b:DM k)(a:DM j)(h:we k=we j):k.1=j.1∧kU k.2=kU j.2:=
 XP (Is.inj (uu b) (by rw[h];exact uu a))
theorem Pe(a:DM k):∃l,we k=l∧WideAt.IsKeyLit l:=by have h:=uu a;generalize we k=l at h;exact⟨l,rfl,Is.key h⟩
end
section
open Go.MapKept
def zC(w:ay)(k:aE)(b:Nat)(D:DataW Unit):Prop:=w.ownsMap prog k unitElem b (Maps.size D) D
variable{w W W':ay}{k t:aE}{b mb:Nat}{D:DataW Unit}
theorem BE{n:Nat}(h:w.ownsMap prog k unitElem b n D):zC w k b D:=by obtain⟨es,a,c,F,hs,rfl⟩:=h;exact⟨es,a,c,F,by simp[Maps.size,length_sorted],rfl⟩
def ZP(w):(zeroValue 162).run prog w=.ok (.agg #[]) w:=zeroValue162 w
variable{key:aA}{kl:Lit}
theorem zC.look(h:zC w k b D)(K:Keyed prog k)(d:prog.underlying t=ah (.map k 162))(a:keyOf prog k key=ah kl):
  (Instr.lookup t (.map (ah b)) key aK).run prog w=.ok (.tuple #[.agg #[],.bool (Maps.has D kl)]) w:=by
 let⟨v,ps,c,e⟩:=World.ownsMap.look_ok h K d (ZP w) unitElem_mk a;grind[unitElem_inv]
theorem zC.store(h:zC w k b D)(K:Keyed prog k)(i:prog.underlying t=ah (.map k 162))(e:Maps.size D<aY)(c:keyOf prog k key=ah kl):
  ∃d,(Instr.mapUpdate t (.map (ah b)) key (.agg #[])).run prog w=.ok () d∧zC d k b (D.put kl (.agg []))∧dV b w d:=by
 let⟨d,g,f,a⟩:=ke h K i e c (unitElem_mk (H:=Unit));exact⟨d,g,BE f,jw a.grown⟩
def ue(W:ay)(kb:Nat)(ks:List (Pr×List Pr)):Prop:=∃D,zC W 206 kb D∧Maps.size D<=bB ks∧∀k,DM k->Maps.has D (we k)=aM ((k.1,kU k.2)∈ks)
variable{ks:List (Pr×List Pr)}
theorem ue.keep(h:ue W mb ks)(i:W'.heap[mb]?=W.heap[mb]?):ue W' mb ks:=by obtain⟨D,e,f,g⟩:=h;obtain⟨es,a,c,d⟩:=e;exact⟨D,⟨es,a,i.trans c,d⟩,f,g⟩
theorem ue.lt(h:ue W mb ks):∃es a,W.heap[mb]?=ah (Obj.map es a):=by obtain⟨D,⟨es,a,c,_⟩,_⟩:=h;exact⟨es,a,c⟩
theorem ue.new(W:ay):ue (bC W (.map #[] 0)) W.heap.size []:=by have a:=jC (H:=Unit) W prog 206 unitElem;exact⟨.map [],BE a,dt _,λk _=>rfl⟩
theorem ue.look(h:ue W mb ks){k:Pr×List Pr}(c:DM k):(Instr.lookup 114 (.map (ah mb)) (LH k) aK).run prog W=.ok (.tuple #[.agg #[],.bool (aM ((k.1,kU k.2)∈ks))]) W:=by obtain⟨D,a,d,e⟩:=h;have:=a.look Is underlying114 (uu c);grind
theorem ue.store(h:ue W mb ks){k:Pr×List Pr}(f:DM k)(p:bB ks<1000000000000):
  ∃d,(Instr.mapUpdate 114 (.map (ah mb)) (LH k) (.agg #[])).run prog W=.ok () d∧ue d mb (ks++[(k.1,kU k.2)])∧dV mb W d:=by
 obtain⟨D,i,x,l⟩:=h;let⟨v,s,r,o⟩:=i.store Is underlying114 cJ (uu f);have c:=gT i Is;refine⟨v,s,⟨_,r,?_,λu j=>?_⟩,o⟩
 .grind[size_put,List.length_append,List.length_singleton]
 by_cases e:we u=we k
 .let⟨m,a⟩:=Pg j f e;rw[m,a,cZ bQ,e];let⟨y,n,g⟩:=Pe f;rw[n];exact has_put_same c.isMap g _
 rw[has_put_other e,l u j];have q:¬(u.1,kU u.2)=(k.1,kU k.2):=λa=>e (by
  unfold we;have:LH u=LH k:=by unfold LH;rw[o6,o6,qg,qg];simp only[jr] at a;rw[a.1,a.2]
  rw[this])
 grind
def ud(W:ay)(mb:Nat)(ms:List Pr):Prop:=∃D,zC W 34 mb D∧Maps.size D=bB ms∧∀p,rI p->Maps.has D (Dz (wI p))=aM (p∈ms)
theorem ud.new(W:ay):ud (bC W (.map #[] 0)) W.heap.size []:=by have a:=jC (H:=Unit) W prog 34 unitElem;exact⟨.map [],BE a,rfl,λk _=>rfl⟩
variable{ms:List Pr}
theorem ud.keep(h:ud W mb ms)(i:W'.heap[mb]?=W.heap[mb]?):ud W' mb ms:=by obtain⟨D,e,f,g⟩:=h;obtain⟨es,a,c,d⟩:=e;exact⟨D,⟨es,a,i.trans c,d⟩,f,g⟩
theorem ud.lt(h:ud W mb ms):∃es a,W.heap[mb]?=ah (Obj.map es a):=by obtain⟨D,⟨es,a,c,_⟩,_⟩:=h;exact⟨es,a,c⟩
theorem ud.len(h:ud W mb ms)(a:aE):(Builtin.len_ #[250] a #[.map (ah mb)]).run prog W=.ok (iz (bB ms)) W:=by obtain⟨D,c,d,e⟩:=h;have:=World.ownsMap.len c underlying250 a;rw[d] at this;exact this
theorem ud.store(h:ud W mb ms){p:Pr}(hp:rI p)(n:bB ms<1000000000000):
  ∃c,(Instr.mapUpdate 250 (.map (ah mb)) (.agg #[iz p.1,iz p.2]) (.agg #[])).run prog W=.ok () c∧ud c mb (fK ms [p])∧dV mb W c:=by
 obtain⟨D,f,r,j⟩:=h;let⟨q,g,o,m⟩:=f.store wJ underlying250 cJ (my hp.Xi);have a:=gT f wJ;simp only[nG,wI] at g;let⟨s,l,d⟩:=xB hp.Xi;refine⟨q,g,⟨_,o,?_,λu i=>?_⟩,m⟩
 .grind[fK,size_put]
 by_cases e:u=p
 .subst e;have:u∈fK ms [u]:=by grind[fK]
  rw[cZ this,l];exact has_put_same a.isMap d _
 rw[has_put_other λx=>e (NN (xC i.Xi hp.Xi x)),j u i];grind[fK]
end
section
def Ek(bk tv fv:aA)(vb n:Nat)(lv:aA)(kb:Nat):Nat->aA:=λj=>if j=0 then bk else if j=1 then tv else if j=2 then fv else if j=3 then .map (ah vb) else if j=4 then ae af n else if j=5 then lv else .map (ah kb)
structure Pm(S:Nat->Prop)(W:ay)(pb vb kb:Nat)(bk tv fv lv:aA)(P:Pb):Prop where
 cells:bE W pb 118 7 (Ek bk tv fv vb P.count lv kb)
 vars:pO W vb P.vars
 known:ue W kb P.known
 vk:vb≠kb
 lt:∀k,S k->k<W.heap.size
 rows:∃rs:List aA,bD W 0 39 1 lv (bB rs) rs∧bB rs=bB P.lemmas∧∀(i:Nat)(c:List Int),P.lemmas[i]?=ah c->∃g cap,rs[i]?=ah (aj (ah ⟨g,0,ai⟩) (bB c) cap)∧S g∧Rw W g c
def PD(pb vb kb:Nat)(lv:aA)(k:Nat):Prop:=k=pb∨k=vb∨k=kb∨aP lv=ah k
structure pY(S:Nat->Prop)(w:ay)(S':Nat->Prop)(W:ay)(pb vb kb:Nat)(bk tv fv lv lv':aA)(P':Pb):Prop where
 is:Pm S' W pb vb kb bk tv fv lv' P'
 new:∀k,S' k->S k∨w.heap.size<=k
 kept:bI (PD pb vb kb lv) w W
 at_:aP lv'=aP lv∨∀k,aP lv'=ah k->w.heap.size<=k
variable{S S2 S':Nat->Prop}{w W W' W2:ay}{pb vb kb g n base x0 x1 x2 x3 x4 x5 x6 x7 x8 x9 sb:Nat}{bk tv fv lv v lv':aA}{P P':Pb}
def pY.start(h:Pm S w pb vb kb bk tv fv lv P):pY S w S w pb vb kb bk tv fv lv lv P:=⟨h,λ_=>cB,bW _ _,cB rfl⟩
def An:=@pY.start
theorem pY.trans{S1:Nat->Prop}{o p:ay}{f h:aA}{q m:Pb}(a:pY S w S1 o pb vb kb bk tv fv lv f q)(b:pY S1 o S2 p pb vb kb bk tv fv f h m):pY S w S2 p pb vb kb bk tv fv lv h m:=by
 have l:=a.kept.size;refine⟨b.is,λk i=>(b.new k i).elim (λe=>a.new k e) λe=>cI (bZ l e),⟨b.kept.os.trans a.kept.os,b.kept.tape.trans a.kept.tape,b.kept.output.trans a.kept.output,bZ l b.kept.size,λk i d=>?_⟩,?_⟩
 .refine(b.kept.block k (cQ i l) ?_).trans (a.kept.block k i d);rintro(e|e|e|e)
  .exact d (cB e)
  .exact d (cI (cB e))
  .exact d (cI (cI (cB e)))
  obtain j|j:=a.at_
  .exact d (cI (cI (cI (by rw[<-j];exact e))))
  have:=j k e;omega
 obtain e|e:=b.at_
 .rw[e];exact a.at_
 grind
variable{c:List Int}
theorem Rw.N8(h:Rw W g c){k:Nat}{es:_}{a:_}(d:W.heap[k]?=ah (Obj.map es a)):g≠k:=by obtain⟨N,F,_,b,_⟩:=h;exact λe=>iW b d e.symm
variable{t:aE}
theorem Rw.Er(h:Rw W g c){b:Nat}{f:Nat->aA}(d:bE W b t n f)(e:t≠3):g≠b:=by obtain⟨N,F,_,a,_⟩:=h;exact mS a d e.symm
variable{xs:List aA}
theorem Rw.uK(h:Rw W g c){size:Nat}(b:bD W base t size v n xs)(d:t≠3):aP v≠ah g:=by obtain⟨N,F,_,a,_⟩:=h;exact dY a d.symm b
theorem Pm.keep(h:Pm S W pb vb kb bk tv fv lv P)(hs:W.heap.size<=W'.heap.size)(f:W'.heap[pb]?=W.heap[pb]?)(j:W'.heap[vb]?=W.heap[vb]?)(l:W'.heap[kb]?=W.heap[kb]?)(m:∀b,aP lv=ah b->W'.heap[b]?=W.heap[b]?)(o:∀g c,S g->Rw W g c->W'.heap[g]?=W.heap[g]?):Pm S W' pb vb kb bk tv fv lv P:=by let⟨y,s,u,x⟩:=h.rows;refine⟨h.cells.of_block f,h.vars.keep j,h.known.keep l,h.vk,λk q=>cQ (h.lt k q) hs,y,eP s m,u,λi c p=>?_⟩;let⟨g,a,r,d,e⟩:=x i c p;exact⟨g,a,r,d,e.block (o g c d e)⟩
theorem Pm.below(h:Pm S W pb vb kb bk tv fv lv P)(a:aC W.heap.size W W'):Pm S W' pb vb kb bk tv fv lv P:=by let⟨es,o,e⟩:=h.vars.lt;let⟨i,d,f⟩:=h.known.lt;let⟨p,m,_⟩:=h.rows;exact h.keep a.size (a.block _ h.cells.lt) (a.block _ (bY.1 e).1) (a.block _ (bY.1 f).1) (λb j=>a.block b (dI m j).2) λg c _ l=>a.block g l.lt
def pY.below(h:pY S w S' W pb vb kb bk tv fv lv lv' P)(a:aC W.heap.size W W'):pY S w S' W' pb vb kb bk tv fv lv lv' P:=⟨h.is.below a,h.new,h.kept.under a,h.at_⟩
theorem pY.wider(h:pY S w S' W pb vb kb bk tv fv lv lv' P)(j:∀k,S' k->S2 k)(a:∀k,S2 k->S k∨w.heap.size<=k)(b:∀k,S2 k->k<W.heap.size):pY S w S2 W pb vb kb bk tv fv lv lv' P:=by let⟨f,d,e,m⟩:=h.is.rows;refine⟨⟨h.is.cells,h.is.vars,h.is.known,h.is.vk,b,f,d,e,λi c l=>?_⟩,a,h.kept,h.at_⟩;grind
theorem Pm.said{x d:ay}{f:aA}(h:Pm S w pb vb kb bk tv fv lv P){D:List aA}{u:Nat}(U:bB D=bB P.lemmas∧∀(i:Nat)(c:List Int),P.lemmas[i]?=ah c->∃g u,D[i]?=ah (aj (ah (az g 0)) (bB c) u)∧S g∧Rw w g c)(Z:Rw w g c)(I:bD w 0 39 1 lv (bB D) D)(o:aC w.heap.size w x)(q:bD d 0 39 1 f (bB D+1) (D++[aj (ah (az g 0)) (bB c) u]))(a:bH x d (aP lv))(R:aP f=aP lv∨∀k,aP f=ah k->x.heap.size<=k):
  cz d pb 5 lv∧bG d (az pb 5)=aL∧Pm (λk=>S k∨k=g) (aW d (az pb 5) f) pb vb kb bk tv fv f {P with lemmas:=P.lemmas++[c]}∧bI (PD pb vb kb lv) w (aW d (az pb 5) f)∧(aP f=aP lv∨∀k,aP f=ah k->w.heap.size<=k):=by
 have z:=h.below o;have m:=ew I o;let⟨es,Y,N⟩:=z.vars.lt;let⟨Q,M,O⟩:=z.known.lt;have r:∀k,k<hz x->aP lv≠ah k->d.heap[k]?=x.heap[k]?:=λk l A=>a.block k l λe=>A e.symm;have hp:aP lv≠ah pb:=dY z.cells bS m;have y:bE d pb 118 7 (Ek bk tv fv vb P.count lv kb):=z.cells.of_block (r _ z.cells.lt hp);have L:=r vb (bY.1 N).1 (iL m N);have J:=r kb (bY.1 O).1 (iL m O);have E:bI (λk=>k=pb) d (aW d (az pb 5) f):=eY (S:=λk=>k=pb) (bW _ d) (p:=az pb 5) rfl f;have s:∀k,k<hz d->k≠pb->(aW d (az pb 5) f).heap[k]?=d.heap[k]?:=λk l A=>E.block k l A;have F:d.heap[vb]?=ah (Obj.map es Y):=L.trans N;have G:d.heap[kb]?=ah (Obj.map Q M):=J.trans O;have T:aP f≠ah pb:=dY y bS q;have aa:∀{g:Nat}{c:List Int},Rw w g c->Rw (aW d (az pb 5) f) g c:=λ{g c} hr=>by have B:Rw x g c:=hr.block (o.block g hr.lt);have C:Rw d g c:=B.block (r g B.lt (B.uK m bS));exact C.block (s g C.lt (C.Er y bS))
 refine⟨y.cell (i:=5) bO,y.frozen 5,⟨?_,?_,?_,h.vk,λk l=>?_,D++[aj (ah (az g 0)) (bB c) u],?_,by simp[U.1],λi c' hi=>?_⟩,?_,?_⟩
 .refine(y.set 5 f).congr λj hj=>?_;grind[Ek]
 .exact(z.vars.keep L).keep (s vb (bY.1 F).1 (iW y F))
 .exact(z.known.keep J).keep (s kb (bY.1 G).1 (iW y G))
 .have hz:(hz w)<=(aW d (az pb 5) f).heap.size:=bZ o.size (bZ a.size E.size);obtain l|l:=l
  .exact cQ (h.lt k l) hz
  rw[l];exact cQ Z.lt hz
 .have:=eP q (W':=aW d (az pb 5) f) λb V=>s b (dI q V).2 λe=>T (e▸V);simpa using this
 .grind
 .refine⟨E.os.trans (a.os.trans o.os),E.tape.trans (a.tape.trans o.tape),E.output.trans (a.output.trans o.output),bZ o.size (bZ a.size E.size),λk l X=>?_⟩;have H:k<hz x:=cQ l o.size;rw[s k (cQ H a.size) λe=>X (cB e),r k H λe=>X (cI (cI (cI e))),o.block k l]
 exact R.imp id λe k l=>bZ o.size (e k l)
theorem Gs{S}(w){pb vb kb}{bk tv fv lv}{P}(h:Pm S w pb vb kb bk tv fv lv P)(hl:bB P.lemmas<=1000000000)(g d c)(x:Rw w g c):
  aB prog 122 #[pz pb,aj (ah (az g 0)) (bB c) d] w λe B=>e=aw (.tuple #[])∧∃lv',Pm (λk=>S k∨k=g) B pb vb kb bk tv fv lv' {P with lemmas:=P.lemmas++[c]}∧bI (PD pb vb kb lv) w B∧(aP lv'=aP lv∨∀k,aP lv'=ah k->w.heap.size<=k):=by
 let⟨A,j,y,z⟩:=h.rows;let⟨G,H,o⟩:=dZ j;subst o;have c5:cz w pb 5 (aj G (bB A) H):=h.cells.cell (i:=5) bO;let⟨F,m,q,r,s⟩:=eB Ey;have l:=bL (b9 h (b9 (b9 y z) (b9 x j)));have E:bB A<=1000000000:=bO
 clear h y z x hl;go_enter func122,ntmps122
 go_wp2_with(first|(at_builtin;refine dM ?_));delta aH;refine fX _ rfl _ _ 116 rfl 0 39 F _ 1 24 underlying116 m q r s rfl bS _ _ _ rfl (j.alloc _) (az _ 0) 1 1 [aj (ah (az g 0)) (bB c) d] rfl rfl (ph w _ _) cM cJ bO bQ ?_;intro N O a b _ f;let⟨I,J,D⟩:=l.out.1.said l.out.2.1 l.out.2.2.1 j ((cW _ _).alloc (bT _) _) a b (f.imp id λe k M=>by grind);let⟨L,u,p⟩:=ownsRow_succ a;have C:=bL D;subst p
 go_wp2;refine⟨rfl,.tuple #[],by simp[aI,results122],rfl,?_⟩;exact⟨_,C.out⟩
theorem Pm.count(h:Pm S W pb vb kb bk tv fv lv P)(n:Nat):pY S W S (aW W (az pb 4) (iz n)) pb vb kb bk tv fv lv lv {P with count:=n}:=by
 have a:bI (λk=>k=pb) W (aW W (az pb 4) (iz n)):=eY (S:=λk=>k=pb) (bW _ W) (p:=az pb 4) rfl _;let⟨es,D,m⟩:=h.vars.lt;let⟨s,r,o⟩:=h.known.lt;let⟨C,l,A,B⟩:=h.rows;refine⟨⟨?_,h.vars.keep (a.block _ (bY.1 m).1 (iW h.cells m)),h.known.keep (a.block _ (bY.1 o).1 (iW h.cells o)),h.vk,λk x=>cQ (h.lt k x) a.size,C,eP l λb q=>a.block b (dI l q).2 λe=>dY h.cells bS l (e▸q),A,λi c u=>?_⟩,λ_=>cB,a.mono λ_ _ e=>cB e,cB rfl⟩
 .refine(h.cells.set 4 _).congr λj E=>?_;grind[Ek]
 let⟨g,d,z,y,f⟩:=B i c u;exact⟨g,d,z,y,f.block (a.block g f.lt (f.Er h.cells bS))⟩
theorem Pm.put(h:Pm S W pb vb kb bk tv fv lv P){o:List (Pr×Nat)}(x:pO W2 vb o)(a:dV vb W W2):pY S W S W2 pb vb kb bk tv fv lv lv {P with vars:=o}:=by let⟨es,D,f⟩:=h.vars.lt;let⟨r,p,q⟩:=h.known.lt;let⟨C,l,A,B⟩:=h.rows;refine⟨⟨h.cells.of_block (a.block _ h.cells.lt λe=>iW h.cells f e.symm),x,h.known.keep (a.block _ (bY.1 q).1 λe=>h.vk e.symm),h.vk,λk u=>cQ (h.lt k u) a.size,C,eP l λb m=>a.block b (dI l m).2 λe=>iL l f (e▸m),A,λi c s=>?_⟩,λ_=>cB,a.mono λ_ _ e=>cI (cB e),cB rfl⟩;let⟨g,d,z,y,j⟩:=B i c s;exact⟨g,d,z,y,j.block (a.block g j.lt (j.N8 f))⟩
theorem Pm.acu(h:Pm S W pb vb kb bk tv fv lv P){ks:List (Pr×List Pr)}(u:ue W2 kb ks)(a:dV kb W W2):pY S W S W2 pb vb kb bk tv fv lv lv {P with known:=ks}:=by let⟨es,C,p⟩:=h.vars.lt;let⟨q,o,f⟩:=h.known.lt;let⟨B,l,z,A⟩:=h.rows;refine⟨⟨h.cells.of_block (a.block _ h.cells.lt λe=>iW h.cells f e.symm),h.vars.keep (a.block _ (bY.1 p).1 h.vk),u,h.vk,λk s=>cQ (h.lt k s) a.size,B,eP l λb m=>a.block b (dI l m).2 λe=>iL l f (e▸m),z,λi c r=>?_⟩,λ_=>cB,a.mono λ_ _ e=>cI (cI (cB e)),cB rfl⟩;let⟨g,d,y,x,j⟩:=A i c r;exact⟨g,d,y,x,j.block (a.block g j.lt (j.N8 f))⟩
theorem Gq{S}(w){pb vb kb}{bk tv fv lv}{P}(h:Pm S w pb vb kb bk tv fv lv P)(hl:bB P.lemmas<=100000000)(Q:P.count<1000000)(hv:bB P.vars<1000000)(a)(X:rI a):
  aB prog 80 #[pz pb,.agg #[iz a.1,iz a.2]] w λe w'=>e=aw (iz ((P.fD a).1:Int))∧∃S' lv',pY S w S' w' pb vb kb bk tv fv lv lv' (P.fD a).2:=by
 have z:=h.below ((cW _ _).alloc (bT _) (aq #[iz a.1,iz a.2] 34));have x0:pY S w S (bC w (aq #[iz a.1,iz a.2] 34)) pb vb kb bk tv fv lv lv P:=(pY.start h).below ((cW _ _).alloc (bT _) _);have F:=ey w #[iz a.1,iz a.2] 34;have y1:=F.cell (i:=0) bQ;have y2:=F.cell (i:=1) bQ;have c3:aU (bC w (aq #[iz a.1,iz a.2] 34)) (az pb 3)=ah (.map (ah vb)):=z.cells.cell (i:=3) bO;have A:∀m,_:=λm=>(show pO (bF (bC w (aq #[iz a.1,iz a.2] 34)) m) vb P.vars from z.vars.keep rfl).look X;have b:P.num a=jX P.vars a:=rfl;cases r:jX P.vars a with
 |some x=>
  rw[r] at A;have B:P.fD a=(x,P):=by unfold Pb.fD;rw[b,r]
  rw[B];have u:=bL x0;simp only[eQ,iM] at A;clear x0 z h F r b B;go_enter func80,ntmps80
  go_wp2;go_quiet(fail)
  go_wp2;go_ret;exact⟨rfl,S,lv,u.out.below ⟨rfl,rfl,rfl,bT _,λ_ _=>rfl⟩⟩
 |none=>
  rw[r] at A;have B:P.fD a=(P.count+1,{P with count:=P.count+1,vars:=P.vars++[(a,P.count+1)],lemmas:=if a.1=a.2 then P.lemmas++[[((P.count+1:Nat):Int)]] else P.lemmas}):=by unfold Pb.fD;rw[b,r]
  have HE:=bL B;have HN:=bL r;have u:=bL x0;simp only[pT,kJ] at A;have c4:aU (bC w (aq #[iz a.1,iz a.2] 34)) (az pb 4)=ah (iz P.count):=z.cells.cell (i:=4) bO;have f4:=z.cells.frozen 4;have ad:=fq (a:=P.count) bO;clear x0 z h F r b B;go_enter func80,ntmps80
  go_wp2;go_quiet(fail)
  go_wp2;have I:pY S w S (bF (bC w (aq #[iz a.1,iz a.2] 34)) nq) pb vb kb bk tv fv lv lv P:=u.out.below ⟨rfl,rfl,rfl,bT _,λ_ _=>rfl⟩;have l:=I.trans (I.is.count (P.count+1));have d:((P.count+1:Nat):Int)=(P.count:Int)+1:=bQ
  rw[d] at l;have Y:¬pb=w.heap.size:=by
   let⟨c,Q,_⟩:=u.out.is.cells;have:=u.out.kept.size
   intro e;rw[e,eW] at Q;cases Q
  have b1:bE (aW (bF (bC w (aq #[iz a.1,iz a.2] 34)) nq) (az pb 4) (iz ((P.count:Int)+1))) w.heap.size 34 2 (λj=>if j=0 then iz a.1 else iz a.2):=by
   have R:bE (bF (bC w (aq #[iz a.1,iz a.2] 34)) nq) w.heap.size 34 2 (λj=>if j=0 then iz a.1 else iz a.2):=by
    refine eO (ey w #[iz a.1,iz a.2] 34) λj hj=>?_;have:j=0∨j=1:=bO
    grind
   refine R.of_block ?_;simp only[aW];grind
  generalize(aW (bF (bC w (aq #[iz a.1,iz a.2] 34)) nq) (az pb 4) (iz ((P.count:Int)+1)))=s at *;have aa:cz s pb 3 (.map (ah vb)):=l.is.cells.cell (i:=3) bO;have ab:aU s (az pb 4)=ah (iz ((P.count:Int)+1)):=by have:=l.is.cells.cell (i:=4) bO;rw[this];simp[Ek]
  have z1:cz s w.heap.size 0 (iz a.1):=b1.cell (i:=0) bO;have z2:cz s w.heap.size 1 (iz a.2):=b1.cell (i:=1) bO;let⟨y,T,D,p⟩:=(show pO s.drew vb P.vars from l.is.vars.keep rfl).store X HN.out (n:=P.count+1) bO hv;rw[d] at T;have J:=l.trans ((l.is.below (oh s)).put D p |> λq=>(⟨q.is,q.new,⟨q.kept.os,q.kept.tape,q.kept.output,q.kept.size,q.kept.block⟩,q.at_⟩:pY S s S y pb vb kb bk tv fv lv lv _));let⟨es,ck,C⟩:=l.is.vars.lt;have b3:bE y w.heap.size 34 2 (λj=>if j=0 then iz a.1 else iz a.2):=b1.of_block (p.block _ b1.lt λe=>iW b1 C e.symm);have z3:cz y w.heap.size 0 (iz a.1):=b3.cell (i:=0) bO;have z4:cz y w.heap.size 1 (iz a.2):=b3.cell (i:=1) bO;have ac:aU y (az pb 4)=ah (iz ((P.count:Int)+1)):=by have:=J.is.cells.cell (i:=4) bO;rw[this];simp[Ek]
  have f:=bL J;clear I l J u A y1 y2 c3 c4 f4 D p C b1 b3
  go_cut[25] from 26 to 33 λ_ wx=>wx=y
  case first=>
   go_region_law(fail);all_goals
    try simp only[aQ,cD,cw,ct,cf,cN,cK]
    go_wp2;go_meet
    case rel=>rfl
  case rest=>
   subst hcut;apply_assumption;by_cases O:a.1=a.2
   .have N:((a.1:Int)==(a.2:Int))=aK:=by rw[O];simp
    have G:Hid ((P.fD a)=(P.count+1,{P with count:=P.count+1,vars:=P.vars++[(a,P.count+1)],lemmas:=P.lemmas++[[(P.count:Int)+1]]})):=cG
    have U:Hid (pY S w (λk=>S k∨k=wc.heap.size) (bC wc (aq #[iz ((P.count:Int)+1)] 3)) pb vb kb bk tv fv lv lv _):=(f.out.below ((cW _ _).alloc (bT _) (aq #[iz ((P.count:Int)+1)] 3))).wider (λ_=>cB) (λk o=>o.imp id λe=>by rw[e];exact f.out.kept.size) (λk o=>by
     simp only[bC,Array.size_push];obtain o|o:=o
     .exact oQ (f.out.is.lt k o)
     omega)
    have H:=Gs (bC wc (aq #[iz ((P.count:Int)+1)] 3)) U.out.is aeE wc.heap.size 1 [(P.count:Int)+1] (Tz wc [(P.count:Int)+1] _ rfl)
    go_wp2_with(go_at_call 122;refine H.mono ?_;rintro e Z ⟨rfl,E,X9,M,L⟩;refine dM ?_);delta aH;have V:=U.out.trans (⟨X9,λk o=>cB (o.elim id cI),M,L⟩:pY (λk=>S k∨k=wc.heap.size) _ _ Z pb vb kb bk tv fv lv E _);have c9:aU Z (az pb 4)=ah (iz ((P.count:Int)+1)):=by have:=V.is.cells.cell (i:=4) bO;rw[this];simp[Ek]
    have HZ:=bL V;apply_assumption
    go_wp2;go_ret;rw[G.out];exact⟨by simp,_,E,HZ.out⟩
   have N:((a.1:Int)==(a.2:Int))=aL:=bX
   have G:Hid ((P.fD a)=(P.count+1,{P with count:=P.count+1,vars:=P.vars++[(a,P.count+1)],lemmas:=P.lemmas})):=cG
   go_wp2;go_ret;rw[G.out];exact⟨by simp,_,lv,f.out⟩
variable{k:Pr×List Pr}
theorem Ti(e:qg k.1 k.2=[x0,x1,x2,x3,x4,x5,x6,x7,x8,x9]):LH k=.agg #[iz x0,iz x1,iz x2,iz x3,iz x4,iz x5,iz x6,iz x7,iz x8,iz x9]:=by unfold LH;rw[o6,e];rfl
def Xq(W:ay)(sb:Nat)(x0 x1 x2 x3 x4 x5 x6 x7 x8 x9:Nat):Prop:=bE W sb 206 10 λj=>((#[ae af x0,ae af x1,ae af x2,ae af x3,ae af x4,ae af x5,ae af x6,ae af x7,ae af x8,ae af x9]:Array aA)[j]?).getD undef
theorem Xq.get(h:Xq W sb x0 x1 x2 x3 x4 x5 x6 x7 x8 x9):cz W sb 0 (iz x0)∧cz W sb 1 (iz x1)∧cz W sb 2 (iz x2)∧cz W sb 3 (iz x3)∧cz W sb 4 (iz x4)∧cz W sb 5 (iz x5)∧cz W sb 6 (iz x6)∧cz W sb 7 (iz x7)∧cz W sb 8 (iz x8)∧cz W sb 9 (iz x9):=
 ⟨dU h (i:=0) bO,dU h (i:=1) bO,dU h (i:=2) bO,dU h (i:=3) bO,dU h (i:=4) bO,dU h (i:=5) bO,dU h (i:=6) bO,dU h (i:=7) bO,dU h (i:=8) bO,dU h (i:=9) bO⟩
def Xq.made(w:ay)(x0 x1 x2 x3 x4 x5 x6 x7 x8 x9:Nat):Xq (bC w (aq #[iz x0,iz x1,iz x2,iz x3,iz x4,iz x5,iz x6,iz x7,iz x8,iz x9] 206)) w.heap.size x0 x1 x2 x3 x4 x5 x6 x7 x8 x9:=ey w _ 206
theorem Xq.pmx(h:Xq W sb x0 x1 x2 x3 x4 x5 x6 x7 x8 x9)(a:Pm S W pb vb kb bk tv fv lv P)(j:pY S W S' W' pb vb kb bk tv fv lv lv' P'):Xq W' sb x0 x1 x2 x3 x4 x5 x6 x7 x8 x9:=by
 let⟨es,m,d⟩:=a.vars.lt;let⟨i,b,f⟩:=a.known.lt;let⟨o,l,_⟩:=a.rows;refine du h (j.kept.block _ (dO h) ?_);rintro(e|e|e|e)
 .exact mS h a.cells bS e
 .exact iW h d e.symm
 .exact iW h f e.symm
 exact dY h bS l e
theorem Iz(h:bD W base 3 1 v n xs)(d:Pm S W pb vb kb bk tv fv lv P)(m:pY S W S' W' pb vb kb bk tv fv lv lv' P'):bD W' base 3 1 v n xs:=by
 let⟨es,p,i⟩:=d.vars.lt;let⟨l,f,j⟩:=d.known.lt;let⟨q,o,_⟩:=d.rows;refine eP h λb a=>m.kept.block b (dI h a).2 ?_;rintro(e|e|e|e)
 .exact dY d.cells bS h (e▸a)
 .exact iL h i (e▸a)
 .exact iL h j (e▸a)
 exact kz h o bS a e
theorem Rw.Uw(h:bD W base 3 1 v (bB c) (c.map λx=>aS .i64 x))(q:c≠[]):∃g b,v=aj (ah ⟨g,0,ai⟩) (bB c) b∧Rw W g c:=by
 obtain⟨e,y⟩|⟨g,b,a,e,r,f,s,u,l,m⟩:=h.2
 .grind
 refine⟨g,b,e,a.size,λj=>(a[j]?).getD undef,by rw[l];omega,⟨a,f,rfl,λi o=>?_⟩,λj x d=>?_⟩
 .simp[o]
 have p:=(bU.1 d).1;have z:(a.toList.take (bB c*1))[j]?=ah (ae af x):=by rw[m,fN,d];rfl
 grind
theorem D2(P:Pb)(a:Pr):(P.fD a).2.count<=P.count+1∧(P.fD a).2.vars.length<=bB P.vars+1∧(P.fD a).2.lemmas.length<=bB P.lemmas+1:=by grind[Pb.fD]
def AY(P:Pb):Prop:=∀e∈P.vars,e.2<=P.count
theorem AY.fD(h:AY P)(a):AY (P.fD a).2∧(P.fD a).1<=(P.fD a).2.count:=by
 unfold Pb.fD;cases b:P.num a with
 |some x=>
  refine⟨h,?_⟩;unfold Pb.num at b;cases f:P.vars.find? (λe=>decide (e.1=a)) with
  |none=>rw[f] at b;simp at b
  |some e=>rw[f] at b;simp at b;subst b;exact h e (mx f)
 |none=>
  refine⟨λe d=>?_,bT _⟩;simp only at d⊢;obtain d|d:=cU.1 d
  .exact iU (h e d)
  grind
theorem NQ(W xs o):(part 34 xs o).run prog W=.ok (.agg (xs.extract o (o+2))) W:=by simp_all[part]
theorem acy(W a b c d e f g h):(Instr.index 204 (.agg #[a,b,c,d,e,f,g,h]) (iz 0)).run prog W=.ok (.agg #[a,b]) W:=by simp[Instr.index,gM underlying204,asIntOf,NQ]
theorem acx(W a b c d e f g h):(Instr.index 204 (.agg #[a,b,c,d,e,f,g,h]) (iz 1)).run prog W=.ok (.agg #[c,d]) W:=by simp[Instr.index,gM underlying204,asIntOf,NQ]
theorem acw(W a b c d e f g h):(Instr.index 204 (.agg #[a,b,c,d,e,f,g,h]) (iz 2)).run prog W=.ok (.agg #[e,f]) W:=by simp[Instr.index,gM underlying204,asIntOf,NQ]
theorem acv(W a b c d e f g h):(Instr.index 204 (.agg #[a,b,c,d,e,f,g,h]) (iz 3)).run prog W=.ok (.agg #[g,h]) W:=by simp[Instr.index,gM underlying204,asIntOf,NQ]
theorem pY.grown(h:pY S w S' W pb vb kb bk tv fv lv lv' P)(i:bD W base 3 1 v n xs)(a:∀b,aP v=ah b->¬S' b∧w.heap.size<=b)(d:bH W W' (aP v)):pY S w S' W' pb vb kb bk tv fv lv lv' P:=by let⟨es,x,m⟩:=h.is.vars.lt;let⟨s,r,o⟩:=h.is.known.lt;let⟨A,q,y,z⟩:=h.is.rows;have nb:∀k,k<hz W->aP v≠ah k->W'.heap[k]?=W.heap[k]?:=λk f j=>d.block k f λe=>j e.symm;refine⟨h.is.keep d.size (nb _ h.is.cells.lt (dY h.is.cells bS i)) (nb _ (bY.1 m).1 (iL i m)) (nb _ (bY.1 o).1 (iL i o)) (λb p=>nb b (dI q p).2 λe=>kz q i bS p e) λg c hs l=>nb g l.lt λe=>(a g e).1 hs,h.new,⟨d.os.trans h.kept.os,d.tape.trans h.kept.tape,d.output.trans h.kept.output,bZ h.kept.size d.size,λk f u=>(nb k (cQ f h.kept.size) λe=>by have:=(a k e).2;omega).trans (h.kept.block k f u)⟩,h.at_⟩
def LsI(S:Nat->Prop)(w W:ay)(pb vb kb:Nat)(bk tv fv lv:aA)(QS:List Pr)(V:Nat×Pb)(i:Nat)(t6:aA):Prop:=
 ∃(S':Nat->Prop)(Li:List Int)(Pi:Pb)(lvi:aA),pY S w S' W pb vb kb bk tv fv lv lvi Pi∧bD W 0 3 1 t6 (1+bB Li) (((V.1:Int)::Li).map λx=>aS .i64 x)∧(∀b,aP t6=ah b->¬S' b∧w.heap.size<=b)∧(bB Pi.lemmas<=10000001+i∧Pi.count<=100001+i∧bB Pi.vars<=100001+i∧bB Li<=i∧AY Pi)∧(∃Rest,Pb.kD (QS.drop i) Pi=(Rest,(Pb.kD QS V.2).2)∧Li++Rest=(Pb.kD QS V.2).1)
theorem Gc{S}{w}{pb vb kb}{bk tv fv lv}{P}(h:Pm S w pb vb kb bk tv fv lv P)(hk:DM k)(hl:bB P.lemmas<=10000000)(hc:P.count<100000)(hv:bB P.vars<100000)(db:bB P.known<1000000000)(cv:AY P):
  aB prog 96 #[ak (ah ⟨pb,0,ai⟩),LH k] w λe w'=>e=aw (.tuple #[])∧∃S' lv',pY S w S' w' pb vb kb bk tv fv lv lv' (P.step k):=by
 let⟨x0,x1,x2,x3,x4,x5,x6,x7,x8,x9,bj⟩:=sO k.1 k.2;have aa:=Ti bj;have bb:aC w.heap.size w (bC w (aq #[ae af x0,ae af x1,ae af x2,ae af x3,ae af x4,ae af x5,ae af x6,ae af x7,ae af x8,ae af x9] 206)):=(cW _ _).alloc (bT _) _;have X0:=(An h).below bb;have B0:=Xq.made w x0 x1 x2 x3 x4 x5 x6 x7 x8 x9;rw[aa];go_enter func96,ntmps96
 go_wp2_with fail;generalize(bC w (aq #[ae af x0,ae af x1,ae af x2,ae af x3,ae af x4,ae af x5,ae af x6,ae af x7,ae af x8,ae af x9] 206))=r at *;obtain⟨sb,a8⟩:=bJ w.heap.size;rw[a8] at B0;simp only[a8];have c6:aU r ⟨pb,6,ai⟩=ah (.map (ah kb)):=X0.is.cells.cell (i:=6) bO;have ch:∀O,aU (bC r O) ⟨pb,6,ai⟩=ah (.map (ah kb)):=λO=>fF _ c6;let⟨y0,y1,y2,y3,y4,y5,y6,y7,y8,y9⟩:=B0.get;have ao:=(show ue r.drew kb P.known from X0.is.known.keep rfl).look hk;have ap:∀O,_:=λO=>(show ue (bC r O).drew kb P.known from(X0.is.below (nK r O)).known).look hk;rw[aa] at ao;simp only[aa] at ap;have z0:∀O,aU (bC r O) ⟨sb,0,ai⟩=ah (ae af x0):=λO=>fF _ y0;have z1:∀O,aU (bC r O) ⟨sb,1,ai⟩=ah (ae af x1):=λO=>fF _ y1;have z2:∀O,aU (bC r O) ⟨sb,2,ai⟩=ah (ae af x2):=λO=>fF _ y2;have z3:∀O,aU (bC r O) ⟨sb,3,ai⟩=ah (ae af x3):=λO=>fF _ y3;have z4:∀O,aU (bC r O) ⟨sb,4,ai⟩=ah (ae af x4):=λO=>fF _ y4;have z5:∀O,aU (bC r O) ⟨sb,5,ai⟩=ah (ae af x5):=λO=>fF _ y5;have z6:∀O,aU (bC r O) ⟨sb,6,ai⟩=ah (ae af x6):=λO=>fF _ y6;have z7:∀O,aU (bC r O) ⟨sb,7,ai⟩=ah (ae af x7):=λO=>fF _ y7;have z8:∀O,aU (bC r O) ⟨sb,8,ai⟩=ah (ae af x8):=λO=>fF _ y8;have z9:∀O,aU (bC r O) ⟨sb,9,ai⟩=ah (ae af x9):=λO=>fF _ y9;have HX:=bL (b9 X0 B0);clear X0 B0 h a8 bb
 go_cut[4,5] from 9 to 17 λ_ t5 wx=>t5=.bool (aM ((k.1,kU k.2)∈P.known))∧Hid (aC r.heap.size r wx)
 case first=>
  go_region_law(fail);all_goals
   try simp only[aQ,cD,cw,ct,cf,cN,cK]
   go_wp2_with fail;go_meet
   case rel=>exact⟨rfl,nK r _⟩
 case rest=>
  obtain⟨rfl,X⟩:=hcut;by_cases H:(k.1,kU k.2)∈P.known
  .have dk:aM ((k.1,kU k.2)∈P.known)=aK:=cZ H;have HF:Hid (P.step k=P):=by
    show _=_;unfold Pb.step;rw[cY (show(k.1,nH k.2)∈P.known from H)]
   have ca:Hid _:=HX.out.1.below X.out;rw[dk];clear H dk ao ap;apply_assumption
   go_wp2_with fail;refine⟨rfl,.tuple #[],by simp[aI,results96],rfl,S,lv,?_⟩;rw[HF.out];exact ca.out
  have dk:aM ((k.1,kU k.2)∈P.known)=aL:=cP H;rw[dk];have X1:=HX.out.1.below X.out;have B1:Xq wc sb x0 x1 x2 x3 x4 x5 x6 x7 x8 x9:=du HX.out.2 (X.out.block _ (dO HX.out.2));clear c6 ch y0 y1 y2 y3 y4 y5 y6 y7 y8 y9 z0 z1 z2 z3 z4 z5 z6 z7 z8 z9 ao ap;have c6:aU wc ⟨pb,6,ai⟩=ah (.map (ah kb)):=X1.is.cells.cell (i:=6) bO;let⟨y0,y1,y2,y3,y4,y5,y6,y7,y8,y9⟩:=B1.get;let⟨W3,b0,b8,bx⟩:=(show ue wc.drew kb P.known from X1.is.known.keep rfl).store hk bO;rw[aa] at b0;have Z:=(X1.is.below (oh wc)).acu b8 bx;have a0:pY S wc S W3 pb vb kb bk tv fv lv lv {P with known:=P.known++[(k.1,kU k.2)]}:=⟨Z.is,Z.new,⟨Z.kept.os,Z.kept.tape,Z.kept.output,Z.kept.size,Z.kept.block⟩,Z.at_⟩
  have X3:=X1.trans a0;have B3:=B1.pmx X1.is a0;have bR:=bL H;have F:=bL (b9 X3 B3);clear H dk X1 B1 Z a0 b8 bx HX X X3 B3;obtain⟨w1,rfl⟩:=bK wc;apply_assumption
  go_wp2_with fail
  go_cut[19] from 20 to 24 λ_ wx=>wx=W3
  case first=>
   go_region_law(fail);all_goals
    try simp only[aQ,cD,cw,ct,cf,cN,cK]
    go_wp2_with fail;go_meet
    case rel=>rfl
  case rest=>
   subst hcut;clear y0 y1 y2 y3 y4 y5 y6 y7 y8 y9 c6 b0;let⟨y0,y1,y2,y3,y4,y5,y6,y7,y8,y9⟩:=F.out.2.get;have bi:k.1=(x0,x1):=by grind[qg]
   have VA:=Gq wc F.out.1.is aeE aeE aeE k.1 hk.1;obtain⟨V,hV⟩:=bK (Pb.fD {P with known:=P.known++[(k.1,kU k.2)]} k.1);rw[<-hV] at VA;rw[bi] at VA;have HV:=bL hV;clear hV bi;apply_assumption
   go_wp2_with(go_at_call 80;refine VA.mono ?_;rintro e T ⟨rfl,S5,c8,X5⟩;refine dM ?_);delta aH;have Y:=F.out.1.trans X5;have B5:=F.out.2.pmx F.out.1.is X5;have B6:Xq (bC T (aq #[ae af V.1] 3)) sb x0 x1 x2 x3 x4 x5 x6 x7 x8 x9:=du B5 (jd _ _ (dO B5));let⟨q0,q1,q2,q3,q4,q5,q6,q7,q8,q9⟩:=B6.get;have X6:=Y.below ((cW T.heap.size T).alloc (bT _) (aq #[ae af V.1] 3));have R6:bD (bC T (aq #[ae af V.1] 3)) 0 3 1 (aj (ah ⟨T.heap.size,0,ai⟩) 1 1) 1 ([(V.1:Int)].map λx=>aS .i64 x):=⟨rfl,cI ⟨T.heap.size,1,#[ae af V.1],rfl,dt _,eW _ _,bT _,by unfold aY;omega,rfl,rfl⟩⟩
   obtain⟨s,bc⟩:∃s:List Pr,s=[(x2,x3),(x4,x5),(x6,x7),(x8,x9)]:=⟨_,rfl⟩
   have N:kU k.2=s:=by let⟨a,b,d,e,h1⟩:=xE k.2;have:=bj;simp only[qg,h1,gS,List.flatMap_nil,eU,ff,gC,Du,sk] at this;obtain⟨_,_,e2,e3,e4,e5,e6,e7,e8,e9⟩:=this;rw[h1,bc,<-e2,<-e3,<-e4,<-e5,<-e6,<-e7,<-e8,<-e9]
   have ad:∀q∈s,rI q:=λq E=>by
    rw[<-N] at E;unfold kU at E;obtain E|E:=cU.1 (je E)
    .exact hk.2 q E
    rw[ac4 E];exact⟨by simp,by simp⟩
   have an:Hid (LsI S w (bC T (aq #[ae af V.1] 3)) pb vb kb bk tv fv lv s V 0 (aj (ah ⟨T.heap.size,0,ai⟩) 1 1)):=by
    have L:=D2 {P with known:=P.known++[(k.1,kU k.2)]} k.1;have I:=AY.fD (P:={P with known:=P.known++[(k.1,kU k.2)]}) cv k.1;rw[<-HV.out] at L I;simp only at L;refine⟨S5,[],V.2,c8,X6,R6,λb hb=>?_,⟨by omega,by omega,by omega,bT _,I.1⟩,_,rfl,by simp⟩;have a4:T.heap.size=b:=by simpa[aP] using hb
    rw[<-a4];exact⟨λhS=>absurd (Y.is.lt _ hS) (tT _),Y.kept.size⟩
   have HQ:=bL (b9 bc (b9 N (b9 ad B5)));clear B6 X5 Y B5 X6 R6 N ad VA y0 y1 y2 y3 y4 y5 y6 y7 y8 y9;apply_assumption
   go_wp2_with fail;generalize bC T (aq #[ae af V.1] 3)=w6 at *;obtain⟨rb,a7⟩:=bJ T.heap.size;rw[a7] at an;simp only[a7];let⟨i0,ck,cx,cy,c7⟩:=eB qQ;clear a7 q0 q1 q2 q3 q4 q5 q6 q7 q8 q9 F
   go_loopw[6,32] (λt6 a9 W=>∃i:Nat,i<=4∧a9=ae af i∧Hid (LsI S w W pb vb kb bk tv fv lv s V i t6)) λ_ a9 _=>4-(aG a9).toNat
   case atStart=>exact⟨0,by omega,rfl,an⟩
   case round=>
    obtain⟨i,da,rfl,HJ⟩:=hrel;clear an;have dd:=acy wr;have de:=acx wr;have dg:=acw wr;have di:=acv wr;by_cases cp:i<4
    .obtain⟨q,E⟩:∃q,s[i]?=ah q:=⟨s[i]'(by rw[HQ.out.1];exact cp),bP _⟩
     obtain⟨A,B⟩:=q;have a6:i<bB s:=(bU.1 E).1;have a5:s[i]=(A,B):=(bU.1 E).2;have G:s.drop i=(A,B)::s.drop (i+1):=by rw[dP a6,a5]
     have R:rI (A,B):=HQ.out.2.2.1 _ (cH E);let⟨Si,l,Pi,ab,f,j,y,⟨b1,b2,b3,b4,b5⟩,ac,o,u⟩:=HJ.out;rw[G,Pb.kD] at o;have m:aC wr.heap.size wr (bC wr (aq #[ae af A,ae af B] 34)):=(cW _ _).alloc (bT _) _;have hx:=E;rw[HQ.out.1] at hx;let⟨la,lc,cn⟩:=dZ j;subst cn;by_cases Q:A=B
     .rw[cY Q] at o;have HF:Hid (LsI S w (bC wr (aq #[ae af A,ae af B] 34)) pb vb kb bk tv fv lv s V (i+1) (aj la (1+bB l) lc)):=⟨Si,l,Pi,ab,f.below m,ew j m,y,⟨by omega,by omega,by omega,by omega,b5⟩,ac,o,u⟩
      have dq:((A:Int) != (B:Int))=aL:=by rw[Q];simp
      generalize 1+bB l=ll at *;clear f j y b1 b2 b3 b4 b5 o u HJ m G a5 E Q R a6;obtain rfl|rfl|rfl|rfl:=(by omega:i=0∨i=1∨i=2∨i=3)
      all_goals
       simp only[jI,rE,fw,jr] at hx;obtain⟨rfl,rfl⟩:=hx
       go_wp2_with fail;exact⟨⟨_,by decide,rfl,HF⟩,by decide⟩
     rw[cC Q] at o;have VA:=Gq (bC wr (aq #[ae af A,ae af B] 34)) (f.is.below m) bO bO bO (A,B) R;have dq:((A:Int) != (B:Int))=aK:=bX
     obtain⟨C,a2⟩:=bK (Pi.fD (A,B));rw[<-a2] at VA o;have L:=D2 Pi (A,B);have I:=b5.fD (A,B);rw[<-a2] at L I;have cE:IntKind.i64.wrap (-(C.1:Int))=-(C.1:Int):=aew
     injection o with e1 e2;have HF:Hid (∀(z w8:ay)(U:Nat->Prop)(p v8:aA),pY Si (bC wr (aq #[ae af A,ae af B] 34)) U z pb vb kb bk tv fv ab p C.2->bD w8 0 3 1 v8 (1+bB l+1) (((V.1:Int)::l).map (λx=>aS .i64 x)++[ae af (-(C.1:Int))])->bH (bC z (aq #[ae af (-(C.1:Int))] 3)) w8 (aP (aT la (1+bB l) lc))->(aP v8=aP (aT la (1+bB l) lc)∨aP v8=ah (bC z (aq #[ae af (-(C.1:Int))] 3)).heap.size)->LsI S w w8 pb vb kb bk tv fv lv s V (i+1) v8):=λz w8 U p v8 J ho hg ci=>by
      have hX:=(f.below m).trans J;have cr:=Iz (ew j m) (f.is.below m) J;have b6:=ew cr ((cW z.heap.size z).alloc (bT _) (aq #[ae af (-(C.1:Int))] 3));have a3:=hX.below ((cW z.heap.size z).alloc (bT _) (aq #[ae af (-(C.1:Int))] 3));have b7:∀b,aP (aT la (1+bB l) lc)=ah b->¬U b∧w.heap.size<=b:=λb hb=>⟨λhS=>(J.new b hS).elim (λe=>(y b hb).1 e) (λe=>by have:=(dI j hb).2;simp at e;omega),(y b hb).2⟩;refine⟨U,l++[-(C.1:Int)],C.2,p,a3.grown b6 b7 hg,?_,λb hb=>?_,⟨by omega,by omega,by omega,by simp;omega,I.1⟩,_,Prod.ext rfl e2,?_⟩
      .have e:1+bB (l++[-(C.1:Int)])=1+bB l+1:=bX
       rw[e];simpa using ho
      .obtain e|e:=ci
       .exact b7 b (e▸hb)
       rw[e] at hb;have a4:(bC z (aq #[ae af (-(C.1:Int))] 3)).heap.size=b:=by simpa using hb
       rw[<-a4];exact⟨λhS=>absurd (a3.is.lt _ hS) (tT _),a3.kept.size⟩
      rw[<-u,<-e1];simp
     have HR:Hid (∀(z:ay)(U:Nat->Prop)(p:aA),pY Si (bC wr (aq #[ae af A,ae af B] 34)) U z pb vb kb bk tv fv ab p C.2->bD z 0 3 1 (aj la (1+bB l) lc) (1+bB l) (((V.1:Int)::l).map λx=>aS .i64 x)):=λz U p J=>Iz (ew j m) (f.is.below m) J;generalize co:((V.1:Int)::l).map (λx=>aS .i64 x)=dj at *;generalize cm:1+bB l=ll at *;have dc:ll<=10:=bO
     clear f j y b1 b2 b3 b4 b5 u HJ m G a5 E Q R a6 co cm e1 e2 L I a2;obtain rfl|rfl|rfl|rfl:=(by omega:i=0∨i=1∨i=2∨i=3)
     all_goals
      simp only[jI,rE,fw,jr] at hx;obtain⟨rfl,rfl⟩:=hx
      go_wp2_with(go_at_call 80;refine VA.mono ?_;rintro e z ⟨rfl,U,p,X7⟩;refine dM ?_);delta aH;have r7:=HR.out z U p X7;have ba:=bL X7;clear X7 VA HR;apply_assumption
      go_wp2_with(first|(at_builtin;refine dM ?_));delta aH;refine fX _ rfl _ _ 39 rfl 0 3 i0 _ 1 8 underlying39 ck cx cy c7 rfl bS _ _ _ rfl (r7.alloc _) ⟨_,0,ai⟩ 1 1 [ae af (-(C.1:Int))] rfl rfl (qF z _ _) cM cJ bO bQ ?_;intro v8 w8 M D _ ag;have HL:Hid _:=HF.out z w8 U p v8 ba.out M D ag;clear M D ag HF ba r7
      go_wp2_with fail;exact⟨⟨_,by decide,rfl,HL⟩,by decide⟩
    obtain rfl:i=4:=bO
    let⟨Si,l,Pi,ab,f,j,y,⟨b1,b2,b3,b4,b5⟩,ac,o,u⟩:=HJ.out;have G:s.drop 4=[]:=by rw[HQ.out.1];rfl
    rw[G,Pb.kD] at o;injection o with e1 e2;subst e1;rw[gC] at u;have al:bB ((V.1:Int)::l)=1+bB l:=bX
    rw[<-al] at j;let⟨gb,gc,cj,a1⟩:=Rw.Uw j bQ;subst cj;have cc:=Gs wr f.is bO gb gc ((V.1:Int)::l) a1;have HF:Hid ({Pi with lemmas:=Pi.lemmas++[(V.1:Int)::l]}=P.step k):=by show _=_;unfold Pb.step;rw[cC (show ¬(k.1,nH k.2)∈P.known from bR.out)];have N:nH k.2=s:=HQ.out.2.1;rw[N,show({P with known:=P.known++[(k.1,s)]}:Pb).fD k.1=V from by rw[HV.out,<-HQ.out.2.1],<-u,<-e2]
    have bo:=y gb rfl;have be:=f.wider (S2:=λk=>Si k∨k=gb) (λ_=>cB) (λk hk=>hk.elim (λe=>f.new k e) λe=>by rw[e];exact cI bo.2) (λk hk=>hk.elim (λe=>f.is.lt k e) λe=>by rw[e];exact a1.lt);have cb:=bL be;clear f be bo y j a1 u e2 HJ b1 b2 b3 b4 b5 G al;generalize bB ((V.1:Int)::l)=gl at *
    go_wp2_with(go_at_call 122;refine cc.mono ?_;rintro e w9 ⟨rfl,c9,X9,ce,cd⟩);refine⟨rfl,.tuple #[],by simp[aI,results96],rfl,λk=>Si k∨k=gb,c9,?_⟩;rw[<-HF.out];exact cb.out.trans ⟨X9,λ_=>cB,ce,cd⟩
def oI(P:Pb):List rl->List Pr->List Pr
 | [],ms=>ms
 |s::r,ms=>oI P r (if(jX P.vars s.1).isSome then ms else fK ms [s.1])
theorem yG:∀{S:List rl}{j:Nat}{s:rl}{x0 x1 x2 x3 x4 x5 x6 x7 x8 x9:Nat},S[j]?=ah s->qg s.1 s.2=[x0,x1,x2,x3,x4,x5,x6,x7,x8,x9]->∀(i:Nat)(u:Nat),[x0,x1,x2,x3,x4,x5,x6,x7,x8,x9][i]?=ah u->(oC S)[j*10+i]?=ah (iz u)
 | [],j,s,_,_,_,_,_,_,_,_,_,_,h,_,_,_,_=>by simp at h
 |q::l,0,s,_,_,_,_,_,_,_,_,_,_,h,b,i,u,a=>by
  simp at h;subst h;have e:oC (q::l)=rF q.1 q.2++oC l:=by simp[oC]
  have d:i<10:=(bU.1 a).1;rw[e,Nat.zero_mul,fM,df (by rw[Ik];exact d),o6,b,fN,a];rfl
 |q::l,j+1,s,_,_,_,_,_,_,_,_,_,_,h,b,i,u,a=>by
  have:=yG (S:=l) (j:=j) (s:=s) (by simpa using h) b i u a;have e:oC (q::l)=rF q.1 q.2++oC l:=by simp[oC]
  have f:(j+1)*10+i=bB (rF q.1 q.2)+(j*10+i):=by rw[Ik];omega
  rw[e,f,dr bO,Ao];exact this
theorem MC{S}{w}{pb vb kb}{bk tv fv lv}{P}(h:Pm S w pb vb kb bk tv fv lv P)(hc:P.count<=100000)(base v a)(hr:bD w base 206 10 v (bB a) (oC a))(X:bB a<=1000000000)(ac:∀s∈a,rI s.1):
  aB prog 94 #[pz pb,v] w λe w'=>e=aw (.bool (aM (P.count+bB (oI P a [])<=2000)))∧aC w.heap.size w w':=by
 have an:=@rA prog;let⟨va,vc,hv⟩:=dZ hr;subst hv;obtain⟨n,hn⟩:=bJ (bB a);have HN:=bL hn;have N:Hid (∃ms,ud (bC w (.map #[] 0)) (hz w) ms∧aC (hz w) w (bC w (.map #[] 0))∧oI P (a.drop 0) ms=oI P a []∧bB ms<=0):=⟨[],ud.new w,(cW _ _).alloc (bT _) _,rfl,bT _⟩
 have L:=bL (b9 h (b9 hr ac));rw[hn] at X⊢;go_enter func94,ntmps94
 go_wp2;generalize bC w (.map #[] 0)=w1 at *;obtain⟨mb,B⟩:=bJ (hz w);have q:=bL B;rw[B] at N;simp[B]
 go_loopw[13] (λD W=>∃i:Nat,i<=n∧D=iz i∧Hid (∃ms,ud W mb ms∧aC mb w W∧oI P (a.drop i) ms=oI P a []∧bB ms<=i)) λD _=>n-(aG D).toNat
 case atStart=>grind
 case round=>
  obtain⟨i,hi,rfl,HJ⟩:=hrel;let⟨ms,x,V,f,ab⟩:=HJ.out;by_cases A:i<n
  .have di:=bM i n;have ap:IntKind.i64.wrap ((i:Int)+1)=(i:Int)+1:=by rw[cX];omega
   have d:i<bB a:=by rw[HN.out];exact A
   have aa:=bP d;have Y:a.drop i=a[i]::a.drop (i+1):=dP d;have o:=L.out.2.2 a[i] (dw d);generalize a[i]=s at *;let⟨x0,x1,x2,x3,x4,x5,x6,x7,x8,x9,H⟩:=sO s.1 s.2;have J:s.1=(x0,x1):=by have:=H;simp[qg,eU,Du] at this;exact Prod.ext this.1 this.2.1
   rw[J] at o;have l:aC (hz w) w wr:=by rw[q.out];exact V
   have C:=ew L.out.2.1 l;obtain⟨T,y⟩:∃g,aP (aT va (bB a) vc)=ah g:=by
    obtain⟨e,U⟩|⟨g,Q,R,e,_⟩:=C.2
    .rw[U] at d;exact absurd d (iR _)
    exact⟨g,by rw[e];rfl⟩
   have ad:va=ah (az T 0):=by
    obtain⟨e,U⟩|⟨g,Q,R,e,_⟩:=C.2
    .rw[U] at d;exact absurd d (iR _)
    cases e
    simp[aP] at y;rw[y]
   subst ad;have fS:∀(j u:Nat),[x0,x1,x2,x3,x4,x5,x6,x7,x8,x9][j]?=ah u->aU wr ⟨T,i*10+j,ai⟩=ah (iz u):=λj u hu=>by have:=C.cells (g:=T) y _ _ (yG aa H j u hu);rw[j9,fM] at this;exact this
   have y0:=fS 0 x0 rfl;rw[fH] at y0;have y1:=fS 1 x1 rfl;have y2:=fS 2 x2 rfl;have y3:=fS 3 x3 rfl;have y4:=fS 4 x4 rfl;have y5:=fS 5 x5 rfl;have y6:=fS 6 x6 rfl;have y7:=fS 7 x7 rfl;have y8:=fS 8 x8 rfl;have y9:=fS 9 x9 rfl;rw[Y,oI,J] at f;have r:aC (hz wr) wr (bC wr (aq #[iz x0,iz x1,iz x2,iz x3,iz x4,iz x5,iz x6,iz x7,iz x8,iz x9] 206)):=(cW _ _).alloc (bT _) _;have G:=L.out.1.below (wV l r);have c3:aU (bC wr (aq #[iz x0,iz x1,iz x2,iz x3,iz x4,iz x5,iz x6,iz x7,iz x8,iz x9] 206)) (az pb 3)=ah (.map (ah vb)):=G.cells.cell (i:=3) bO;have M:∀m,_:=λm=>(show pO (bF (bC wr (aq #[iz x0,iz x1,iz x2,iz x3,iz x4,iz x5,iz x6,iz x7,iz x8,iz x9] 206)) m) vb P.vars from G.vars.keep rfl).look o;let⟨es,ck,Z⟩:=x.lt;have p:=(bY.1 Z).1;have b:Hid (ud (bC wr (aq #[iz x0,iz x1,iz x2,iz x3,iz x4,iz x5,iz x6,iz x7,iz x8,iz x9] 206)) mb ms∧aC mb w (bC wr (aq #[iz x0,iz x1,iz x2,iz x3,iz x4,iz x5,iz x6,iz x7,iz x8,iz x9] 206))):=⟨x.keep (r.block mb p),V.trans (r.mono (ir p))⟩
   cases I:jX P.vars (x0,x1) with
   |some z=>
    rw[I] at M f;have O:=bL f;simp[eQ,iM] at M
    go_wp2;go_quiet(fail)
    go_wp2;refine⟨⟨i+1,A,by simp,?_⟩,by simp[aG];omega⟩;exact⟨ms,b.out.1.keep rfl,⟨b.out.2.os,b.out.2.tape,b.out.2.output,b.out.2.size,b.out.2.block⟩,O.out,iU ab⟩
   |none=>
    rw[I] at M f;have O:=bL f;simp[pT,kJ] at M
    go_wp2;go_quiet(fail);let⟨W2,r1,r2,r3⟩:=(show ud (bF (bC wr (aq #[iz x0,iz x1,iz x2,iz x3,iz x4,iz x5,iz x6,iz x7,iz x8,iz x9] 206)) nq) mb ms from b.out.1.keep rfl).store o bO;have HF:=bL (b9 r2 r3)
    go_wp2;refine⟨⟨i+1,A,by simp,?_⟩,by simp[aG];omega⟩;refine⟨_,HF.out.1,?_,O.out,bZ (mO ms _) bX⟩;have k2:=HF.out.2;have b2:=b.out.2;exact⟨k2.os.trans b2.os,k2.tape.trans b2.tape,k2.output.trans b2.output,bZ b2.size k2.size,λj hj=>(k2.block j (cQ hj (by rw[<-q.out];exact b2.size)) bO).trans (b2.block j hj)⟩
  have di:=bN i n;obtain rfl:i=n:=bO
  have ag:∀m,_:=λm=>(show ud (bF wr m) mb ms from x.keep rfl).len 3;have l:aC (hz w) w wr:=by rw[q.out];exact V
  have c4:cz wr pb 4 (iz P.count):=(L.out.1.below l).cells.cell (i:=4) bO;have F:Hid (oI P a []=ms):=by show _=_;rw[<-f,<-HN.out,nz];rfl
  have ao:IntKind.i64.wrap ((P.count:Int)+bB ms)=(P.count:Int)+bB ms:=aew
  have E:=bL l;have HD:Hid (aM ((P.count:Int)+bB ms<=2000)=aM (P.count+bB ms<=2000)):=by
   show _=_;by_cases al:P.count+bB ms<=2000
   .grind
   grind
  go_wp2;go_quiet(fail)
  go_wp2;go_ret;rw[F.out,<-HD.out];exact⟨rfl,⟨E.out.os,E.out.tape,E.out.output,E.out.size,E.out.block⟩⟩
def pH(nm:List Nat)(x:Int):Int:=if x<0 then -((nm[x.natAbs]?.getD 0:Nat):Int) else((nm[x.natAbs]?.getD 0:Nat):Int)
theorem PG{w}{g}(J){c}(C:Rw w g c)(N:bB c<=1048576)(nb nc nm)(f:∀(j n:Nat),nm[j]?=ah n->cz w nb j (iz n))(O:g≠nb)(G:∀x∈c,x.natAbs<bB nm)(Q:bB nm<=1048576)(h:∀n∈nm,n<=1048576):
  aB prog 81 #[aj (ah (az g 0)) (bB c) J,aj (ah (az nb 0)) (bB nm) nc] w λe V=>e=aw (.tuple #[])∧Rw V g (c.map (pH nm))∧bI (λk=>k=g) w V:=by
 obtain⟨n,A⟩:=bJ (bB c);obtain⟨nl,b⟩:=bJ (bB nm);have X:=bL (b9 C (b9 f (b9 G (b9 h (b9 A b)))));have I:Hid (Rw w g ((c.take 0).map (pH nm)++c.drop 0)∧bI (λk=>k=g) w w):=⟨by simpa using C,bW _ _⟩
 rw[A,b];rw[A] at N;rw[b] at Q;clear C f G h A b;go_enter func81,ntmps81
 go_wp2
 go_loopw[8] (λR W=>∃i:Nat,i<=n∧R=iz i∧Hid (Rw W g ((c.take i).map (pH nm)++c.drop i)∧bI (λk=>k=g) w W)) λR _=>n-(aG R).toNat
 case atStart=>grind
 case round=>
  obtain⟨i,hi,rfl,T⟩:=hrel;clear I;let⟨r,L⟩:=T.out;let⟨C,f,G,h,A,b⟩:=X.out;by_cases D:i<n
  .have Z:=bM i n;have ad:=fq (a:=i) bO;have u:i<bB c:=bO
   have F:bB ((c.take i).map (pH nm))=i:=bX
   have o:((c.take i).map (pH nm)++c.drop i)[i]?=ah c[i]:=cG
   let⟨q1,q2⟩:=r.at o;have d:=G c[i] (dw u);have s:=f _ _ (bP d);have m:aU wr ⟨nb,c[i].natAbs,ai⟩=ah (iz ((nm[c[i].natAbs]'d:Nat):Int)):=by have E:=cV w _ s;exact(cL (a:=⟨nb,c[i].natAbs,ai⟩) (L.block nb E λe=>O e.symm)).trans s
   have aa:=h _ (dw d);have l:Hid (∀y,y=pH nm c[i]->Rw (aW wr (az g i) (iz y)) g ((c.take (i+1)).map (pH nm)++c.drop (i+1))∧bI (λk=>k=g) w (aW wr (az g i) (iz y))):=λy hy=>by
    refine⟨?_,L.setCell (p:=az g i) rfl _⟩;have:=r.set i y;have e:((c.take i).map (pH nm)++c.drop i).set i y=(c.take (i+1)).map (pH nm)++c.drop (i+1):=by rw[gJ _ _ bO,F,iN,dP u,cK,dJ,bP u,fE,fZ,fW,hy];rfl
    grind
   have q:pH nm c[i]=if c[i]<0 then -((nm[c[i].natAbs]'d:Nat):Int) else((nm[c[i].natAbs]'d:Nat):Int):=by grind[pH]
   rw[q] at l;generalize(nm[c[i].natAbs]'d)=y at *;rw[b] at d;generalize c[i]=x at *;have B:=bM x.natAbs nl;clear r L o s F T C f G h A b q;by_cases H:x<0
   .have Y:aM (x<0)=aK:=cZ H;rw[cY H] at l;obtain⟨a,M⟩:∃a:Nat,x.natAbs=a:=⟨_,rfl⟩
    have z:x=-(a:Int):=bO
    have U:0<a:=bO
    rw[M] at m d B;have ab:=sD (a:=a) bO;have ac:IntKind.i64.wrap (-(y:Int))=-(y:Int):=aew
    subst z
    go_wp2;refine⟨⟨i+1,D,by simp,?_⟩,by simp[aG];omega⟩;exact l.out _ rfl
   have Y:aM (x<0)=aL:=cP H;rw[cC H] at l;obtain⟨a,M⟩:∃a:Nat,x.natAbs=a:=⟨_,rfl⟩
   have z:x=(a:Int):=bO
   rw[M] at m d B;subst z
   go_wp2;refine⟨⟨i+1,D,by simp,?_⟩,by simp[aG];omega⟩;exact l.out _ rfl
  have Z:=bN i n;obtain rfl:i=n:=bO
  have l:Hid (Rw wr g (c.map (pH nm))∧bI (λk=>k=g) w wr):=cG
  go_wp2;refine⟨rfl,.tuple #[],by simp[aI,results81],rfl,l.out.1,l.out.2⟩
theorem LZ(n i)(a:i<n):(aO i++aN (n-i) 0).set i i=aO (i+1)++aN (n-(i+1)) 0:=by
 have e:n-i=(n-(i+1))+1:=bO
 rw[gJ _ _ bQ,iu,iN,e,lg,cK,qH,fW];rfl
theorem Gt(w pb r n s)(z:n<=1048576)(c2:aU w ⟨pb,2,ai⟩=ah (aj r n s)):
  aB prog 23 #[ak (ah ⟨pb,0,ai⟩)] w λe o=>e=aw (aj (ah ⟨w.heap.size,0,ai⟩) n n)∧oN o w.heap.size (aO n)∧aC w.heap.size w o:=by
 have A:=wN w n bO;have h:Hid (oN (bC w (aq (Array.replicate n (aS .i64 0)) 3)) w.heap.size (aO 0++aN (n-0) 0)∧aC w.heap.size w (bC w (aq (Array.replicate n (aS .i64 0)) 3))):=by refine⟨?_,(cW _ _).alloc (bT _) _⟩;unfold oN;rw[eW];simp[i64]
 go_enter func23,ntmps23
 go_wp2_with fail;generalize bC w (aq (Array.replicate n (aS .i64 0)) 3)=D at *;obtain⟨g,j⟩:=bJ w.heap.size;have d:=bL j;rw[j] at h;simp only[j]
 go_loopw[13] (λm W=>∃i:Nat,i<=n∧m=ae af i∧Hid (oN W g (aO i++aN (n-i) 0)∧aC g w W)) λm _=>n-(aG m).toNat
 case atStart=>grind
 case round=>
  obtain⟨i,x,rfl,b⟩:=hrel;by_cases l:i<n
  .have q:=bM i n;have u:=fq (a:=i) bO;have hl:i<bB (aO i++aN (n-i) 0):=bX
   have B:=b.out.1.cell (i:=i) (bP hl);have C:=b.out.1.frozen i;have f:Hid (oN (aW wr ⟨g,i,ai⟩ (ae af i)) g (aO (i+1)++aN (n-(i+1)) 0)∧aC g w (aW wr ⟨g,i,ai⟩ (ae af i))):=by refine⟨?_,b.out.2.setCell (p:=⟨g,i,ai⟩) (bT _) _⟩;have:=b.out.1.set i i;rw[LZ n i l] at this;exact this
   generalize((aO i++aN (n-i) 0)[i]'hl)=y at *
   go_wp2_with fail;grind[aG]
  have q:=bN i n;obtain rfl:i=n:=bO
  have f:Hid (oN wr w.heap.size (aO i)∧aC w.heap.size w wr):=by rw[d.out];have:=b.out;rw[iN,KJ,gC] at this;exact this
  go_wp2_with fail;go_ret;rw[d.out] at *;exact⟨rfl,by rw[<-d.out];exact f.out.1,by rw[<-d.out];exact f.out.2⟩
end
def p8(op x y:Int)(kn n:Nat):Bool:=
 if op=0 then aM (kn=0)&&(aM (0<=x∧x<n)&&aM (0<=y∧y<n))
 else if op=1 then aM (kn=1)&&aM (x=0∧y=0)
 else if op=2∨op=3∨op=4 then aM (kn=2)&&aM (x=0∧y=0) else aL
variable{w w0:ay}{b o kn mb n x i j:Nat}{ka:Option aD}
theorem QB(x y:Int)(kc n:Nat)(c0:cz w b o (iz 0))(c1:cz w b (o+1) (iz x))(c2:cz w b (o+2) (iz y))(c3:cz w b (o+3) (aj ka kn kc)):
  aB prog 76 #[ak (ah (az b o)),iz n] w λe p=>e=aw (.bool (p8 0 x y kn n))∧aC w.heap.size w p:=by
 have d:∀W,_:=λW=>Kb W x n;have l:∀W,_:=λW=>Kb W y n;by_cases g:kn=0
 .subst g;cases f:aM (0<=x∧x<(n:Int))
  .rw[f] at d;have c:Hid (p8 0 x y 0 n=aL):=by show _=_;simp only[p8,iX,f,Bool.false_and,Bool.and_false]
   go_enter func76,ntmps76
   go_wp2_with(go_at_call 116;refine(d _).mono ?_;rintro e h ⟨rfl,rfl⟩);go_ret;exact⟨by rw[c.out];rfl,cW _ _⟩
  rw[f] at d;have c:Hid (p8 0 x y 0 n=aM (0<=y∧y<(n:Int))):=by show _=_;simp only[p8,iX,f,Bool.true_and,decide_true]
  generalize aM (0<=y∧y<(n:Int))=q at *;go_enter func76,ntmps76
  go_wp2_with(go_at_call 116;refine(d _).mono ?_;rintro e h ⟨rfl,rfl⟩;refine dM ?_);delta aH;apply_assumption
  go_wp2_with(go_at_call 116;refine(l _).mono ?_;rintro e h ⟨rfl,rfl⟩);go_ret;exact⟨by rw[c.out];rfl,cW _ _⟩
 have m:((kn:Int)==0)=aL:=bX
 have c:Hid (p8 0 x y kn n=aL):=by show _=_;simp only[p8,iX,cP g,Bool.false_and]
 go_enter func76,ntmps76
 go_wp2;go_ret;exact⟨by rw[c.out];rfl,cW _ _⟩
theorem QA(x y:Int)(kc n:Nat)(c0:cz w b o (iz 1))(c1:cz w b (o+1) (iz x))(c2:cz w b (o+2) (iz y))(c3:cz w b (o+3) (aj ka kn kc)):
  aB prog 76 #[ak (ah (az b o)),iz n] w λe l=>e=aw (.bool (p8 1 x y kn n))∧aC w.heap.size w l:=by
 by_cases d:kn=1
 .subst d;by_cases f:x=0
  .subst f;by_cases g:y=0
   .subst g;have c:Hid (p8 1 0 0 1 n=aK):=by show _=_;simp[p8]
    go_enter func76,ntmps76
    go_wp2;go_ret;exact⟨by rw[c.out];rfl,cW _ _⟩
   have c:Hid (p8 1 0 y 1 n=aL):=by show _=_;simp[p8,g]
   go_enter func76,ntmps76
   go_wp2;go_ret;exact⟨by rw[c.out];rfl,cW _ _⟩
  have c:Hid (p8 1 x y 1 n=aL):=by show _=_;simp[p8,f]
  go_enter func76,ntmps76
  go_wp2;go_ret;exact⟨by rw[c.out];rfl,cW _ _⟩
 have h:((kn:Int)==1)=aL:=bX
 have c:Hid (p8 1 x y kn n=aL):=by show _=_;simp[p8,d]
 go_enter func76,ntmps76
 go_wp2;go_ret;exact⟨by rw[c.out];rfl,cW _ _⟩
theorem Qz(x y:Int)(kc n:Nat)(c0:cz w b o (iz 2))(c1:cz w b (o+1) (iz x))(c2:cz w b (o+2) (iz y))(c3:cz w b (o+3) (aj ka kn kc)):
  aB prog 76 #[ak (ah (az b o)),iz n] w λe l=>e=aw (.bool (p8 2 x y kn n))∧aC w.heap.size w l:=by
 by_cases d:kn=2
 .subst d;by_cases f:x=0
  .subst f;by_cases g:y=0
   .subst g;have c:Hid (p8 2 0 0 2 n=aK):=by show _=_;simp[p8]
    go_enter func76,ntmps76
    go_wp2;go_ret;exact⟨by rw[c.out];rfl,cW _ _⟩
   have c:Hid (p8 2 0 y 2 n=aL):=by show _=_;simp[p8,g]
   go_enter func76,ntmps76
   go_wp2;go_ret;exact⟨by rw[c.out];rfl,cW _ _⟩
  have c:Hid (p8 2 x y 2 n=aL):=by show _=_;simp[p8,f]
  go_enter func76,ntmps76
  go_wp2;go_ret;exact⟨by rw[c.out];rfl,cW _ _⟩
 have h:((kn:Int)==2)=aL:=bX
 have c:Hid (p8 2 x y kn n=aL):=by show _=_;simp[p8,d]
 go_enter func76,ntmps76
 go_wp2;go_ret;exact⟨by rw[c.out];rfl,cW _ _⟩
theorem Qy(x y:Int)(kc n:Nat)(c0:cz w b o (iz 3))(c1:cz w b (o+1) (iz x))(c2:cz w b (o+2) (iz y))(c3:cz w b (o+3) (aj ka kn kc)):
  aB prog 76 #[ak (ah (az b o)),iz n] w λe l=>e=aw (.bool (p8 3 x y kn n))∧aC w.heap.size w l:=by
 by_cases d:kn=2
 .subst d;by_cases f:x=0
  .subst f;by_cases g:y=0
   .subst g;have c:Hid (p8 3 0 0 2 n=aK):=by show _=_;simp[p8]
    go_enter func76,ntmps76
    go_wp2;go_ret;exact⟨by rw[c.out];rfl,cW _ _⟩
   have c:Hid (p8 3 0 y 2 n=aL):=by show _=_;simp[p8,g]
   go_enter func76,ntmps76
   go_wp2;go_ret;exact⟨by rw[c.out];rfl,cW _ _⟩
  have c:Hid (p8 3 x y 2 n=aL):=by show _=_;simp[p8,f]
  go_enter func76,ntmps76
  go_wp2;go_ret;exact⟨by rw[c.out];rfl,cW _ _⟩
 have h:((kn:Int)==2)=aL:=bX
 have c:Hid (p8 3 x y kn n=aL):=by show _=_;simp[p8,d]
 go_enter func76,ntmps76
 go_wp2;go_ret;exact⟨by rw[c.out];rfl,cW _ _⟩
theorem Qx(x y:Int)(kc n:Nat)(c0:cz w b o (iz 4))(c1:cz w b (o+1) (iz x))(c2:cz w b (o+2) (iz y))(c3:cz w b (o+3) (aj ka kn kc)):
  aB prog 76 #[ak (ah (az b o)),iz n] w λe l=>e=aw (.bool (p8 4 x y kn n))∧aC w.heap.size w l:=by
 by_cases d:kn=2
 .subst d;by_cases f:x=0
  .subst f;by_cases g:y=0
   .subst g;have c:Hid (p8 4 0 0 2 n=aK):=by show _=_;simp[p8]
    go_enter func76,ntmps76
    go_wp2;go_ret;exact⟨by rw[c.out];rfl,cW _ _⟩
   have c:Hid (p8 4 0 y 2 n=aL):=by show _=_;simp[p8,g]
   go_enter func76,ntmps76
   go_wp2;go_ret;exact⟨by rw[c.out];rfl,cW _ _⟩
  have c:Hid (p8 4 x y 2 n=aL):=by show _=_;simp[p8,f]
  go_enter func76,ntmps76
  go_wp2;go_ret;exact⟨by rw[c.out];rfl,cW _ _⟩
 have h:((kn:Int)==2)=aL:=bX
 have c:Hid (p8 4 x y kn n=aL):=by show _=_;simp[p8,d]
 go_enter func76,ntmps76
 go_wp2;go_ret;exact⟨by rw[c.out];rfl,cW _ _⟩
theorem Re(w:ay)(o:Nat)(op x y:Int)(kc n:Nat)(c0:cz w b o (iz op))(c1:cz w b (o+1) (iz x))(c2:cz w b (o+2) (iz y))(c3:cz w b (o+3) (aj ka kn kc)):
  aB prog 76 #[ak (ah (az b o)),iz n] w λe m=>e=aw (.bool (p8 op x y kn n))∧aC w.heap.size w m:=by
 by_cases c:op=0
 .subst c;exact QB x y kc n c0 c1 c2 c3
 by_cases d:op=1
 .subst d;exact QA x y kc n c0 c1 c2 c3
 by_cases f:op=2
 .subst f;exact Qz x y kc n c0 c1 c2 c3
 by_cases g:op=3
 .subst g;exact Qy x y kc n c0 c1 c2 c3
 by_cases h:op=4
 .subst h;exact Qx x y kc n c0 c1 c2 c3
 have l:Hid (p8 op x y kn n=aL):=by show _=_;simp[p8,c,d,f,g,h]
 have p:(op==0)=aL:=by simpa using c
 have q:(op==1)=aL:=by simpa using d
 have r:(op==2)=aL:=by simpa using f
 have s:(op==3)=aL:=by simpa using g
 have t:(op==4)=aL:=by simpa using h
 go_enter func76,ntmps76
 go_wp2;go_ret;exact⟨by rw[l.out];rfl,cW _ _⟩
def wZ(w:ay)(v:aA):Prop:=∃b o c t,v=ak (ah ⟨b,o,ai⟩)∧w.heap[b]?=ah (.cells c t (0,0))
theorem acJ{w}{u v}(g:wZ w u)(p:wZ w v):∃r,(Op.equal 161 u v).run prog w=.ok r w∧(r=aK->v=u):=by
 obtain⟨b,o,c,t,rfl,l⟩:=g;obtain⟨f,h,q,s,rfl,m⟩:=p;have g:prog.underlying 161=ah (.pointer 36):=underlying161;have hz:=sizeOf36 w;have d:(Op.equalIn 10000 161 (ak (ah ⟨b,o,ai⟩)) (ak (ah ⟨f,h,ai⟩))).run prog w=(sameAddr ⟨b,o,ai⟩ ⟨f,h,ai⟩).run prog w:=by rw[show(10000:Nat)=9999+1 from rfl,Op.equalIn];simp[gM g,hz]
 by_cases e:(⟨b,o,ai⟩:aD)=⟨f,h,ai⟩
 .exact⟨aK,by rw[show Op.equal 161=Op.equalIn 10000 161 from rfl,d,e];exact run_sameAddr_same w _,λ_=>by rw[e]⟩
 exact⟨aL,by rw[show Op.equal 161=Op.equalIn 10000 161 from rfl,d];exact run_sameAddr_other w e l m,by simp⟩
theorem Ou{w}{k}(d:wZ w k):∀(es:List MapEntry)(i:Nat),(∀e∈es,wZ w e.key)->∃r,(Instr.findAsking 161 k es i).run prog w=.ok r w∧∀j v,r=ah (j,v)->∃e,i<=j∧es[j-i]?=ah e∧e.val=v∧e.key=k
 | [],i,_=>⟨ai,by simp[Instr.findAsking],by simp⟩
 |e::es,i,h=>by
  let⟨r,q,hs⟩:=acJ d (h e bQ);cases r
  .let⟨t,l,m⟩:=Ou d es (i+1) (λe p=>h e (by simp[p]));refine⟨t,by simp[Instr.findAsking,q,l],λj v s=>?_⟩;let⟨f,u,c,g⟩:=m j v s;exact⟨f,by omega,by rw[show j-i=(j-(i+1))+1 by omega];simpa using c,g⟩
  simp_all[Instr.findAsking]
def qi(w0 w:ay)(mb:Nat):Prop:=∃es clock,w.heap[mb]?=ah (Obj.map es clock)∧∀e∈es.toList,wZ w0 e.key∧e.val=.agg #[]
theorem wZ.up(f:aC w0.heap.size w0 w){v:aA}(h:wZ w0 v):wZ w v:=by obtain⟨b,o,c,t,e,d⟩:=h;exact⟨b,o,c,t,e,(f.block b (bY.1 d).1).trans d⟩
theorem qi.keep{d:ay}(h:qi w0 w mb)(g:d.heap[mb]?=w.heap[mb]?):qi w0 d mb:=by obtain⟨es,c,e,f⟩:=h;exact⟨es,c,g.trans e,f⟩
theorem qi.new(w0 W:ay):qi w0 (bC W (.map #[] 0)) W.heap.size:=⟨#[],0,eW _ _,λe h=>by simp at h⟩
theorem aag{w}(b){k}(d:wZ w k):(Instr.checkKey b 10000 161 k).run prog w=.ok () w:=by obtain⟨b1,o,c,t,rfl,f⟩:=d;have e:prog.underlying 161=ah (.pointer 36):=underlying161;rw[show(10000:Nat)=9999+1 from rfl,Instr.checkKey];simp[gM e]
theorem aac{w}{k}(c:wZ w k)(es)(h:∀e∈es,wZ w e.key):∃r,(Instr.findKey 161 k es).run prog w=.ok r w∧∀j v,r=ah (j,v)->∃e,es[j]?=ah e∧e.val=v∧e.key=k:=by
 have g:prog.underlying 161=ah (.pointer 36):=underlying161;cases es with
 |nil=>simp_all[Instr.findKey,Instr.findNow]
 |cons e es=>let⟨r,d,f⟩:=Ou c (e::es) 0 h;simp_all[Instr.findNow,Instr.sameNow,Instr.findKey]
variable{k:aA}
theorem qi.look(h:qi w0 w mb)(l:aC w0.heap.size w0 w)(f:wZ w0 k):∃r:Bool,(Instr.lookup 160 (.map (ah mb)) k aK).run prog w=.ok (.tuple #[.agg #[],.bool r]) w:=by
 obtain⟨es,c,q,g⟩:=h;have m:=f.up l;have z:prog.underlying 160=ah (.map 161 162):=underlying160;let⟨r,A,u⟩:=aac m es.toList λe d=>(g e d).1.up l;have v:=aag es.isEmpty m;have hz:=ZP w;have y:=ab2 (P:=prog) q;cases r with
 |none=>simp_all[Instr.lookup]
 |some p=>
  let⟨e,d,s,_⟩:=u p.1 p.2 rfl;have t:p.2=.agg #[]:=by rw[<-s];exact(g e (cH d)).2
  simp_all[Instr.lookup]
theorem qi.set{es c:Array MapEntry}{d f:Nat}(g:w.heap[mb]?=ah (Obj.map es d))(h:∀e∈c.toList,wZ w0 e.key∧e.val=.agg #[]):
  qi w0 {w with heap:=w.heap.setIfInBounds mb (.map c f)} mb∧dV mb w {w with heap:=w.heap.setIfInBounds mb (.map c f)}:=by
 have H:=Go.MapKept.heap_set (o':=.map c f) g;exact⟨⟨c,f,H.1,h⟩,⟨rfl,rfl,rfl,by simp,λk _ hs=>H.2 k hs⟩⟩
theorem qi.store(h:qi w0 w mb)(y:aC w0.heap.size w0 w)(q:wZ w0 k):∃u,(Instr.mapUpdate 160 (.map (ah mb)) k (.agg #[])).run prog w=.ok () u∧qi w0 u mb∧dV mb w u:=by
 obtain⟨es,f,d,C⟩:=h;have m:=q.up y;have A:prog.underlying 160=ah (.map 161 162):=underlying160;let⟨r,B,D⟩:=aac m es.toList λe g=>(C e g).1.up y;have v:=aag aL m;have z:=ab2 (P:=prog) d;cases r with
 |none=>refine⟨_,by simp[Instr.mapUpdate,gM A,z,v,B,ab1 _ d];rfl,qi.set d ?_⟩;grind
 |some p=>
  let⟨e,g,E,s⟩:=D p.1 p.2 rfl;have l:es[p.1]?=ah e:=by simpa using g
  have ks:(Instr.keyThatStays k k).run prog w=.ok k w:=by obtain⟨b1,o,c,t,rfl,_⟩:=m;simp[Instr.keyThatStays,Instr.sameBits]
  refine⟨_,by simp[Instr.mapUpdate,gM A,z,v,B,l,s,ks,ab1 _ d];rfl,qi.set d ?_⟩;grind[Go.MapFrom.mem_modify]
def RO(told:List Pr)(S:List rl)(q:Pr):Prop:=q∈told∨q.1=q.2∨∃st∈S,st.1=q
variable{told M:List Pr}{S:List rl}
theorem RO.mono{c:List rl}(h:∀st∈S,st∈c){q:Pr}(k:RO told S q):RO told c q:=by
 obtain k|k|⟨st,k1,k2⟩:=k
 .exact .inl k
 .exact .inr (.inl k)
 exact .inr (.inr ⟨st,h st k1,k2⟩)
theorem lD:∀(r l:List Pr),(∀q∈l,q∈fK l r)∧(∀q∈r,q∈fK l r)∧∀q∈fK l r,q∈l∨q∈r
 | [],l=>by simp[fK]
 |a::r,l=>by let⟨c,d,e⟩:=lD r (if a∈l then l else l++[a]);grind[fK]
def uf(n:Nat)(q:Pr):Prop:=q.1<n∧q.2<n
theorem uf.ord{y:Nat}(c:x<n)(d:y<n):uf n (eT x y):=by grind[uf,eT]
def vY:=@uf.ord
def abD(n:Nat)(st:rl):Prop:=uf n st.1∧∀q∈st.2,uf n q
structure Abt(told:List Pr)(n:Nat)(S:List rl)(G:List Pr):Prop where
 pre:∀st∈S,∀q∈st.2,RO told S q∨q∈G
 Z8:∀st∈S,abD n st
 four:∀st∈S,st.2.length<=4
theorem Bv{told:List Pr}{c:Pr->List Pr}{n:Nat}(R:∀p,∀q∈c p,uf n q)(O:∀p,bB (c p)<=4)(a)(H:a<n):∀(p:List Nat)(t:Bool)(S:List rl)(G:List Pr),(∀x r,p=x::r->(t=aK->x=a)∧RO told S (eT a x))->(∀x∈p,x<n)->Abt told n S G->
  Abt told n (iP told c a t p S G).1 (iP told c a t p S G).2∧(∀st∈S,st∈(iP told c a t p S G).1)∧(∀q∈G,q∈(iP told c a t p S G).2)∧(∀z,p.getLast?=ah z->RO told (iP told c a t p S G).1 (eT a z))∧(iP told c a t p S G).1.length<=bB S+2*bB p
 | [],t,S,G,_,_,s=>by grind[iP]
 | [x],t,S,G,U,_,s=>by grind[iP]
 |x::y::r,t,S,G,U,I,s=>by
  have B:=I x bQ;have C:=I y bQ;let⟨J,L⟩:=U x (y::r) rfl;rw[iP];obtain⟨S1,d⟩:=bK ((if eT x y∈told then S else S++[(eT x y,c (eT x y))]));obtain⟨E,v⟩:=bK ((if eT x y∈told then G else fK G (c (eT x y))));obtain⟨S2,f⟩:=bK (S1++(if t then[] else[(eT a y,[eT a x,eT x y])]));rw[<-d,<-v,<-f];have m:∀st∈S,st∈S1:=λst h=>by rw[d];split<;>simp[h]
  have g:∀st∈S1,st∈S2:=λst h=>by rw[f];simp[h]
  have D:∀q∈G,q∈E:=λq h=>by
   rw[v]
   split
   .exact h
   exact(lD _ _).1 q h
  have hl:RO told S1 (eT x y):=by
   rw[d]
   split
   .rename_i h;exact .inl h
   exact .inr (.inr ⟨(eT x y,c (eT x y)),by simp,rfl⟩)
  have u:Abt told n S1 E:=by
   refine⟨λst h q l=>?_,λst h=>?_,λst h=>?_⟩
   .have:st∈S∨(eT x y∉told∧st=(eT x y,c (eT x y))):=by
     rw[d] at h
     split at h
     .exact .inl h
     rename_i A;obtain h|h:=cU.1 h
     .exact .inl h
     exact .inr ⟨A,by simpa using h⟩
    obtain h|⟨A,rfl⟩:=this
    .obtain k|k:=s.pre st h q l
     .exact .inl (k.mono m)
     exact .inr (D q k)
    right;rw[v,cC A];exact(lD _ _).2.1 q l
   .rw[d] at h
    split at h
    .exact s.Z8 st h
    obtain h|h:=cU.1 h
    .exact s.Z8 st h
    simp at h;subst h;exact⟨uf.ord B C,λq l=>R _ q l⟩
   rw[d] at h
   split at h
   .exact s.four st h
   obtain h|h:=cU.1 h
   .exact s.four st h
   simp at h;subst h;exact O _
  have F:Abt told n S2 E:=by
   refine⟨λst h q l=>?_,λst h=>?_,λst h=>?_⟩
   .rw[f] at h;obtain h|h:=cU.1 h
    .obtain k|k:=u.pre st h q l
     .exact .inl (k.mono g)
     exact .inr k
    cases t
    .simp at h;subst h;simp at l;obtain rfl|rfl:=l
     .exact .inl ((L.mono m).mono g)
     exact .inl (hl.mono g)
    simp at h
   .rw[f] at h;obtain h|h:=cU.1 h
    .exact u.Z8 st h
    cases t
    .simp at h;subst h;refine⟨uf.ord H C,λq l=>?_⟩;simp at l;obtain rfl|rfl:=l
     .exact uf.ord H B
     exact uf.ord B C
    simp at h
   rw[f] at h;obtain h|h:=cU.1 h
   .exact u.four st h
   cases t
   .simp at h;subst h;simp
   simp at h
  have N:RO told S2 (eT a y):=by
   cases t
   .exact .inr (.inr ⟨(eT a y,[eT a x,eT x y]),by rw[f];simp,rfl⟩)
   have:=J rfl;subst this;exact hl.mono g
  have T:bB S2<=bB S+2:=by
   have V:bB S1<=bB S+1:=by rw[d];split<;>simp
   rw[f];cases t<;>simp<;>omega
  let⟨k1,k2,k3,k4,W⟩:=Bv R O a H (y::r) aL S2 E (λY X e=>by simp at e;obtain⟨rfl,rfl⟩:=e;exact⟨by simp,N⟩) (λz hz=>I z (by simp at hz⊢;right;exact hz)) F;grind
theorem By{L:List (List Nat)}{E:iE}(Y:wu L E){told:List Pr}{c:Pr->List Pr}(hi:∀p,∀q∈c p,uf (bB L) q)(X:∀p,bB (c p)<=4)(ho:∀p,∀q∈c p,q.1<=q.2)(Z:∀x y,qv E x y->eT x y∉told->∀q∈c (eT x y),gO E q.1 q.2∧q.1<bB L∧q.2<bB L):∀(f i:Nat)(S:List rl)(G:List Pr)(d:List rl),G.Nodup->(∀q∈G,gO E q.1 q.2∧q.1<bB L∧q.2<bB L)->(∀q∈G,q.1<=q.2)->
  Abt told (bB L) S G->(∀j g,j<i->G[j]?=ah g->RO told S g)->bB S<=2*bB L*i->i<=bB G->p9 L told c f i S G=ah d->(∀st∈d,∀q∈st.2,RO told d q)∧(∀st∈d,abD (bB L) st)∧(∀st∈d,st.2.length<=4)∧bB d<=2*bB L*(bB L*bB L)
 |0,i,S,G,d,_,_,_,_,_,_,_,h=>by simp[p9] at h
 |f+1,i,S,G,d,A,v,F,C,hd,H,ad,h=>by
  rw[p9] at h
  split at h
  .rename_i hg;cases h
   have ab:bB G<=i:=cG
   refine⟨λst V q l=>?_,C.Z8,C.four,?_⟩
   .obtain k|k:=C.pre st V q l
    .exact k
    let⟨j,hj,e⟩:=gY k;exact hd j q bO cG
   have:=xD A λq l=>(v q l).2;exact bZ H (KG _ bO)
  rename_i g hg
  split at h
  .cases h
  rename_i p hp;have N:g∈G:=cG
  let⟨J,z,I⟩:=v g N;let⟨W,R,T,ag,U,B⟩:=FK Y J z I;rw[R] at hp;cases hp
  have ac:RO told S (eT g.1 g.1):=.inr (.inl (by simp[eT]));let⟨k1,k2,k3,k4,k5⟩:=Bv hi X g.1 z (g.1::W) aK S G (λx r e=>by grind) B C;let⟨n1,n2,⟨u,n3⟩,_⟩:=yD (Q:=λq=>gO E q.1 q.2∧q.1<bB L∧q.2<bB L) Z g.1 (g.1::W) aK S G U A v;have aa:i<bB G:=cG
  have al:bB (g.1::W)<=bB L:=sK T B;refine By Y hi X ho Z f (i+1) _ _ d n1 n2 (λq l=>?_) k1 (λj g' hj m=>?_) ?_ ?_ h
  .have:∀(p:List Nat)(t:Bool)(S:List rl)(G:List Pr),(∀q∈G,q.1<=q.2)->∀q∈(iP told c g.1 t p S G).2,q.1<=q.2:=by
    intro p
    induction p with
    |nil=>grind[iP]
    |cons x r ih=>
     intro t S G v q l;cases r with
     |nil=>grind[iP]
     |cons y r=>
      rw[iP] at l;refine ih _ _ _ (λD s=>?_) q l
      split at s
      .exact v D s
      obtain e|e:=(lD _ _).2.2 D s
      .exact v D e
      exact ho _ D e
   exact this _ _ _ _ F q l
  .rw[n3] at m;by_cases O:j<i
   .rw[df bO] at m;exact(hd j g' O m).mono k2
   grind[List.getElem?_append_left,vE]
  .grind
  grind
theorem Bu{L:List (List Nat)}{E:iE}(d:wu L E){argp:Pr->List Pr}(r:∀p,∀q∈argp p,uf (bB L) q)(c:∀p,bB (argp p)<=4)(t:∀p,∀q∈argp p,q.1<=q.2)(e:∀x y,qv E x y->eT x y∉told->∀q∈argp (eT x y),gO E q.1 q.2∧q.1<bB L∧q.2<bB L){g:Pr}(v:gO E g.1 g.2)(f:g.1<bB L)(l:g.2<bB L)(m:g.1<=g.2)(h:yC L told argp g=ah S):
  (∀st∈S,∀q∈st.2,RO told S q)∧(∀st∈S,abD (bB L) st)∧(∀st∈S,st.2.length<=4)∧bB S<=2*bB L*(bB L*bB L):=
 By d r c t e _ 0 [] [g] S bQ (λq u=>by grind) (λq u=>by grind) ⟨λ_ h=>(nomatch h),λ_ h=>(nomatch h),λ_ h=>(nomatch h)⟩ (λj _ s=>absurd s (iR _)) bQ bQ h
def FB(M:List Pr)(P:Pb):Nat:=M.countP λa=>(P.num a).isNone
theorem xu(P:Pb)(a b:Pr):(P.fD a).2.num b=if P.num b=ai∧a=b then ah (P.count+1) else P.num b:=by
 unfold Pb.fD;cases h:P.num a with
 |some x=>grind
 |none=>simp only;rw[N0 (V:=P.vars) (a:=b) (b:=a) (x:=P.count+1) {P with count:=P.count+1,vars:=P.vars++[(a,P.count+1)],lemmas:=if a.1=a.2 then P.lemmas++[[((P.count+1:Nat):Int)]] else P.lemmas} rfl P rfl];grind
structure Gr(M:List Pr)(j:Nat)(P Q:Pb):Prop where
 lZ:P.count<=Q.count
 rem:Q.count+FB M Q<=P.count+FB M P
 vars:bB Q.vars+P.count=bB P.vars+Q.count
 Dt:bB Q.lemmas+P.count<=bB P.lemmas+Q.count+j
 kn:bB Q.known<=bB P.known+j
theorem Gr.refl(M P):Gr M 0 P P:=⟨bT _,bT _,rfl,bT _,bT _⟩
variable{P Q:Pb}
theorem Gr.trans{R:Pb}(h:Gr M i P Q)(k:Gr M j Q R):Gr M (i+j) P R:=by
 refine⟨bZ h.lZ k.lZ,bZ k.rem h.rem,?_,?_,?_⟩
 .have:=h.vars;have:=k.vars;omega
 .have:=h.Dt;have:=k.Dt;omega
 have:=h.kn;have:=k.kn;omega
theorem Gr.count(h:Gr M j P Q):Q.count<=P.count+bB M:=by have:=h.rem;grind[FB]
theorem PH(M P a)(g:a∈M)(f:P.num a=ai):FB M (P.fD a).2+1<=FB M P:=by
 unfold FB
 induction M with
 |nil=>cases g
 |cons b M m=>
  have h:∀M:List Pr,M.countP (λd=>((P.fD a).2.num d).isNone)<=M.countP (λd=>(P.num d).isNone):=λM=>by refine List.countP_mono_left λx _ l=>?_;grind[xu]
  rw[As,As];by_cases c:b=a
  .subst c;have e:((P.fD b).2.num b).isNone=aL:=by rw[xu,cY ⟨f,rfl⟩];rfl
   grind
  have e:((P.fD a).2.num b).isNone=(P.num b).isNone:=by rw[xu,cC λk=>c k.2.symm]
  grind
theorem Gr.fD(M P a)(h:P.num a≠ai∨a∈M):Gr M 0 P (P.fD a).2:=by
 cases d:P.num a with
 |some x=>grind[Pb.fD,Gr.refl]
 |none=>
  have c:a∈M:=cG
  have e:(P.fD a).2={P with count:=P.count+1,vars:=P.vars++[(a,P.count+1)],lemmas:=if a.1=a.2 then P.lemmas++[[((P.count+1:Nat):Int)]] else P.lemmas}:=by grind[Pb.fD]
  have f:=PH M P a c d;refine⟨?_,?_,?_,?_,?_⟩
  .grind
  .grind
  .grind
  .grind
  grind
theorem mF(P:Pb)(a b:Pr)(h:P.num b≠ai):(P.fD a).2.num b≠ai:=by grind[xu]
theorem th:∀(r:List Pr)(P:Pb)(b:Pr),P.num b≠ai->(Pb.kD r P).2.num b≠ai
 | [],P,b,h=>h
 |a::r,P,b,h=>by
  rw[Pb.kD]
  split
  .exact th r P b h
  exact th r _ b (mF P a b h)
theorem Gr.kD(M):∀(r:List Pr)(P:Pb),(∀q∈r,q.1=q.2∨P.num q≠ai∨q∈M)->Gr M 0 P (Pb.kD r P).2
 | [],P,_=>Gr.refl M P
 |a::r,P,h=>by
  rw[Pb.kD]
  split
  .exact Gr.kD M r P (λq d=>h q (by simp[d]))
  rename_i c;have e:=Gr.fD M P a ((h a bQ).resolve_left c);have f:=Gr.kD M r (P.fD a).2 (λq d=>by
   obtain k|k|k:=h q (by simp[d])
   .exact .inl k
   .exact .inr (.inl (mF P a q k))
   exact .inr (.inr k))
  exact e.trans f
theorem Gr.step(M P)(st:rl)(m:P.num st.1≠ai∨st.1∈M)(p:∀q∈st.2,q.1=q.2∨P.num q≠ai∨q∈M):Gr M 1 P (P.step st)∧∀b,P.num b≠ai->(P.step st).num b≠ai:=by
 unfold Pb.step
 split
 .exact⟨⟨bT _,bT _,rfl,iD _,iD _⟩,λb h=>h⟩
 obtain⟨c,d⟩:∃c:Pb,c={P with known:=P.known++[(st.1,nH st.2)]}:=⟨_,rfl⟩
 rw[<-d];have s:∀b,c.num b=P.num b:=λb=>by rw[d];rfl
 have l:FB M c=FB M P:=by grind[FB]
 have e:=Gr.fD M c st.1 cG;have f:=Gr.kD M (nH st.2) (c.fD st.1).2 (λq t=>by grind[Jb,mF])
 have g:=e.trans f;have c0:c.count=P.count:=by rw[d]
 have v:c.vars=P.vars:=by rw[d]
 have u:c.lemmas=P.lemmas:=by rw[d]
 have k0:bB c.known=bB P.known+1:=cG
 refine⟨⟨?_,?_,?_,?_,?_⟩,λb r=>?_⟩
 .have:=g.lZ;grind
 .have:=g.rem;rw[c0,l] at this;exact this
 .have:=g.vars;grind
 .have:=g.Dt;grind
 .have:=g.kn;grind
 exact th _ _ b (mF c _ _ cG)
theorem Gr.steps(M):∀(S:List rl)(P:Pb),(∀st∈S,(P.num st.1≠ai∨st.1∈M)∧∀q∈st.2,q.1=q.2∨P.num q≠ai∨q∈M)->Gr M (bB S) P (S.foldl Pb.step P)
 | [],P,_=>Gr.refl M P
 |st::S,P,h=>by
  let⟨g,k1⟩:=Gr.step M P st (h st bQ).1 (h st bQ).2;have l:=Gr.steps M S (P.step st) (λc m=>by
   let⟨d,f⟩:=h c (by simp[m]);refine⟨d.imp (k1 _) id,λq p=>?_⟩;obtain e|e|e:=f q p
   .exact .inl e
   .exact .inr (.inl (k1 _ e))
   exact .inr (.inr e))
  have:=g.trans l;rw[List.foldl_cons,ed,Nat.add_comm];exact this
theorem Es(P):∀(S:List rl)(ms:List Pr),(∀q∈ms,q∈oI P S ms)∧∀st∈S,P.num st.1≠ai∨st.1∈oI P S ms
 | [],ms=>⟨λq h=>h,λ_ h=>nomatch h⟩
 |s::r,ms=>by
  rw[oI];let⟨d,f⟩:=Es P r (if(jX P.vars s.1).isSome then ms else fK ms [s.1]);refine⟨λq e=>d q ?_,λst c=>?_⟩
  .split
   .exact e
   simp_all[lD]
  obtain rfl|c:=fA.1 c
  .by_cases hs:(jX P.vars st.1).isSome=aK
   .refine .inl λk=>?_;have:jX P.vars st.1=P.num st.1:=rfl;grind
   refine .inr (d _ ?_);rw[cC hs];exact(lD _ _).2.1 _ bQ
  grind
theorem Gr.proof(P)(p:∀q∈told,P.num q≠ai)(d:∀st∈S,∀q∈st.2,RO told S q)(k):Gr (oI P S []) (bB (S.take k)) P ((S.take k).foldl Pb.step P):=by
 refine Gr.steps _ _ P λst h=>?_;have f:=(Es P S []).2;have c:st∈S:=cG
 refine⟨f st c,λq g=>?_⟩;obtain e|e|⟨r,l,m⟩:=d st c q g
 .grind
 .exact .inl e
 grind
def Shp(ls:List Nat):Prop:=∃m r,ls=m::r∧r.Pairwise (· < ·)∧∀x∈r,x<m
def Al(n:Nat)(c:List Int):Prop:=(bB c<=12∨(bB c<=1000∧Shp (c.map jQ)))∧∀x∈c,x≠0∧x.natAbs<=n
theorem Al.mono{m:Nat}{c:List Int}(h:Al n c)(e:n<=m):Al m c:=⟨h.1,λx d=>⟨(h.2 x d).1,bZ (h.2 x d).2 e⟩⟩
structure Pk(P:Pb):Prop where
 vars:∀e∈P.vars,1<=e.2∧e.2<=P.count
 Dt:∀c∈P.lemmas,Al P.count c
variable{a:Pr}
theorem Pk.num(h:Pk P)(c:P.num a=ah x):1<=x∧x<=P.count:=by
 unfold Pb.num at c;cases d:P.vars.find? λe=>decide (e.1=a) with
 |none=>grind
 |some e=>
  rw[d] at c;cases c
  exact h.vars e (mx d)
theorem Pk.fD(h:Pk P)(a):Pk (P.fD a).2∧(1<=(P.fD a).1∧(P.fD a).1<=(P.fD a).2.count)∧P.count<=(P.fD a).2.count:=by
 unfold Pb.fD;cases g:P.num a with
 |some x=>exact⟨h,h.num g,bT _⟩
 |none=>
  refine⟨⟨λe f=>?_,λc d=>?_⟩,⟨Nat.le_add_left _ _,bT _⟩,iD _⟩
  .obtain f|f:=cU.1 f
   .exact⟨(h.vars e f).1,iU (h.vars e f).2⟩
   grind
  simp only at d⊢
  split at d
  .obtain d|d:=cU.1 d
   .exact(h.Dt c d).mono (iD _)
   simp at d;subst d;refine⟨.inl bQ,λx l=>?_⟩;grind
  exact(h.Dt c d).mono (iD _)
theorem Pk.kD:∀(r:List Pr)(P:Pb),Pk P->Pk (Pb.kD r P).2∧P.count<=(Pb.kD r P).2.count∧(Pb.kD r P).1.length<=bB r∧∀x∈(Pb.kD r P).1,x≠0∧x.natAbs<=(Pb.kD r P).2.count
 | [],P,h=>⟨h,bT _,bT _,λ_ h=>nomatch h⟩
 |a::r,P,h=>by
  rw[Pb.kD]
  split
  .let⟨c,d,e,f⟩:=Pk.kD r P h;exact⟨c,d,iU e,f⟩
  let⟨m,l,p⟩:=h.fD a;let⟨c,d,e,f⟩:=Pk.kD r (P.fD a).2 m;refine⟨c,bZ p d,by simpa using e,λx g=>?_⟩;obtain rfl|g:=fA.1 g
  .have:=l.1;have:=l.2;simp only;omega
  exact f x g
theorem Uj(ps):bB (nH ps)=4:=by simp[nH]
theorem Pk.step(h:Pk P)(st:rl):Pk (P.step st):=by
 unfold Pb.step
 split
 .exact h
 have g:Pk {P with known:=P.known++[(st.1,nH st.2)]}:=⟨h.vars,h.Dt⟩
 generalize {P with known:=P.known++[(st.1,nH st.2)]}=f at *;let⟨m,s,t⟩:=g.fD st.1;let⟨e,p,l,q⟩:=Pk.kD (nH st.2) (f.fD st.1).2 m;refine⟨e.vars,λc d=>?_⟩;obtain d|d:=cU.1 d
 .exact e.Dt c d
 simp at d;subst d;rw[Uj] at l;refine⟨.inl bX,λx r=>?_⟩;grind
theorem Pk.steps:∀(S:List rl)(P:Pb),Pk P->Pk (S.foldl Pb.step P)
 | [],_,h=>h
 |st::S,_,h=>Pk.steps S _ (h.step st)
def Pb.names:List Pr->Pb->List Nat×Pb
 | [],P=>([],P)
 |a::r,P=>((P.fD a).1::(Pb.names r (P.fD a).2).1,(Pb.names r (P.fD a).2).2)
theorem Cf:∀(r:List Pr)(a:Pr)(P:Pb),Pb.names (r++[a]) P=((Pb.names r P).1++[((Pb.names r P).2.fD a).1],((Pb.names r P).2.fD a).2)
 | [],_,_=>rfl
 |b::r,a,P=>by rw[eU,Pb.names,Cf r a (P.fD b).2];rfl
theorem qD:∀(r:List Pr)(P:Pb),(Pb.names r P).1.length=bB r
 | [],_=>rfl
 |a::r,P=>by rw[Pb.names,ed,qD r,ed]
theorem yQ:∀(r:List Pr)(P:Pb),(∀q∈r,P.num q≠ai)->(Pb.names r P).2=P∧(Pb.names r P).1=r.map λq=>(P.num q).getD 0
 | [],_,_=>⟨rfl,rfl⟩
 |a::r,P,h=>by
  have g:=h a bQ;cases l:P.num a with
  |none=>grind
  |some x=>
   have e:P.fD a=(x,P):=by grind[Pb.fD]
   let⟨d,f⟩:=yQ r P (λq c=>h q (by simp[c]));grind[Pb.names]
def Pb.whole(P:Pb)(a:Pr)(qs:List Pr):Pb:=
 {(Pb.names qs (P.fD a).2).2 with lemmas:=(Pb.names qs (P.fD a).2).2.lemmas++[((P.fD a).1:Int)::(Pb.names qs (P.fD a).2).1.map λn:Nat=>-(n:Int)]}
structure vd(P:Pb):Prop where
 lZ:P.count=bB P.vars
 at_:∀(i:Nat)(e:Pr×Nat),P.vars[i]?=ah e->e.2=i+1
 nd:(P.vars.map (·.1)).Nodup
theorem vd.Cb(h:vd P)(c:P.num a=ah x):1<=x∧P.vars[x-1]?=ah (a,x):=by
 unfold Pb.num at c;cases d:P.vars.find? λe=>decide (e.1=a) with
 |none=>grind
 |some e=>
  rw[d] at c;cases c
  have f:=mx d;have g:e.1=a:=cG
  let⟨i,p,m⟩:=gY f;have l:P.vars[i]?=ah e:=cG
  have:=h.at_ i e l;grind
theorem qm(P:Pb)(a:Pr):P.num a=ai↔a∉P.vars.map (·.1):=by grind[Pb.num,Option.map_eq_none_iff,List.find?_eq_none]
theorem vd.aaW(h:vd P)(m:P.vars[i]?=ah (a,x)):P.num a=ah (i+1):=by
 cases f:P.num a with
 |none=>grind[absurd,List.mem_of_getElem?,qm]
 |some y=>
  obtain⟨g,l⟩:=h.Cb f;have d:(P.vars.map (·.1))[i]?=ah a:=cG
  have e:(P.vars.map (·.1))[y-1]?=ah a:=cG
  have c:i<bB (P.vars.map (·.1)):=(bU.1 d).1;have:=(List.getElem?_inj c h.nd).1 (d.trans e.symm);grind
theorem vd.inj(h:vd P){b:Pr}(c:P.num a=ah x)(d:P.num b=ah x):a=b:=by have e:=(h.Cb c).2;have f:=(h.Cb d).2;grind
theorem vd.fD(h:vd P)(a):vd (P.fD a).2∧(P.fD a).2.vars.map (·.1)=fK (P.vars.map (·.1)) [a]:=by
 unfold Pb.fD;cases f:P.num a with
 |some x=>
  refine⟨h,?_⟩;have:a∈P.vars.map (·.1):=by refine ab3 λk=>?_;rw[(qm P a).2 k] at f;cases f
  grind[fK]
 |none=>
  have g:=(qm P a).1 f;refine⟨⟨?_,λi e c=>?_,?_⟩,?_⟩
  .simp[h.lZ]
  .simp only at c;by_cases d:i<bB P.vars
   .rw[df d] at c;exact h.at_ i e c
   rw[dr bO] at c;have:i-bB P.vars=0:=cG
   rw[this] at c;simp at c;subst c;simp[h.lZ];omega
  .simp[fZ,iG,nZ];rw[sx];refine⟨h.nd,by simp,λx l y m=>?_⟩;grind
  grind[fK]
theorem De(l):∀(r s:List Pr),fK l (r++s)=fK (fK l r) s:=by
 intro r
 induction r generalizing l with
 |nil=>intro s;rfl
 |cons a r c=>intro s;exact c _ s
def ni(sz:Nat)(W:ay)(u:aA)(n:Nat)(xs:List aA):Prop:=∃a c,u=aj a n c∧bB xs=n*sz∧(∀v∈xs,v.oneCell'=aK)∧(n=0∨∃b off,a=ah ⟨b,off,ai⟩∧∀(j:Nat)(v:aA),xs[j]?=ah v->aU W ⟨b,off+j,ai⟩=ah v)
theorem ni.below{l:Nat}{W W':ay}{u:aA}{m:List aA}(h:ni l W u n m)(t:aC W.heap.size W W'):ni l W' u n m:=by obtain⟨a,c,p,q,r,s⟩:=h;refine⟨a,c,p,q,r,s.imp id ?_⟩;rintro⟨b,d,e,f⟩;exact⟨b,d,e,λj v g=>(t.cell (cV W _ (f j v g))).trans (f j v g)⟩
theorem Vs(w:ay)(n:Nat)(r:n<=1000000000):
  aB prog 132 #[aj ai 0 0,iz n] w λe h=>∃v,e=aw v∧bD h w.heap.size 39 1 v 0 []∧aC w.heap.size w h:=by
 by_cases l:n=0
 .subst l;go_enter func132,ntmps132
  go_wp2;go_ret;exact⟨_,rfl,eR _ _ _ _,cW _ _⟩
 have f:t39.bytes=24:=rfl;have p:¬(281474976710656<(n:Int)*t39.bytes):=by rw[f];omega
 have g:Builtin.nextslicecap n 0=n:=by unfold Builtin.nextslicecap;simp;omega
 have q:¬(281474976710656<Builtin.nextslicecap n 0*t39.bytes):=by rw[g,f];omega
 go_enter func132,ntmps132
 go_wp2;obtain⟨d,c⟩:=bJ ((Question.appendCap n 0 39).cut (w.tape w.drawn (Question.appendCap n 0 39)));have m:n<=d∧d<=aY:=by rw[<-c];simp only[Question.cut];have:=Nat.mod_lt (w.tape w.drawn (Question.appendCap n 0 39)) (show 0<2 ^ 63-n by omega);unfold aY;omega
 simp only[c];go_ret;refine⟨_,rfl,⟨rfl,cI ⟨hz w,d,_,rfl,bT _,eW _ _,dt _,m.2,?_,rfl⟩⟩,((cW (hz w) w).alloc (bT _) _).trans ⟨rfl,rfl,rfl,bT _,λ_ _=>rfl⟩⟩;grind[Array.size_append,size_zeroCells]
theorem TC{P:Program}(w)(t l e:aE)(i:TypeInfo)(h:P.underlying t=ah (.slice e))(g:P.info? e=ah i)(base n c)(d:n<=c)(f m):
  (bw #[t,t] l #[aj base n c,aj f 0 m]).run P w=.ok (aj base n c) w:=by
 cases base<;>cases f<;>simp[bw,gM h,sizeOf,typeInfo,g,Builtin.lenOf,Builtin.firstCells,d,storeCells,loadCells,loadCellsFrom]
theorem zt{P:Program}{f:Array Oper}{d:List Oper}{o:Oper}{a:Act}{Q:Exit->Act->ay->Prop}(g:o.guard=ai)(s x:Operand)(t:aE)(u:o.op=.call {callee:=.builtin .append,args:=#[s,x],argTypes:=#[t,t]})(e:aE)(i:TypeInfo)(v:P.underlying t=ah (.slice e))(r:P.info? e=ah i)(base n c)(hs:a.eval s=aj base n c)(l:n<=c)(m p)(y:a.eval x=aj m 0 p)(h:wpList P f Q d (a.put o.dst (aj base n c)) w):wpList P f Q (o::d) a w:=by
 refine wpList_plain g λK q=>?_;unfold Oper.wp execOp;simp[u,resolve,invoke,builtin,Sem.run_bind,Sem.run_pure,Sd,Xc,iG,nZ,hs,y,TC w t o.type e i v r base n c l m p];exact q _ _ h
def qY(ps:List (Nat×List aA)):List aA:=ps.flatMap (·.2)
def lA(ps:List (Nat×List aA)):Nat:=(ps.map (·.1)).sum
variable{ps:List (Nat×List aA)}
theorem vM(i):lA (ps.take i)<=lA ps:=by grind[lA,List.take_append_drop]
theorem ya{q:Nat×List aA}(h:ps[i]?=ah q):lA (ps.take (i+1))=lA (ps.take i)+q.1∧qY (ps.take (i+1))=qY (ps.take i)++q.2:=by rw[dJ,h];simp[lA,qY]
theorem Zx(w pa pc)(ps:List (Nat×List aA))(hp:∀(i:Nat)(q:Nat×List aA),ps[i]?=ah q->∃b p u,pa=ah (az b p)∧aU w ⟨b,p+i,ai⟩=ah u∧ni 1 w u q.1 q.2)(hN:lA ps<=1000000000)(hl:bB ps<=1000000):
  aB prog 88 #[aj pa (bB ps) pc] w λe w'=>∃v,e=aw v∧bD w' w.heap.size 39 1 v (lA ps) (qY ps)∧aC w.heap.size w w':=by
 obtain⟨n,hn⟩:=bJ (bB ps);have U:=bL hn;have HP:=bL hp;have Y:=bL hN;rw[hn] at hl⊢;clear hp hN hn;go_enter func88,ntmps88
 go_wp2
 go_loopw[3,11] (λt3 C W=>∃i:Nat,i<=n∧C=iz i∧t3=iz (lA (ps.take i):Int)∧W=w) λ_ C _=>n-(aG C).toNat
 case atStart=>grind[lA]
 case round=>
  obtain⟨i,hi,rfl,rfl,rfl⟩:=hrel;have s:=bZ (vM (ps:=ps) i) Y.out;by_cases h:i<n
  .have di:=bM i n;have a4:=fq (a:=i) bO;have ab:i<bB ps:=by rw[U.out];exact h
   have f:=bP ab;obtain⟨b,p,u,rfl,cu,a,c,rfl,_⟩:=HP.out i _ f;have hs:=ya f;have l:=bZ (vM (ps:=ps) (i+1)) Y.out;generalize ps[i]=q at *;obtain⟨G,qx⟩:=q;simp only at cu hs;have F:=bL hs.1;rw[hs.1] at l;clear f hs;generalize lA (ps.take i)=t at *;have a6:IntKind.i64.wrap ((t:Int)+G)=(t:Int)+G:=aew
   have dn:aM ((t:Int)+G<0)=aL:=cP bO
   go_wp2;exact⟨⟨i+1,h,by simp,by rw[F.out];simp,by trivial⟩,by simp[aG];omega⟩
  have di:=bN i n;obtain rfl:i=n:=bO
  have O:ps.take i=ps:=eF (by rw[U.out];exact bT _);rw[O] at s⊢;have GR:=Vs wr (lA ps) s;clear O;obtain⟨a7,r⟩:=bK (lA ps);rw[<-r] at GR s⊢;clear r
  go_wp2_with(go_at_call 132;refine GR.mono ?_;rintro e w1 ⟨v1,rfl,R1,B1⟩);have Z:Hid (bD w1 (hz wr) 39 1 v1 (lA (ps.take 0)) (qY (ps.take 0))∧bz wr w1):=⟨R1,B1⟩
  clear R1 B1 GR;obtain⟨w0,A⟩:=bK wr;rw[<-A] at Z HP;have aa:=bL A;clear A;let⟨i0,L,an,ao,ap⟩:=eB Jy
  go_loopw[6,27] (λt6 D W=>∃j:Nat,j<=i∧D=iz j∧Hid (bD W (hz w0) 39 1 t6 (lA (ps.take j)) (qY (ps.take j))∧bz w0 W)) λ_ D _=>i-(aG D).toNat
  case atStart=>grind
  case round=>
   obtain⟨j,hj,rfl,E⟩:=hrel;let⟨V,T,al⟩:=dZ E.out.1;subst al;by_cases h:j<i
   .have dj:=bM j i;have a5:=fq (a:=j) bO;have ac:j<bB ps:=by rw[U.out];exact h
    have f:=bP ac;obtain⟨b,p,u,rfl,cu,a,c,rfl,B,R,hx⟩:=HP.out j _ f;have hs:=ya f;have l:=bZ (vM (ps:=ps) (j+1)) Y.out;generalize ps[j]=q at *;obtain⟨G,qx⟩:=q;simp only at cu hs B R hx;have F:=bL hs;rw[hs.1] at l;have a2:=(E.out.2.cell (cV w0 _ cu)).trans cu;have d:=E.out.1;have I:=E.out.2.size;have X:=bL E.out.2;generalize lA (ps.take j)=t at *;generalize qY (ps.take j)=xs at *;by_cases N:G=0
    .subst N;have ad:qx=[]:=eE (by simpa using B);subst ad;have ag:t<=T:=by
      obtain⟨e,h0⟩|⟨g,a1,a3,e,_,_,h3,_⟩:=d.2
      .omega
      cases e;exact h3
     have H:Hid (bD wr (hz w0) 39 1 (aj V t T) (lA (ps.take (j+1))) (qY (ps.take (j+1)))∧bz w0 wr):=by rw[F.out.1,F.out.2,gC];exact⟨d,X.out⟩
     go_wp2_with(first|(at_builtin;refine dM ?_));delta aH;refine zt rfl _ _ 116 rfl 39 i0 underlying116 L V t T rfl ag a c rfl ?_
     go_wp2;exact⟨⟨j+1,h,by simp,H⟩,by simp[aG];omega⟩
    obtain⟨sb,so,rfl,J⟩:=hx.resolve_left N
    go_wp2_with(first|(at_builtin;refine dM ?_));delta aH;refine fX _ rfl _ _ 116 rfl (hz w0) 39 i0 _ 1 24 underlying116 L an ao ap rfl bS _ _ _ rfl d (az _ _) G c qx rfl B (λk z hk=>by rw[j9];exact(X.out.cell (cV w0 _ (J k z hk))).trans (J k z hk)) R cJ bO I ?_;intro v8 w8 y m _ a0;have K8:bI (λk=>aP (aT V t T)=ah k) wr w8:=gA (bW _ wr) m λk e=>e;have H:Hid (bD w8 (hz w0) 39 1 v8 (lA (ps.take (j+1))) (qY (ps.take (j+1)))∧bz w0 w8):=by rw[F.out.1,F.out.2];exact⟨y,X.out.trans (K8.below I λq hq=>(dI d hq).1)⟩
    go_wp2;exact⟨⟨j+1,h,by simp,H⟩,by simp[aG];omega⟩
   have dj:=bN j i;obtain rfl:j=i:=bO
   have H:Hid (bD wr (hz w0) 39 1 (.slice V (lA (ps.take j)) T) (lA ps) (qY ps)∧bz w0 wr):=by have:=E.out;rw[eF (by rw[U.out];exact bT _)] at this⊢;exact this
   generalize lA (ps.take j)=t at *
   go_wp2;go_ret;have:=H.out;rw[aa.out] at this;exact⟨_,rfl,this⟩
def Ez:(prog.info? 36).map (λi=>(i.zero,i.size,i.bytes))=ah (ah (.agg #[iz 0,iz 0,iz 0,aj ai 0 0]),4,48):=bV
theorem Vr(w:ay)(n:Nat)(r:n<=1000000000):
  aB prog 53 #[aj ai 0 0,iz n] w λe h=>∃v,e=aw v∧bD h w.heap.size 36 4 v 0 []∧aC w.heap.size w h:=by
 by_cases l:n=0
 .subst l;go_enter func53,ntmps53
  go_wp2;go_ret;exact⟨_,rfl,eR _ _ _ _,cW _ _⟩
 have f:t36.bytes=48:=rfl;have p:¬(281474976710656<(n:Int)*t36.bytes):=by rw[f];omega
 have g:Builtin.nextslicecap n 0=n:=by unfold Builtin.nextslicecap;simp;omega
 have q:¬(281474976710656<Builtin.nextslicecap n 0*t36.bytes):=by rw[g,f];omega
 clear f g;go_enter func53,ntmps53
 go_wp2;obtain⟨d,c⟩:=bJ ((Question.appendCap n 0 36).cut (w.tape w.drawn (Question.appendCap n 0 36)));have m:n<=d∧d<=aY:=by rw[<-c];simp only[Question.cut];have:=Nat.mod_lt (w.tape w.drawn (Question.appendCap n 0 36)) (show 0<2 ^ 63-n by omega);unfold aY;omega
 simp only[c];clear c;go_ret;refine⟨_,rfl,⟨rfl,cI ⟨hz w,d,_,rfl,bT _,eW _ _,dt _,m.2,?_,rfl⟩⟩,((cW (hz w) w).alloc (bT _) _).trans ⟨rfl,rfl,rfl,bT _,λ_ _=>rfl⟩⟩;grind[Array.size_append,size_zeroCells]
theorem Zw(w pa pc)(ps:List (Nat×List aA))(hp:∀(i:Nat)(q:Nat×List aA),ps[i]?=ah q->∃b r u,pa=ah (az b r)∧aU w ⟨b,r+i,ai⟩=ah u∧ni 4 w u q.1 q.2)(hN:lA ps<=1000000000)(hl:bB ps<=1000000):
  aB prog 25 #[aj pa (bB ps) pc] w λe w'=>∃v,e=aw v∧bD w' w.heap.size 36 4 v (lA ps) (qY ps)∧aC w.heap.size w w':=by
 obtain⟨n,hn⟩:=bJ (bB ps);have Z:=bL hn;have HP:=bL hp;have HC:=bL hN;rw[hn] at hl⊢;clear hp hN hn;go_enter func25,ntmps25
 go_wp2
 go_loopw[3,11] (λt3 F W=>∃i:Nat,i<=n∧F=iz i∧t3=iz (lA (ps.take i):Int)∧W=w) λ_ F _=>n-(aG F).toNat
 case atStart=>grind[lA]
 case round=>
  obtain⟨i,hi,rfl,rfl,rfl⟩:=hrel;have C:=bZ (vM (ps:=ps) i) HC.out;by_cases l:i<n
  .have di:=bM i n;have a2:=fq (a:=i) bO;have ab:i<bB ps:=by rw[Z.out];exact l
   have f:=bP ab;obtain⟨b,r,u,rfl,cu,a,c,rfl,_⟩:=HP.out i _ f;have hs:=ya f;have m:=bZ (vM (ps:=ps) (i+1)) HC.out;generalize ps[i]=q at *;obtain⟨H,qx⟩:=q;simp only at cu hs;have A:=bL hs.1;rw[hs.1] at m;clear f hs;generalize lA (ps.take i)=t at *;have a4:IntKind.i64.wrap ((t:Int)+H)=(t:Int)+H:=aew
   have dn:aM ((t:Int)+H<0)=aL:=cP bO
   go_wp2;exact⟨⟨i+1,l,by simp,by rw[A.out];simp,by trivial⟩,by simp[aG];omega⟩
  have di:=bN i n;obtain rfl:i=n:=bO
  have U:ps.take i=ps:=eF (by rw[Z.out];exact bT _);rw[U] at C⊢;have GR:=Vr wr (lA ps) C;clear U;obtain⟨a5,y⟩:=bK (lA ps);rw[<-y] at GR C⊢;clear y
  go_wp2_with(go_at_call 53;refine GR.mono ?_;rintro e w1 ⟨v1,rfl,R1,B1⟩);have J:Hid (bD w1 (hz wr) 36 4 v1 (lA (ps.take 0)) (qY (ps.take 0))∧bz wr w1):=⟨R1,B1⟩
  clear R1 B1 GR;obtain⟨w0,D⟩:=bK wr;rw[<-D] at J HP;have aa:=bL D;clear D;obtain⟨i0,R,an,ao,ap⟩:=eB Ez
  go_loopw[6,27] (λt6 G W=>∃j:Nat,j<=i∧G=iz j∧Hid (bD W (hz w0) 36 4 t6 (lA (ps.take j)) (qY (ps.take j))∧bz w0 W)) λ_ G _=>i-(aG G).toNat
  case atStart=>grind
  case round=>
   obtain⟨j,hj,rfl,s⟩:=hrel;clear J;obtain⟨va,X,al⟩:=dZ s.out.1;subst al;by_cases l:j<i
   .have dj:=bM j i;have a3:=fq (a:=j) bO;have ac:j<bB ps:=by rw[Z.out];exact l
    have f:=bP ac;obtain⟨b,r,u,rfl,cu,a,c,rfl,E,V,hx⟩:=HP.out j _ f;have hs:=ya f;have m:=bZ (vM (ps:=ps) (j+1)) HC.out;generalize ps[j]=q at *;obtain⟨H,qx⟩:=q;simp only at cu hs E V hx;have A:=bL hs;rw[hs.1] at m;have L:=(s.out.2.cell (cV w0 _ cu)).trans cu;have d:=s.out.1;have O:=s.out.2.size;have Y:=bL s.out.2;clear f hs s cu;generalize lA (ps.take j)=t at *;generalize qY (ps.take j)=xs at *;by_cases T:H=0
    .subst T;have ad:qx=[]:=eE (by simpa using E);subst ad;have ag:t<=X:=by
      obtain⟨e,h0⟩|⟨g,a0,a1,e,_,_,h3,_⟩:=d.2
      .omega
      cases e;exact h3
     have I:Hid (bD wr (hz w0) 36 4 (aj va t X) (lA (ps.take (j+1))) (qY (ps.take (j+1)))∧bz w0 wr):=by rw[A.out.1,A.out.2,gC];exact⟨d,Y.out⟩
     clear d Y A
     go_wp2_with(first|(at_builtin;refine dM ?_));delta aH;refine zt rfl _ _ 30 rfl 36 i0 underlying30 R va t X rfl ag a c rfl ?_;clear L
     go_wp2;exact⟨⟨j+1,l,by simp,I⟩,by simp[aG];omega⟩
    obtain⟨sb,so,rfl,B⟩:=hx.resolve_left T
    go_wp2_with(first|(at_builtin;refine dM ?_));delta aH;refine fX _ rfl _ _ 30 rfl (hz w0) 36 i0 _ 4 48 underlying30 R an ao ap rfl bS _ _ _ rfl d (az _ _) H c qx rfl E (λk z hk=>by rw[j9];exact(Y.out.cell (cV w0 _ (B k z hk))).trans (B k z hk)) V cJ bO O ?_;intro v8 w8 p h _ N;have K8:bI (λk=>aP (aT va t X)=ah k) wr w8:=gA (bW _ wr) h λk e=>e;have I:Hid (bD w8 (hz w0) 36 4 v8 (lA (ps.take (j+1))) (qY (ps.take (j+1)))∧bz w0 w8):=by rw[A.out.1,A.out.2];exact⟨p,Y.out.trans (K8.below O λq hq=>(dI d hq).1)⟩
    clear p h N K8 d L B
    go_wp2;exact⟨⟨j+1,l,by simp,I⟩,by simp[aG];omega⟩
   have dj:=bN j i;obtain rfl:j=i:=bO
   have I:Hid (bD wr (hz w0) 36 4 (.slice va (lA (ps.take j)) X) (lA ps) (qY ps)∧bz w0 wr):=by have:=s.out;rw[eF (by rw[Z.out];exact bT _)] at this⊢;exact this
   clear s;generalize lA (ps.take j)=t at *
   go_wp2;go_ret;have:=I.out;rw[aa.out] at this;exact⟨_,rfl,this⟩
