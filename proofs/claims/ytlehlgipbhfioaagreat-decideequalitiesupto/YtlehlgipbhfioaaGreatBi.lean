import Derived.Test.YtlehlgipbhfioaaGreatBf
import Derived.Shelf.SlicesE.Compact
namespace Go.Proofs.YtlehlgipbhfioaaGreat
set_option maxHeartbeats 3000000
set_option maxRecDepth 100000
set_option linter.all false
open Go.RowKit Go.Maps Go.Proofs.Tryz
open Go.Value renaming int->ae,slice->aj,int->aS
open Go.IntKind renaming i64->af
open Go.Obj renaming cells->aq,cells->aR
open Go.Ending renaming returned->aw
open Option renaming some->ah,none->ai
open List renaming range->aO,replicate->aN,length->bB
open Go.RowKit renaming Below->aC,intOf->aG
open Go.World renaming alloc->bC,cell?->aU,drewN->bF
open Go renaming Calls->aB,World->ay,results->aI
open Decidable renaming decide->aM
open Bool renaming false->aL
open Go.Act renaming put->aQ
section
open Go.Sort Go.Lib
section
open Go.Shelf
def Ms:Go.Shelf.Ren:=⟨fun|43=>127|n=>n,fun|0=>0|3=>3|4=>4|22=>178|23=>192|n=>n,fun|n=>n⟩
theorem aa9:Go.Proofs.SlLaysE.n43 prog Ms:={
 mixed:=bV
 f43:=⟨f127.name,by kernel_rfl,func127.trans (congrArg ah bV)⟩
 t0:=underlying0
 a0:=isAgg0
 z0:=sizeOf0
 v0:=zeroValue0
 t3:=underlying3
 a3:=isAgg3
 z3:=sizeOf3
 v3:=zeroValue3
 t4:=underlying4
 a4:=isAgg4
 z4:=sizeOf4
 v4:=zeroValue4
 t22:=underlying178
 a22:=isAgg178
 z22:=sizeOf178
 v22:=zeroValue178
 a23:=isAgg192
 z23:=sizeOf192}
end
def Pu{g}(a)(d:Array Int){w}(f:Holds (aS .i32) w g 0 d)(c:d.size<=9223372036854775807)(b:d.size<=a):
  aB prog 127 #[aj (ah (az g 0)) d.size a] w λe h=>e=aw (.slice (ah (az g 0)) (bB (compactUpTo d d.size)) a)∧∃q,h=putRow (aS .i32) (Sort.ahead w q) g 0 (compactUpTo d d.size++aN (d.size-bB (compactUpTo d d.size)) 0).toArray:=
 AnyE.slices_Compact aa9 (aS .i32) (λ_=>rfl) (EqlAt.intD _ _ .i32) (NeqAt.intD _ _ .i32) 0 zeroValue192 g 0 a d w f c b
end
section
open Go.Sort Go.Lib
variable{W w:ay}{g:Nat}{xs:List Nat}
theorem ky.holds(h:ky W g xs):Holds (aS .i32) W g 0 (xs.map Int.ofNat).toArray:=λj b=>by
 have a:j<bB xs:=by simpa using b
 rw[fM];refine⟨?_,h.frozen j⟩;rw[h.cell (bP a)];simp[a]
theorem ky.put{ys:List Nat}(h:ky W g xs)(hl:bB ys=bB xs)(q:Nat):ky (putRow (aS .i32) (Sort.ahead W q) g 0 (ys.map Int.ofNat).toArray) g ys∧bI (λk=>k=g) W (putRow (aS .i32) (Sort.ahead W q) g 0 (ys.map Int.ofNat).toArray):=by
 constructor
 .unfold ky at h⊢;unfold putRow mapBlock;simp only[Sort.ahead,oP,h,iX,kY,onCells];congr 2;apply Array.ext
  .simp[putCells,hl]
  simp_all[putCells,i32]
 refine⟨rfl,rfl,rfl,?_,λk _ a=>?_⟩
 .simp[putRow,mapBlock,Sort.ahead]
 grind[putRow,mapBlock,Sort.ahead]
def Vk:(prog.info? 192).map (λi=>(i.zero,i.size,i.bytes))=ah (ah (.int .i32 0),1,4):=bV
theorem Qi(w:ay)(n:Nat)(h:n<=1048577):(Instr.makeSlice 178 (iz n) (iz n)).run prog w=.ok (aj (ah (az w.heap.size 0)) n n) (bC w (aq (aN n (.int .i32 0)).toArray 192)):=by obtain⟨f,b,c,d,e⟩:=eB Vk;have a:=oo (P:=prog) w 178 192 f _ underlying178 b c .i64 .i64 (n:Int) (n:Int) bO (kh _) (by rw[e];omega) bO;rw[d] at a;simp only[eS,iq] at a;rw[<-jE];exact a
theorem Eh:∀{xs b:List Nat},xs.Pairwise (· < ·)->b.Pairwise (· < ·)->(∀a,a∈xs↔a∈b)->xs=b
 | [],[],_,_,_=>rfl
 | [],y::b,_,_,h=>by have:=(h y).2 bQ;simp at this
 |x::xs,[],_,_,h=>by have:=(h x).1 bQ;simp at this
 |x::xs,y::b,j,k,h=>by
  obtain⟨f,i⟩:=lR.1 j;obtain⟨b1,b2⟩:=lR.1 k;have e:x=y:=by
   obtain e|e:=fA.1 ((h x).1 bQ)
   .exact e
   obtain c|c:=fA.1 ((h y).2 bQ)
   .exact c.symm
   have l:=b1 x e;have m:=f y c;omega
  subst e;rw[Eh i b2 λa=>⟨λd=>?_,λd=>?_⟩]
  .obtain e|e:=fA.1 ((h a).1 (by simp[d]))
   .have:=f a d;omega
   exact e
  grind
theorem C9(h:xs.Pairwise (·<=·)):∃f:List Nat,compactUpTo (xs.map Int.ofNat).toArray (xs.map Int.ofNat).toArray.size=f.map Int.ofNat∧f.Pairwise (· < ·)∧(∀a,a∈f↔a∈xs)∧bB f<=bB xs:=by
 have c:∀j (v:j<bB xs),(xs.map Int.ofNat).toArray[j]! = ((xs[j]:Nat):Int):=λj v=>by simp[v]
 have s:∀m,m<=bB xs->∃f:List Nat,compactUpTo (xs.map Int.ofNat).toArray m=f.map Int.ofNat∧f.Pairwise (· < ·)∧(∀a,a∈f↔a∈xs.take m)∧bB f<=m:=λm=>by
  induction m with
  |zero=>intro _;exact⟨[],by simp[compactUpTo],yv,by simp,by simp⟩
  |succ m B=>
   intro C;obtain⟨f,t,p,o,x⟩:=B bO;have k:m<bB xs:=bO
   rw[compactUpTo_succ,t];have n:∀a,a∈xs.take (m+1)↔a∈xs.take m∨a=xs[m]:=λa=>by rw[dJ,bP k,fE,cU,dL]
   by_cases d:keeps (xs.map Int.ofNat).toArray m=true
   .rw[cY d,c m k];refine⟨f++[xs[m]],by simp,?_,λa=>?_,by simp;omega⟩
    .rw[kQ];refine⟨p,by simp,λa q b u=>?_⟩;simp at u;subst u;have r:=(o a).1 q;obtain⟨i,y,rfl⟩:=gF.1 r;have z:i<m:=by simp at y;omega
     simp only[List.getElem_take];have l:=yn.1 h;unfold keeps at d;have d:=ft d;obtain d|d:=d
     .omega
     rw[c m k,c (m-1) bO] at d;have D:xs[i]'bO<=xs[m-1]'bO:=by
      by_cases e:i=m-1
      .subst e;exact bT _
      exact l i (m-1) bO bO bO
     have E:xs[m-1]'bO<=xs[m]:=l (m-1) m bO bO bO;omega
    rw[cU,o,dL,n]
   rw[cC d];refine⟨f,by simp,p,λa=>?_,by omega⟩;rw[o,n];refine⟨cB,λq=>q.elim id λe=>?_⟩;unfold keeps at d;simp only[jl,not_or,Classical.not_not] at d;obtain⟨A,d⟩:=d;rw[c m k,c (m-1) bO] at d;have:xs[m]=xs[m-1]'bO:=bO
   rw[e,this];exact gF.2 ⟨m-1,by simp;omega,by simp⟩
 obtain⟨f,t,p,o,x⟩:=s (bB xs) (bT _);grind
theorem Iv(c:Nat)(h:ky w g xs)(l:xs.Pairwise (·<=·))(p:bB xs<=1048576)(j:bB xs<=c):
  aB prog 127 #[aj (ah (az g 0)) (bB xs) c] w λe d=>∃b:List Nat,e=aw (aj (ah (az g 0)) (bB b) c)∧b.Pairwise (· < ·)∧(∀a,a∈b↔a∈xs)∧bB b<=bB xs∧ky d g (b++aN (bB xs-bB b) 0)∧bI (λk=>k=g) w d:=by
 obtain⟨b,f,m,n,o⟩:=C9 l;have C:=Pu c (xs.map Int.ofNat).toArray h.holds bX (by simpa using j);have hs:(xs.map Int.ofNat).toArray.size=bB xs:=bQ
 rw[f,hs] at C;refine C.mono ?_;rintro e d ⟨rfl,q,rfl⟩;have hp:=h.put (ys:=b++aN (bB xs-bB b) 0) bX q;have i:(b++aN (bB xs-bB b) 0).map Int.ofNat=b.map Int.ofNat++aN (bB xs-bB (b.map Int.ofNat)) 0:=bQ
 rw[i] at hp;grind
theorem Qm{H:Option Addr}(cs:List Int)(cc:Nat)(B:oY w H cs)(T:∀x∈cs,x≠0∧x.natAbs<=2000)(S:bB cs<=12∨(bB cs<=1000∧∃m r,cs.map jQ=m::r∧r.Pairwise (· < ·)∧∀x∈r,x<m)):
  aB prog 85 #[aj H (bB cs) cc] w λe w'=>∃g c,e=aw (.slice (ah (az g 0)) (bB (jq cs)) c)∧w.heap.size<=g∧bB (jq cs)<=c∧ky w' g (jq cs++aN (c-bB (jq cs)) 0)∧aC w.heap.size w w':=by
 have HN:=bL S;have hn:bB cs<=1000:=bO
 clear S;have m1:∀W:ay,_:=λW=>Qi W (bB cs) bO;have fS:Hid (∀W:ay,aC w.heap.size w W->∀(j:Nat)(x:Int),cs[j]?=ah x->∃b l,H=ah (az b l)∧aU W ⟨b,l+j,ai⟩=ah (iz x)):=λW hB j x V=>by
  obtain e|⟨b,l,h1,h2⟩:=B.below hB
  .rw[e] at V;simp at V
  grind
 have HB:=bL T;clear B T;generalize D:bB cs=n at *;have f:=bL D;clear D;go_enter func85,ntmps85
 go_wp2;have z:Hid (ky (bC w (aR (Array.replicate n (aS .i32 0)) 192)) w.heap.size ((cs.take 0).map jQ++aN (n-0) 0)∧aC w.heap.size w (bC w (aR (Array.replicate n (aS .i32 0)) 192))):=by refine⟨?_,(cW _ _).alloc (bT _) _⟩;unfold ky;rw[eW];simp[i32]
 generalize(bC w (aR (Array.replicate n (aS .i32 0)) 192))=w1 at *;obtain⟨g,L⟩:=bJ w.heap.size;have fS:=fS.out;have z:=z.out;rw[L] at fS z⊢;have HC:=bL fS;have v:=bL z;have F:=bL L;clear fS z L m1
 go_loopw[11] (λu W=>∃i:Nat,i<=n∧u=iz i∧Hid (ky W g ((cs.take i).map jQ++aN (n-i) 0)∧aC g w W)) λu _=>n-(aG u).toNat
 case atStart=>grind
 case round=>
  obtain⟨i,hi,rfl,o⟩:=hrel;by_cases h:i<n
  .have s:i<bB cs:=by rw[f.out];exact h
   obtain⟨b,l,I,hc⟩:=HC.out wr o.out.2 i _ (bP s);have aa:=HB.out _ (dw s);have LI:=Ji wr cs[i] bO bO;have d:bB ((cs.take i).map jQ++aN (n-i) 0)=n:=by simp[f.out];omega
   have q1:=o.out.1.cell (i:=i) (bP (by rw[d];exact h));have q2:=o.out.1.frozen i;have N:=fq (a:=i) bO;have dn:=qo h;have E:Hid (((cs.take i).map jQ++aN (n-i) 0).set i (jQ cs[i])=(cs.take (i+1)).map jQ++aN (n-(i+1)) 0):=by
    show _=_;have e:n-i=(n-(i+1))+1:=bO
    have R:bB ((cs.take i).map jQ)=i:=bX
    rw[gJ _ _ (by rw[R];exact bT _),R,iN,e,lg,cK,dJ,bP s,fE,fZ,fW];rfl
   subst I;generalize cs[i]=x at *;generalize(((cs.take i).map jQ++aN (n-i) 0)[i]'(by rw[d];exact h))=y at *;clear v d
   go_wp2_with(go_at_call 87;refine LI.mono ?_;rintro e w3 ⟨rfl,rfl⟩);refine⟨⟨i+1,by omega,by simp,?_,o.out.2.setCell (p:=az g i) (bT _) _⟩,by simp[aG];omega⟩;rw[<-E.out];exact o.out.1.set i (jQ x)
  have M:i=n:=bO
  have q:ky wr g (cs.map jQ):=by have:=o.out.1;rw[M,iN,<-f.out,fI] at this;simpa using this
  have t:bB (cs.map jQ)=n:=by simp[f.out]
  have G:=Pt (cs.map jQ) n q (by rw[t];exact HN.out) bO;rw[t] at G;clear v q
  go_wp2_with(go_at_call 126;refine G.mono ?_;rintro e w3 ⟨rfl,ys,X,P,Y,Z⟩;refine dM ?_);delta Aside;have O:bB ys=n:=by rw[P.length_eq,t]
  have Q:=Iv n X Y bO bO;rw[O] at Q;have HR:=bL P;have HK:=bL Z;clear G X P Y Z;apply_assumption
  go_wp2_with(go_at_call 127;refine Q.mono ?_;rintro e w4 ⟨ds,rfl,e2,e3,e4,e5,A⟩);go_ret;have J:ds=jq cs:=Eh e2 (xR cs) (λa=>by rw[e3,HR.out.mem_iff,od,gI])
  rw[<-J];refine⟨g,n,rfl,Nat.le_of_eq F.out,by omega,e5,?_⟩;have k1:=HK.out;have C:g<=wr.heap.size:=by rw[<-F.out];exact o.out.2.size
  rw[F.out];exact o.out.2.trans ⟨A.os.trans k1.os,A.tape.trans k1.tape,A.output.trans k1.output,bZ k1.size A.size,λk U=>(A.block k (cQ (cQ U C) k1.size) bO).trans (k1.block k (cQ U C) bO)⟩
end
def DX{a:Nat}(h:a<=100000000):IntKind.i64.wrap ((a:Int)+1)=(a:Int)+1:=aew
def oX(W:ay)(ca:Option Addr)(css:List (List Int)):Prop:=
 css=[]∨∃b off,ca=ah ⟨b,off,ai⟩∧∀(i:Nat)(cs:List Int),css[i]?=ah cs->∃ra rc,aU W ⟨b,off+i,ai⟩=ah (aj ra (bB cs) rc)∧oY W ra cs
variable{w W W':ay}{ca:Option Addr}{css:List (List Int)}
theorem oX.below{f:ay}(d:aC w.heap.size w f)(h:oX w ca css):oX f ca css:=by
 obtain e|⟨b,a,g,j⟩:=h
 .exact cB e
 refine cI ⟨b,a,g,λi cs l=>?_⟩;let⟨m,n,c,k⟩:=j i cs l;exact⟨m,n,(d.cell (cV w _ c)).trans c,k.below d⟩
variable{i:Nat}{cs:List Int}
theorem oX.at(h:oX W ca css)(a:css[i]?=ah cs):∃b off c d,ca=ah (az b off)∧aU W ⟨b,off+i,ai⟩=ah (aj c (bB cs) d)∧oY W c cs:=by
 obtain e|⟨b,off,f,g⟩:=h
 .rw[e] at a;simp at a
 grind
theorem oY.at(h:oY W ca cs){x:Int}(a:cs[i]?=ah x):∃b off,ca=ah (az b off)∧aU W ⟨b,off+i,ai⟩=ah (iz x):=by
 obtain e|⟨b,off,c,d⟩:=h
 .rw[e] at a;simp at a
 grind
theorem Pv{w}(n)(hn:n<=2000){ca}(T)(h:oX w ca css)(z:bB css<=100000000)(V:∀cs∈css,bB cs<=1048576∧∀x∈cs,x≠0∧x.natAbs<=n):
  aB prog 82 #[iz n,aj ca (bB css) T] w λe w'=>e=aw (iz 0)∧∃m,w'=bF w m:=by
 have R:=bL h;have Q:=bL V;have d0:aM ((n:Int)<0)=aL:=cP bO;have d1:aM ((n:Int)>2000)=aL:=cP bO;generalize C:bB css=N at *;have t:=bL C;go_enter func82,ntmps82
 go_wp2;have D:IntKind.i64.wrap (-(n:Int))=-(n:Int):=aew
 have E:wrap64 (-(n:Int))=-(n:Int):=by unfold wrap64;omega
 go_loopw[17] (λc W=>∃i m:Nat,i<=N∧c=iz i∧W=bF w m) λc _=>N-(aG c).toNat
 case atStart=>exact⟨0,0,dt _,rfl,rfl⟩
 case round=>
  obtain⟨i,m,Y,rfl,rfl⟩:=hrel;by_cases o:i<N
  .have dn:=qo o;have G:=DX (a:=i) (bZ Y z);have g:i<bB css:=by rw[t.out];exact o
   let⟨b,J,P,rc,y,X,B⟩:=oX.at (W:=w) (ca:=ca) R.out (bP g);have H:=Q.out _ (dw g);have s:=bL B;have M:=bL H;subst y;generalize css[i]=cs at *;generalize O:bB cs=L at *;have u:L<=1048576:=O▸M.out.1;have S:=bL O;obtain⟨w0,aa⟩:=bK (bF w m);have v:aU (bF w m) ⟨b,J+i,ai⟩=ah (aj P L rc):=X;have f:Hid (oY (bF w m) P cs):=s.out
   go_wp2
   go_loopw[23] (λd W=>∃j p:Nat,j<=L∧d=iz j∧W=bF w p) λd _=>L-(aG d).toNat
   case atStart=>grind
   case round=>
    obtain⟨j,p,Z,rfl,rfl⟩:=hrel;by_cases l:j<L
    .have U:=qo l;have r:=fq (a:=j) (bZ Z u);have k:j<bB cs:=by rw[S.out];exact l
     let⟨b2,q,F,hx⟩:=oY.at f.out (bP k);have I:=M.out.2 _ (dw k);subst F;have ab:aU (bF w p) ⟨b2,q+j,ai⟩=ah (iz cs[j]):=hx;generalize cs[j]=x at *;have q1:(x==0)=aL:=by simpa using I.1
     have q2:aM (x>(n:Int))=aL:=cP bO;have q3:aM (x < -(n:Int))=aL:=cP bO
     go_wp2;exact⟨⟨j+1,p,by omega,by simp,rfl⟩,by simp[aG];omega⟩
    clear v
    go_wp2;exact⟨⟨i+1,p,by omega,by simp,rfl⟩,by simp[aG];omega⟩
  go_wp2;go_ret;exact⟨rfl,_,rfl⟩
def Ad.clause(A:Ad)(c cb g:Nat)(sp:List Value):Ad:={A with fY:=λr=>if r=.clause c then ah cb else if r=.crow c then ah g else A.fY r,sp:=λr=>if r=.crow c then sp else if r=.clause c then[] else A.sp r}
theorem Bg{A A':Ad}:∀{L:List (Nat×Nat)},(∀p∈L,A'.ptr (.clause p.1)=A.ptr (.clause p.1))->iK A' L=iK A L
 | [],_=>rfl
 |p::L,h=>by have b:=Bg (A:=A) (A':=A') (L:=L) (λq a=>h q (by simp[a]));grind[iK]
variable{A:Ad}
theorem Mem.Qc{s:Sv}(h:Mem W A s)(I:Fit s){cb g:Nat}{ls:List Nat}{sp:List Value}(M:∀k,A.gE k->W'.heap[k]?=W.heap[k]?)(u:¬A.gE cb)(G:¬A.gE g)(Q:cb≠g)(H:W'.heap[g]?=ah (aq (ls.map i32++sp).toArray 192))(L:W'.heap[cb]?=ah (aq #[aj (ah (az g 0)) (bB ls) (bB ls+bB sp),iz 0,aj ai 0 0,iz 0,.bool aL,.bool aL] 182)):
  Mem W' (A.clause (bB s.cl) cb g sp) (s.more ls):=by
 obtain⟨c,F⟩:=bK (bB s.cl);rw[<-F];have O:A.fY (.clause c)=ai:=by
  cases e:A.fY (.clause c) with
  |none=>rfl
  |some b=>have:=(h.cls c).1 ⟨b,e⟩;omega
 have P:A.fY (.crow c)=ai:=by
  cases e:A.fY (.crow c) with
  |none=>rfl
  |some b=>have:=(h.rows c).1 ⟨b,e⟩;omega
 have hold:∀r,r≠.clause c->r≠.crow c->(A.clause c cb g sp).fY r=A.fY r∧(A.clause c cb g sp).sp r=A.sp r:=λr n o=>⟨(cC n).trans (cC o),(cC o).trans (cC n)⟩;have y:(A.clause c cb g sp).fY (.clause c)=ah cb:=by simp[Ad.clause]
 have J:(A.clause c cb g sp).fY (.crow c)=ah g:=by simp[Ad.clause]
 have R:(A.clause c cb g sp).sp (.crow c)=sp:=by simp[Ad.clause]
 have v:∀r k z,r≠.clause c->r≠.crow c->(A.clause c cb g sp).jM r k z=A.jM r k z:=λr k z n o=>by grind[Ad.jM]
 have B:∀d,(s.more ls).lits d=if d=c then ls else s.lits d:=λd=>by rw[F];exact og s ls d
 have S:∀l,iK (A.clause c cb g sp) (s.gj l)=iK A (s.gj l):=λl=>Bg (λp hp=>by have N:=(I.gj l p hp).1;unfold Ad.ptr;rw[(hold (.clause p.1) (by intro e;cases e;omega) dH).1])
 have fS:∀r,r≠.clause c->r≠.crow c->eA (A.clause c cb g sp) (s.more ls) r=eA A s r:=by
  intro r n o;cases r
  case clause d=>simp_all[eA]
  case crow d=>grind[eA]
  case win l=>have:(s.more ls).gj l=s.gj l:=rfl;grind[eA]
  case wout=>simp only[eA];show s.ws.mapIdx _=_;congr 1
  all_goals simp only[eA,ql]
  all_goals first|rfl|skip
  all_goals simp[v,hold,Ad.ptr,Sv.more]
 refine⟨λr E b n o=>?_,λr b q=>?_,λr f=>?_,λd=>?_,λd=>?_,λl e=>?_,λe=>?_,λe=>?_,λr f=>?_,λr f=>?_,?_,h.lv,h.lw,h.ls,h.lp,h.small,h.DJ⟩
 .have x:∀r b,(A.clause c cb g sp).fY r=ah b->(r=.clause c∧b=cb)∨(r=.crow c∧b=g)∨(A.fY r=ah b):=λr b q=>by
   by_cases t:r=.clause c
   .rw[t,y] at q;cases q;exact cB ⟨t,rfl⟩
   grind
  obtain⟨j,C⟩|⟨j,C⟩|j:=x r b n<;>obtain⟨m,D⟩|⟨m,D⟩|m:=x E b o
  .rw[j,m]
  .omega
  .exact absurd ⟨E,C▸m⟩ u
  .omega
  .rw[j,m]
  .exact absurd ⟨E,C▸m⟩ G
  .exact absurd ⟨r,D▸j⟩ u
  .exact absurd ⟨r,D▸j⟩ G
  exact h.inj _ _ _ j m
 .by_cases t:r=.clause c
  .grind[eA,Bm,Ad.jM]
  by_cases a:r=.crow c
  .grind[eA,Bm]
  rw[(hold r t a).1] at q;rw[fS r t a,M b ⟨r,q⟩];exact h.has r b q
 .rw[(hold r (by rintro rfl;cases f) (by rintro rfl;cases f)).1];exact h.fix r f
 .show _↔d<bB (s.cl++[ls]);by_cases e:d=c
  .grind
  rw[(hold (.clause d) cG (by intro a;cases a)).1,h.cls d];simp;omega
 .show _↔d<bB (s.cl++[ls]);by_cases e:d=c
  .grind
  rw[(hold (.crow d) (by intro a;cases a) cG).1,h.rows d];simp;omega
 .rw[(hold (.win l) (by intro a;cases a) (by intro a;cases a)).1] at e;exact h.win l e
 .rw[(hold .dX (by intro a;cases a) (by intro a;cases a)).1] at e;exact h.I3 e
 .rw[(hold .dK (by intro a;cases a) (by intro a;cases a)).1] at e;exact h.I2 e
 .rw[(hold r (by rintro rfl;cases f) (by rintro rfl;cases f)).2];exact h.even r f
 .rw[(hold r (by rintro rfl;cases f) (by rintro rfl;cases f)).2];have:=h.GF r f;cases r<;>first|exact this|cases f
 have T:=h.flat;grind
theorem Kb(w a b):aB prog 116 #[iz a,iz b] w λe f=>e=aw (.bool (aM (0<=a∧a<b)))∧w=f:=by
 by_cases c:0<=a
 .have d:aM (0<=a)=true:=cZ c;go_enter func116,ntmps116
  go_wp2;go_ret;exact⟨by simp[c],rfl⟩
 have d:aM (0<=a)=aL:=cP c;go_enter func116,ntmps116
 go_wp2;go_ret;exact⟨by simp,rfl⟩
theorem BX(w a b):aB prog 79 #[iz a,iz b] w λe c=>e=aw (.agg #[iz (min (a:Int) (b:Int)),iz (max (a:Int) (b:Int))])∧c=bC w (aq #[iz (min (a:Int) (b:Int)),iz (max (a:Int) (b:Int))] 34):=by
 go_enter func79,ntmps79
 go_wp2;exact⟨rfl,.agg #[iz (min (a:Int) (b:Int)),iz (max (a:Int) (b:Int))],by simp[aI,results79,go_sem],rfl,rfl⟩
theorem WD(s:Sv)(ls:List Nat):(s.more ls).GL (bB s.cl)=s.add ls:=by
 have e:(s.more ls).lits (bB s.cl)=ls:=by rw[og,cY rfl]
 unfold Sv.GL;rw[e]
 match ls with
 | []=>rfl
 | [_]=>rfl
 |_::_::_=>rfl
def oA(n:Nat)(css:List (List Int))(i:Nat):Sv:=(css.take i).foldl (λs c=>s.add (jq c)) (Sv.new n)
theorem zy{n:Nat}{c:List Int}(h:css[i]?=ah c):oA n css (i+1)=(oA n css i).add (jq c):=by unfold oA;rw[dJ,h];simp[j7]
theorem yB{n:Nat}{css:List (List Int)}(b:∀cs∈css,∀x∈cs,x.natAbs<=n):∀i,i<=bB css->mz (oA n css i) n ((css.take i).map jq)
 |0,_=>by simpa[oA] using W8 n
 |i+1,c=>by
  have a:i<bB css:=bO
  have h:=yB b i bO;have e:=bP a;rw[zy e,dJ,e,fE,fZ];exact h.add (rS css[i]) (xS (b _ (dw a)))
def Slv(w W:ay)(n:Nat)(css:List (List Int))(sb i:Nat):Prop:=
 ∃A:Ad,A.fY .search=ah sb∧Mem W A (oA n css i)∧(∀k,A.gE k->w.heap.size<=k)∧aC w.heap.size w W
def ace(s:Sv):s.pop.2.n=s.n:=aeC
theorem SK:∀(f:Nat)(s:Sv)(b:Bool)(a:Sv),Sv.Aa f s=ah (b,a)->a.n=s.n
 |0,_,_,_,h=>by cases h
 |f+1,s,b,a,h=>by
  have hp:=ace s;rw[Fg] at h;generalize s.pop.1=o at *;generalize s.pop.2=c at *;cases o with
  |none=>grind[Dx]
  |some v=>
   simp[Dx] at h
   split at h
   .simp[fw,jr] at h;rw[<-h.2];exact hp
   exact(SK f c b a h).trans hp
theorem TA:∀(f:Nat)(s:Sv)(b:Bool)(e:Sv),Sv.run f s=ah (b,e)->e.n=s.n
 |0,_,_,_,h=>by cases h
 |f+1,s,b,e,h=>by
  rw[Sv.run] at h
  split at h
  .cases h;rfl
  cases a:Sv.follow (2*s.n+3) s with
  |none=>rw[a] at h;cases h
  |some os=>
   obtain⟨o,j⟩:=os;have g:=(wR _ _ _ _ a).1;rw[a] at h;cases o with
   |some c=>
    simp only at h
    split at h
    .exact(TA f _ b e h).trans g
    .cases h
   |none=>
    simp only at h;cases d:Sv.Aa (bB j.hp+1) j with
    |none=>rw[d] at h;cases h
    |some bs=>
     obtain⟨tb,l⟩:=bs;have k:=SK _ _ _ _ d;rw[d] at h;cases tb with
     |false=>grind
     |true=>exact(TA f l b e h).trans (k.trans g)
def zj(w:ay)(n:Nat)(r:Option (List Bool))(e:Ending)(w':ay):Prop:=
 aC w.heap.size w w'∧(r=ai->e=aw (.tuple #[aj ai 0 0,.bool aL,ae af 0]))∧∀vs,r=ah vs->∃g,e=aw (.tuple #[aj (ah ⟨g,0,ai⟩) n n,.bool true,ae af 0])∧w.heap.size<=g∧w'.heap[g]?=ah (aq (vs.map Value.bool).toArray 4)
theorem rP{d:Ad}{g:Sv}(a:aC w.heap.size w W)(e:∀k,A.gE k->w.heap.size<=k)(S:Step W W' A d g):aC w.heap.size w W':=by have b:=S.kept;refine⟨b.os.trans a.os,b.tape.trans a.tape,b.output.trans a.output,bZ a.size b.size,λk c=>?_⟩;exact(b.block k (cQ c a.size) λf=>by have:=e k f;omega).trans (a.block k c)
theorem WM{w}{n}(hn:n<=2000){ca}(cc)(h:oX w ca css)(a8:bB css<=100000000)(hb:∀cs∈css,(bB cs<=12∨(bB cs<=1000∧∃m r,cs.map jQ=m::r∧r.Pairwise (· < ·)∧∀x∈r,x<m))∧∀x∈cs,x≠0∧x.natAbs<=n){r:Option (List Bool)}(G:mH n css=ah r):
  aB prog 44 #[iz n,aj ca (bB css) cc] w (zj w n r):=by
 have CK:=Pv n hn cc h a8 (λcs y=>⟨by grind,(hb cs y).2⟩);have NW:=λm=>FW (bF w m) n hn;have HC:=bL h;have HB:=bL hb;have HR:=bL G;have cd:=bL NW;generalize cv:bB css=N at *;have aa:=bL cv;go_enter func44,ntmps44
 go_wp2_with(first|(go_at_call 82;refine CK.mono ?_;rintro e w2 ⟨rfl,m,rfl⟩)|(go_at_call 83;refine(cd.out _).mono ?_;rintro e w3 ⟨D,A,rfl,c7,M3,F3,B3⟩;refine dM ?_));delta Aside;have V0:Hid (Slv w w3 n css D 0):=⟨A,c7,M3,F3,⟨B3.os,B3.tape,B3.output,B3.size,B3.block⟩⟩
 apply_assumption
 go_wp2
 go_loopw[23] (λao W=>∃i:Nat,i<=N∧ao=iz i∧Hid (Slv w W n css D i)) λao _=>N-(aG ao).toNat
 case atStart=>grind
 case round=>
  obtain⟨i,hi,rfl,HV⟩:=hrel;by_cases be:i<N
  .have dn:=qo be;have c8:=DX (a:=i) (bZ hi a8);have ac:i<bB css:=by rw[aa.out];exact be
   let⟨A1,B,M1,F1,B1⟩:=HV.out;let⟨b,dc,ra,rc,cj,hc,y⟩:=oX.at (oX.below B1 HC.out) (bP ac);have P:=HB.out _ (dw ac);have F:=yB (n:=n) (css:=css) (λcs y x Y=>((HB.out cs y).2 x Y).2) i bO;have an:=zy (n:=n) (bP ac);have LO:=Qm css[i] rc y (λx Y=>⟨(P.2 x Y).1,bZ (P.2 x Y).2 hn⟩) P.1;have ci:=F.fo.fit.more (rS css[i]) (xS (n:=(oA n css i).n) λx Y=>by rw[F.nn];exact(P.2 x Y).2);have ba:(oA n css i).cl.length=i:=by rw[F.cl];simp;omega
   have bb:=F.fo.fit;have HM:=bL M1;have HF:=bL F1;have t:=bL B1;have b6:=bL ci;have b8:=bL bb;have ce:=bL an;have b0:=bL ba;subst cj;generalize css[i]=cs at *;generalize hL:bB cs=L at *
   go_wp2_with(go_at_call 85;refine LO.mono ?_;rintro e Q ⟨g,c,rfl,hg,cp,z,B4⟩;refine dM ?_);delta Aside;generalize c9:oA n css i=s at *;have f:∀k,A1.gE k->k<wr.heap.size:=λk ⟨r,G⟩=>HM.out.lt G;have cx:¬A1.gE g:=λhf=>by have:=f g hf;omega
   have cm:g<Q.heap.size:=(bY.1 z).1;have z4:=B4.size;have bj:¬A1.gE Q.heap.size:=λhf=>by have:=f _ hf;omega
   have MN:=HM.out.Qc b8.out (W':=bC Q (aq #[.slice (ah (az g 0)) (bB (jq cs)) c,iz 0,aj ai 0 0,iz 0,.bool aL,.bool aL] 182)) (cb:=Q.heap.size) (g:=g) (ls:=jq cs) (sp:=(aN (c-bB (jq cs)) 0).map i32)
    (λk I=>(dB _ _ _ (by have:=f k I;omega)).trans (B4.block k (f k I))) bj cx bO
    ((dB _ _ _ cm).trans (by unfold ky at z;rw[fZ] at z;exact z)) (by rw[eW];simp only[eG,DT,Nat.add_sub_cancel' cp])
   have X:(A1.clause (bB s.cl) Q.heap.size g ((aN (c-bB (jq cs)) 0).map i32)).fY .search=ah D:=by simp[Ad.clause,B]
   have a7:(A1.clause (bB s.cl) Q.heap.size g ((aN (c-bB (jq cs)) 0).map i32)).fY (.clause (bB s.cl))=ah Q.heap.size:=by simp[Ad.clause]
   have AD:=LM MN b6.out D X (bB s.cl) Q.heap.size a7 (by show bB (s.cl++[jq cs])<=_;rw[cR,b0.out];simp;omega);rw[WD,<-ce.out] at AD;have O:∀k,(A1.clause (bB s.cl) Q.heap.size g ((aN (c-bB (jq cs)) 0).map i32)).gE k->w.heap.size<=k:=λk ⟨r,G⟩=>by
    unfold Ad.clause at G;simp only at G;have z0:=t.out.size
    split at G
    .cases G;omega
    split at G
    .cases G;omega
    exact HF.out k ⟨r,G⟩
   have a0:=bL O;have bo:=bL B4;apply_assumption
   go_wp2_with(go_at_call 84;refine AD.mono ?_;rintro e Z ⟨rfl,A6,E,H⟩);refine⟨⟨i+1,by omega,by simp,A6,(H .search dH eZ).1.trans X,E.mem,λk I=>?_,?_⟩,by simp[aG];omega⟩
   .obtain e|e:=E.new k I
    .exact a0.out k e
    have z0:=t.out.size;simp at e;omega
   have k6:=E.kept;have b4:=bo.out;have b1:=t.out;have z1:=b1.size;refine⟨k6.os.trans (b4.os.trans b1.os),k6.tape.trans (b4.tape.trans b1.tape),k6.output.trans (b4.output.trans b1.output),?_,λk I=>?_⟩
   .have:=k6.size;simp at this;omega
   refine(k6.block k bX λhf=>by have:=a0.out k hf;omega).trans ?_;exact(dB _ _ _ bO).trans ((b4.block k bO).trans (b1.block k I))
  have cn:i=N:=bO
  let⟨A1,B,M1,F1,B1⟩:=HV.out;have F:=yB (n:=n) (css:=css) (λcs y x Y=>((HB.out cs y).2 x Y).2) i (by rw[aa.out];omega);have a6:oA n css i=css.foldl (λs c=>s.add (jq c)) (Sv.new n):=by unfold oA;rw[cn,<-aa.out,fI]
  have ab:Rn (oA n css i):=⟨F.fo.fit,by rw[F.hp,F.nn];intro v hv;simp at hv;omega,by rw[F.hp];simp,by rw[F.hp,F.dK];simp;omega⟩
  have a9:(oA n css i).cl.length<=4398046511100:=by rw[F.cl];simp;omega
  have d:=HR.out;unfold mH at d;rw[<-a6] at d;have cy:=F.nn;generalize oA n css i=s at *;cases q:Sv.run (n+2) s with
  |none=>rw[q] at d;cases d
  |some bs=>
   obtain⟨b,C⟩:=bs;rw[q] at d;have SO:=Tb M1 ab D B a9 (n+2) b C q;have c6:Hid (C.n=s.n):=TA _ _ _ _ q;have HF:=bL F1;have t:=bL B1;cases b with
   |false=>
    simp only[fw] at d;subst d;clear M1 F1 B1 ab q
    go_wp2_with(go_at_call 86;refine SO.mono ?_;rintro e Z ⟨rfl,A6,E,H⟩);exact⟨rfl,.tuple #[aj ai 0 0,.bool aL,iz 0],by simp[aI,results44],rP t.out HF.out E,λ_=>rfl,λvs e=>(by cases e)⟩
   |true=>
    simp only[fw] at d;let⟨vb,da⟩:=M1.fix .jg rfl;have HS:=bL d;clear ab q M1 F1 B1 d;have m1:∀W:ay,_:=λW=>zL W n bO
    go_wp2_with(go_at_call 86;refine SO.mono ?_;rintro e Z ⟨rfl,A6,E,H⟩);have V:A6.fY .search=ah D:=(H .search dH dH eZ).trans B;let⟨o,J⟩:=E.mem.fix .jg rfl;have B7:=(rP t.out HF.out E).alloc (rP t.out HF.out E).size (aR (Array.replicate n (Value.bool aL)) 4);have M7:=E.mem.alloc (aR (Array.replicate n (Value.bool aL)) 4);have bc:(bC Z (aR (Array.replicate n (Value.bool aL)) 4)).heap[Z.heap.size]?=ah (aq ((aO 0).map (λi=>Value.bool (aM (C.val (2*(i+1))=1)))++aN (n-0) (Value.bool aL)).toArray 4):=by rw[eW];simp
    have al:¬A6.gE Z.heap.size:=λ⟨r,G⟩=>by have:=E.mem.lt G;omega
    have ck:w.heap.size<=Z.heap.size:=(rP t.out HF.out E).size;clear SO m1 HF t E H;generalize(bC Z (aR (Array.replicate n (Value.bool aL)) 4))=w7 at *;generalize Z.heap.size=g at *;have bi:C.n=n:=(c6.out).trans cy;have c0:=M7.cell V (i:=0) rfl;simp only[Ad.jM,J,M7.flat.1,dQ,gP,fH,bi] at c0;have a2:Hid (∀l,l<2*n+2->aU w7 (az o l)=ah (.int .i8 (C.val l))):=λl hl=>M7.D0 J (by rw[bi];exact hl);have bx:=bL B7;have a4:D≠g:=λe=>al ⟨_,e▸V⟩;have a5:o≠g:=λe=>al ⟨_,e▸J⟩;have a3:Hid ((∀k,k≠g->w7.heap[k]?=w7.heap[k]?)∧w7.heap[g]?=ah (aq ((aO 0).map (λi=>Value.bool (aM (C.val (2*(i+1))=1)))++aN (n-0) (Value.bool aL)).toArray 4)∧bI (λk=>k=g) w7 w7):=⟨λ_ _=>rfl,bc,bW _ _⟩
    clear M7 B7 bc al
    go_loopw[41] (λap W=>∃i:Nat,i<=n∧ap=iz i∧Hid ((∀k,k≠g->W.heap[k]?=w7.heap[k]?)∧W.heap[g]?=ah (aq ((aO i).map (λi=>Value.bool (aM (C.val (2*(i+1))=1)))++aN (n-i) (Value.bool aL)).toArray 4)∧bI (λk=>k=g) w7 W)) λap _=>n-(aG ap).toNat
    case atStart=>grind
    case round=>
     obtain⟨j,hj,rfl,HJ⟩:=hrel;by_cases ad:j<n
     .have cE:=qo ad;have db:=fq (a:=j) bO;let⟨e1,R,M⟩:=HJ.out;have ch:aU wr (az D 0)=_:=(cL (a:=az D 0) (e1 D a4)).trans c0;have vj:aU wr ⟨o,2*(j+1),ai⟩=_:=(cL (a:=⟨o,2*(j+1),ai⟩) (e1 o a5)).trans (a2.out (2*(j+1)) bO);have LI:=λW:ay=>Ji W ((j:Int)+1) bO bO;have cr:jQ ((j:Int)+1)=2*(j+1):=by unfold jQ;split<;>omega
      rw[cr] at LI;have U:bB ((aO j).map (λi=>Value.bool (aM (C.val (2*(i+1))=1)))++aN (n-j) (Value.bool aL))=n:=bX
      obtain⟨v1,q1⟩:∃v,aU wr (az g j)=ah v:=⟨_,by simp only[aU,R];rw[kF,bP (by rw[U];exact ad)];rfl⟩
      have f1:wr.frozen? (az g j)=aL:=by simp only[World.frozen?,R];simp
      have dl:((2*(j+1):Nat):Int)<2*(n:Int)+2:=bO
      have u:Hid (∀W:ay,(∀k,k≠g->W.heap[k]?=wr.heap[k]?)->aU W (az D 0)=ah (aj (ah (az o 0)) (2*n+2) (2*n+2))∧aU W ⟨o,2*(j+1),ai⟩=ah (.int .i8 (C.val (2*(j+1))))):=λW hW=>
       ⟨(cL (a:=az D 0) (hW D a4)).trans ch,(cL (a:=⟨o,2*(j+1),ai⟩) (hW o a5)).trans vj⟩
      have a1:Hid (((aO j).map (λi=>Value.bool (aM (C.val (2*(i+1))=1)))++aN (n-j) (Value.bool aL)).set j (Value.bool (aM (C.val (2*(j+1))=1)))=(aO (j+1)).map (λi=>Value.bool (aM (C.val (2*(i+1))=1)))++aN (n-(j+1)) (Value.bool aL)):=yK (λi=>Value.bool (aM (C.val (2*(i+1))=1))) (Value.bool aL) ad;clear e1 R M U c0 a3 a2;obtain⟨l2,ag⟩:=bJ (2*(j+1));rw[ag] at u vj LI dl;have bR:=bL ag;clear ag
      go_wp2;refine wp_region_noPanic ?_;refine wp_region_held_drew (S:=λW=>aU W (az D 0)=ah (aj (ah (az o 0)) (2*n+2) (2*n+2))∧aU W (az o l2)=ah (.int .i8 (C.val l2))) bV ?_ λhHeld=>?_
      ·(first|exact u.out _ (λk T=>rfl)|exact u.out _ λk T=>cO _ _ _ _ T)
      refine tk 0 ?_;refine tk 1 ?_;refine tk 2 ?_;refine tk 3 ?_;refine tk 4 ?_;refine tk 5 ?_;refine tk 6 ?_;refine tk 7 ?_;refine wpAnyH_ready (rs:=[8]) bV bQ ?_;refine AllReadyH.cons rfl (λK hK=>?_) AllReadyH.nil;try simp only[cD,cw,ct]
      go_simp
      go_at_call 87
      refine(LI _).mono ?_;rintro e w3 ⟨rfl,rfl⟩;refine hK.out _ _ ?_ λhHeld=>?_
      ·(first|exact u.out _ (λk T=>rfl)|exact u.out _ λk T=>cO _ _ _ _ T)
      clear hK K;try simp only[aQ,cD,cw,ct,cf,cK,cN]
      refine tk 9 ?_;refine tk 10 ?_;refine tk 11 ?_;refine tk 12 ?_;refine rd 13 ?_ λhHeld=>?_
      ·(first|exact u.out _ (λk T=>rfl)|exact u.out _ λk T=>cO _ _ _ _ T)
      all_goals refine wpAnyH_done bV (NoPanic.normal ?_) _
      try simp only[aQ,cD,cw,ct,cf,cN,cK]
      go_wp2;refine⟨⟨j+1,by omega,by simp,?_⟩,by simp[aG];omega⟩;let⟨e1,R,M⟩:=HJ.out;refine⟨λk I=>(cO _ _ _ _ I).trans (e1 k I),?_,(M.setCell (p:=az g j) rfl _).drew⟩;rw[<-a1.out,bR.out];exact mf R j _
     have co:j=n:=bO
     clear a3 c0
     go_wp2;refine⟨rfl,.tuple #[aj (ah (az g 0)) n n,.bool true,iz 0],by simp[aI,results44],?_,λe=>?_,λvs e=>⟨g,rfl,ck,?_⟩⟩
     .let⟨e1,R,M⟩:=HJ.out;have b7:=bx.out;exact b7.trans ⟨M.os,M.tape,M.output,M.size,λk I=>M.block k (cQ I b7.size) bO⟩
     .rw[<-HS.out] at e;cases e
     rw[<-HS.out] at e;cases e
     let⟨e1,R,M⟩:=HJ.out;rw[R,co,iN];simp
