import Derived.Test.YtlehlgipbhfioaaGreatBp
import Derived.Test.YtlehlgipbhfioaaGreatBq
namespace Go.Proofs.YtlehlgipbhfioaaGreat
set_option maxHeartbeats 8000000
set_option maxRecDepth 100000
set_option linter.all false
open Go.RowKit Go.Maps Go.Proofs.Tryz
open Go.Value renaming int->ae,slice->aj,pointer->ak,slice->aT,ownBlock->aP
open Go.IntKind renaming i64->af
open Go.Obj renaming cells->aq
open Go.Ending renaming returned->aw
open Option renaming some->ah,none->ai
open Go.World renaming alloc->bC,cell?->aU,rowIs->bE,ownsRow->bD,setCell->aW,drewN->bF,grownBy->bH
open Go renaming Calls->aB,World->ay,results->aI,Value->aA,TypeId->aE
open List renaming length->bB
open Go.RowKit renaming intOf->aG
open Bool renaming true->aK,false->aL
section
def Od(l:List Tm)(vs:List aA):List aA:=(l.zip vs).flatMap λx=>[.string x.1.name,x.2]
abbrev mW(w:ay)(base:Nat)(xs:List Nat)(v:aA):Prop:=bD w base 3 1 v (bB xs) (qZ xs)
structure Ls(w:ay)(base:Nat)(av:aA)(l:List Tm)(vs:List aA):Prop where
 len:bB vs=bB l
 row:bD w base 140 2 av (bB l) (Od l vs)
 args:∀(i:Nat)(t:Tm)(v:aA),l[i]?=ah t->vs[i]?=ah v->mW w base t.args v
theorem YH(l vs i j)(d:j<2):(Od l vs)[i*2+j]?=((l.zip vs)[i]?).bind (λx=>([.string x.1.name,x.2]:List aA)[j]?):=by
 unfold Od;generalize l.zip vs=z
 induction z generalizing i with
 |nil=>simp
 |cons t z f=>
  cases i with
  |zero=>grind
  |succ i=>grind
variable{w w' b W W':ay}{base i j a k e e' n r c x a':Nat}{av v v' u av1 av':aA}{l l':List Tm}{vs vs':List aA}{t:Tm}
theorem Ls.at(h:Ls w base av l vs)(o:l[i]?=ah t):
  ∃g d v,av=aj (ah (az g 0)) (bB l) d∧vs[i]?=ah v∧aU w ⟨g,i*2,ai⟩=ah (.string t.name)∧aU w ⟨g,i*2+1,ai⟩=ah v∧mW w base t.args v:=by
 have m:i<bB l:=(bU.1 o).1;have f:i<bB vs:=by rw[h.len];exact m
 have p:vs[i]?=ah vs[i]:=bP f;have hz:(l.zip vs)[i]?=ah (t,vs[i]):=cG
 obtain⟨e,A⟩|⟨b,d,q,e,_⟩:=h.row.2
 .omega
 have cell:∀j u,j<2->([.string t.name,vs[i]]:List aA)[j]?=ah u->aU w ⟨b,i*2+j,ai⟩=ah u:=by
  intro j u y z;have:=h.row.cells (g:=b) (by rw[e];rfl) (i*2+j) u (by rw[YH l vs i j y,hz];exact z);simp[Addr.add] at this
  split at this
  .grind
  exact this
 exact⟨b,d,vs[i],e,p,cell 0 _ bO rfl,cell 1 _ bO rfl,h.args i t _ o p⟩
def Ls.form(h:Ls w base av l vs):∃a c,av=aj a (bB l) c:=gU h.row
def Ls.drewN(h:Ls w base av l vs)(m):Ls (bF w m) base av l vs:=⟨h.len,h.row,h.args⟩
def Ls.dF(h:Ls w base av l vs)(K:dG w w'):Ls w' base av l vs:=
 ⟨h.len,h.row.kept K.grownBy (j8 _),λi t v d f=>(h.args i t v d f).kept K.grownBy (j8 _)⟩
variable{xs:List Nat}
theorem Kf(h:mW w base xs v)(m:j<bB xs):∃g d,v=aj (ah (az g 0)) (bB xs) d∧cz w g j (iz (xs[j]:Int)):=by
 obtain⟨e,o⟩|⟨b,d,f,e,_⟩:=h.2
 .omega
 refine⟨b,d,e,?_⟩;have:=h.cells (g:=b) (by rw[e];rfl) j (iz (xs[j]:Int)) (by simp[qZ,bP m]);grind[Addr.add]
theorem RE{a b:List Nat}(hl:bB a=bB b)(d:k<bB a)(h:a.take k=b.take k)(f:a[k]'d=b[k]'(hl▸d)):a.take (k+1)=b.take (k+1):=by grind[List.take_add_one,List.getElem?_eq_getElem]
theorem zv{a b:ByteArray}(h:a.toList=b.toList):a=b:=by grind[ByteArray.toList_eq,WideShapes.bytes_inj]
theorem Tw(w:ay)(t u:Tm)(S T:aA)(Q:mW w base t.args S)(R:mW w base u.args T)(h4:bB t.args<=4):
  aB prog 109 #[.agg #[.string t.name,S],.agg #[.string u.name,T]] w λe w'=>e=aw (.bool (decide (t=u)))∧dG w w':=by
 obtain⟨y,z,rfl⟩:=gU Q;obtain⟨C,uc,rfl⟩:=gU R;have U:dG w (bC w (aq #[.string t.name,aj y (bB t.args) z] 140)):=dD (bW _ w) _;have N:=ey w #[.string t.name,aj y (bB t.args) z] 140;have s1:(bC w (aq #[.string t.name,aj y (bB t.args) z] 140)).heap.size=hz w+1:=bQ
 generalize ac:bC w (aq #[.string t.name,aj y (bB t.args) z] 140)=A at *;have M:dG A (bC A (aq #[.string u.name,aj C (bB u.args) uc] 140)):=dD (bW _ A) _;have D:=ey A #[.string u.name,aj C (bB u.args) uc] 140;rw[s1] at D;generalize ad:bC A (aq #[.string u.name,aj C (bB u.args) uc] 140)=o at *;have p:=du N (M.block (hz w) (dO N) λe=>e);have K:dG w o:=gQ U M;have I:=Q.kept K.grownBy (j8 _);have J:=R.kept K.grownBy (j8 _);have a0:cz o (hz w) 0 (.string t.name):=dU p (i:=0) bQ;have a1:cz o (hz w) 1 (aj y (bB t.args) z):=dU p (i:=1) bQ;have b0:aU o ⟨hz w+1,0,ai⟩=ah (.string u.name):=dU D (i:=0) bQ;have b1:aU o ⟨hz w+1,1,ai⟩=ah (aj C (bB u.args) uc):=dU D (i:=1) bQ;go_enter func109,ntmps109;by_cases d:t.name=u.name
 .have hn:Hid (t.name=u.name):=d;have dn:(t.name.toList==u.name.toList)=aK:=by rw[d];simp
  clear d;by_cases f:bB t.args=bB u.args
  .have hl:Hid (bB t.args=bB u.args):=f;have Z:((bB t.args:Int) != (bB u.args:Int))=aL:=by simp[f]
   clear f
   go_wp2
   go_loopw[5] (λL W=>∃k:Nat,k<=bB t.args∧L=iz k∧Hid (t.args.take k=u.args.take k)∧∃m,W=bF o m) λL _=>bB t.args-(aG L).toNat
   case atStart=>exact⟨0,by omega,rfl,by simp[Hid],0,rfl⟩
   case round=>
    obtain⟨k,hk,rfl,q,m,rfl⟩:=hrel;by_cases h:k<bB t.args
    .have Y:=bM k (bB t.args);have G:k<bB u.args:=by rw[<-hl.out];exact h
     let⟨g,V,E,aa⟩:=Kf I h;let⟨g',O,F,ab⟩:=Kf J G;injection E with P _ e3;injection F with e4 _ e6;subst P e3 e4 e6;by_cases B:t.args[k]=u.args[k]
     .have hE:Hid (t.args.take (k+1)=u.args.take (k+1)):=RE hl.out h q.out B;have X:((t.args[k]:Int) != (u.args[k]:Int))=aL:=by simp[B]
      clear B
      go_wp2;go_quiet(fail)
      go_wp2
      go_roundw
      case rel=>grind
      case measure=>simp[aG];omega
     have X:((t.args[k]:Int) != (u.args[k]:Int))=aK:=bX
     go_wp2;go_quiet(fail)
     go_wp2;go_ret;refine⟨fr (cP λe=>B ?_).symm,dR (dR K _) _⟩;subst e;rfl
    have Y:=bN k (bB t.args);have H:k=bB t.args:=bO
    go_wp2;go_ret;refine⟨fr (cZ ?_).symm,dR K _⟩;have P:t.args=u.args:=by have:=q.out;rw[H,fI] at this;rw[hl.out,fI] at this;exact this
    have e2:=hn.out;cases t;cases u;grind
  have Z:((bB t.args:Int) != (bB u.args:Int))=aK:=bX
  go_wp2;go_ret;exact⟨fr (cP λe=>f (by rw[e])).symm,K⟩
 have dn:(t.name.toList==u.name.toList)=aL:=gB.2 (λe=>d (zv e))
 go_wp2;go_ret;exact⟨fr (cP λe=>d (by rw[e])).symm,K⟩
def qX(t u:Tm):Bool:=decide (u.name=t.name)&&decide (bB u.args≠bB t.args)
def kx(l:List Tm)(t:Tm):Bool:=l.any (qX t)
theorem Ki{p:Tm->Bool}(d:k<bB l)(h:(l.take k).any p=aL)(hp:p l[k]=aL):(l.take (k+1)).any p=aL:=by rw[dJ,bP d];grind
theorem mM(w){base}{av}{l}{vs}(h:Ls w base av l vs)(hl:bB l<=1000)(t v)(P:mW w base t.args v)(L:bB t.args<=5)(F:∀u∈l,bB u.args<=4):
  aB prog 63 #[av,.agg #[.string t.name,v]] w λe w'=>e=aw (.bool (kx l t))∧dG w w':=by
 obtain⟨y,z,rfl⟩:=gU P;obtain⟨T,U,rfl⟩:=h.form;have A:dG w (bC w (aq #[.string t.name,aj y (bB t.args) z] 140)):=dD (bW _ w) _;have J:=ey w #[.string t.name,aj y (bB t.args) z] 140;generalize Q:bC w (aq #[.string t.name,aj y (bB t.args) z] 140)=I at *;have M:=h.dF A;have R:cz I (hz w) 0 (.string t.name):=dU J (i:=0) bQ;have S:cz I (hz w) 1 (aj y (bB t.args) z):=dU J (i:=1) bQ;go_enter func63,ntmps63
 go_wp2
 go_loopw[5] (λH W=>∃k:Nat,k<=bB l∧H=iz k∧Hid ((l.take k).any (qX t)=aL)∧∃m,W=bF I m) λH _=>bB l-(aG H).toNat
 case atStart=>exact⟨0,by omega,rfl,by simp[Hid],0,rfl⟩
 case round=>
  obtain⟨k,X,rfl,f,m,rfl⟩:=hrel;by_cases d:k<bB l
  .have E:l[k]?=ah l[k]:=bP d;have p:=F _ (dw d);generalize o:l[k]=u at E p;let⟨g,N,Z,O,_,g0,V,G⟩:=M.at E;injection O with e1 _ e3;subst e1 e3;obtain⟨Y,uc,rfl⟩:=gU G;by_cases q:u.name=t.name
   .have dn:(u.name.toList==t.name.toList)=aK:=by rw[q];simp
    by_cases D:bB u.args=bB t.args
    .have dq:((bB u.args:Int) != (bB t.args:Int))=aL:=by simp[D]
     have C:Hid ((l.take (k+1)).any (qX t)=aL):=Ki d f.out (by rw[o];simp[qX,D])
     go_wp2;go_quiet(fail)
     go_wp2
     go_roundw
     case rel=>exact⟨k+1,by omega,by go_num,C,_,rfl⟩
     case measure=>simp[aG];omega
    have dq:((bB u.args:Int) != (bB t.args:Int))=aK:=bX
    have B:kx l t=aK:=List.any_eq_true.2 ⟨u,cH E,by simp[qX,q,D]⟩
    go_wp2;go_quiet(fail)
    go_wp2;go_ret;exact⟨fr B.symm,dR (dR A _) _⟩
   have dn:(u.name.toList==t.name.toList)=aL:=gB.2 λe=>q (zv e);have C:Hid ((l.take (k+1)).any (qX t)=aL):=Ki d f.out (by rw[o];simp[qX,q])
   go_wp2;go_quiet(fail)
   go_wp2
   go_roundw
   case rel=>exact⟨k+1,by omega,by go_num,C,_,rfl⟩
   case measure=>simp[aG];omega
  have B:kx l t=aL:=by
   have:=f.out;rw[show k=bB l from by omega,fI] at this;exact this
  go_wp2;go_ret;exact⟨fr B.symm,dR A _⟩
theorem gK{P:Program}{y:Array Oper}{g:List Oper}{o:Oper}{a:Act}{Q:Exit->Act->ay->Prop}(C:o.guard=ai)(sl x:Operand)(t:aE)(O:o.op=.call {callee:=.builtin .append,args:=#[sl,x],argTypes:=#[t,t]})(base)(e:aE)(i:TypeInfo)(z size f)(D:P.underlying t=ah (.slice e))(E:P.info? e=ah i)(F:i.zero=ah z)(G:i.size=size)(H:i.bytes=f)(I:z.cells.size=size)(J:0<size)(v n xs)(hs:a.eval sl=v)(q:bD w base e size v n xs)(A m c d)(S:a.eval x=aj (ah A) m c)(N:bB d=m*size)(M:∀j u,d[j]?=ah u->aU w (A.add j)=ah u)(B:∀u∈d,u.oneCell'=aK)(b1:n+m<=maxLen)(b2:(n+m)*f<=140737488355328)(p:base<=w.heap.size)(h:∀v' w',bD w' base e size v' (n+m) (xs++d)->bH w w' (aP v)->(aP v'=aP v∨∀k,aP v'=ah k->w.heap.size<=k)->wpList P y Q g (a.put o.dst v') w'):wpList P y Q (o::g) a w:=by
 refine wpList_plain C λK L=>?_;let⟨v',w',R,T,U,V⟩:=tN (P:=P) w base t o.type e i z size f D E F G H I J v n xs q A m c d N M B b1 b2 p;unfold Oper.wp execOp;simp[O,resolve,invoke,builtin,Sem.run_bind,Sem.run_pure,Sd,Xc,iG,nZ,hs,S,R];exact L _ _ (h v' w' T U V)
theorem wF{d:Nat}{e e':aE}{z A:Nat}{xs f:List aA}(D:e≠e')(h:bD w base e k v n xs)(q:bD w d e' z v' A f):aP v=ai∨aP v≠aP v':=by
 obtain⟨rfl,_⟩|⟨b,o,p,rfl,_,C,_⟩:=h.2
 .exact cB rfl
 obtain⟨rfl,_⟩|⟨B,g,m,rfl,_,y,_⟩:=q.2
 .exact cI (by simp[aP])
 grind[aP]
theorem UK(h:bB vs=bB l)(t v):Od (l++[t]) (vs++[v])=Od l vs++[.string t.name,v]:=by unfold Od;rw[List.zip_append h.symm];simp
theorem Ls.snoc(h:Ls w base av l vs)(z:mW w base t.args v)(q:bD w' base 140 2 v' (bB l+1) (Od l vs++[.string t.name,v]))(p:bH w w' (aP av)):Ls w' base v' (l++[t]) (vs++[v]):=by
 have keep:∀xs u,mW w base xs u->mW w' base xs u:=λxs u o=>o.kept p (wF bS o h.row);refine⟨by simp[h.len],by rw[UK h.len];simpa using q,?_⟩;intro i y u d f;by_cases m:i<bB l
 .rw[df m] at d;rw[df (by rw[h.len];exact m)] at f;exact keep _ _ (h.args i y u d f)
 have g:=(bU.1 d).1;have e:i=bB l:=by simp at g;omega
 subst e;simp at d;rw[<-h.len] at f;grind
def Vi:(prog.info? 140).map (λi=>(i.zero,i.size,i.bytes))=ah (ah (.agg #[.string ⟨#[]⟩,aj ai 0 0]),2,40):=bV
def Ua(l:List Tm)(t:Tm)(vs:List aA)(v:aA):List aA:=match qC l t with
 |some _=>vs
 |none=>vs++[v]
def GP(w:ay)(base:Nat)(av:aA)(l:List Tm)(vs:List aA)(t:Tm)(v:aA)(e:Ending)(w':ay):Prop:=
 ∃av',e=aw (.tuple #[av',ae af (uX l t:Int)])∧Ls w' base av' (pq l t) (Ua l t vs v)∧bI (λk=>aP av=ah k) w w'∧(aP av'=aP av∨∀k,aP av'=ah k->w.heap.size<=k)
theorem Qa(d:l[k]?=ah t)(h:∀j,j<k->l[j]?≠ah t):qC l t=ah k:=by grind[qC,List.findIdx?_eq_some_iff_getElem,List.getElem?_eq_some_iff,decide_eq_true,List.getElem?_eq_getElem]
theorem IZ(h:∀j,j<bB l->l[j]?≠ah t):qC l t=ai:=by grind[qC,List.findIdx?_eq_none_iff,List.getElem_of_mem,List.getElem?_eq_getElem]
theorem Xz(w:ay)(a b:aA):∀j u,([a,b]:List aA)[j]?=ah u->aU (bC w (aq #[a,b] 140)) ((az w.heap.size 0:Addr).add j)=ah u:=by
 intro j u d
 match j,d with
 |0,d=>simp at d;subst d;simp[Addr.add]
 |1,d=>simp at d;subst d;simp[Addr.add]
theorem TZ(w){base}{av}{l}{vs}(h:Ls w base av l vs)(hl:bB l<=1000)(t v)(U:mW w base t.args v)(T:∀u∈l,bB u.args<=4)(P:base<=w.heap.size):
  aB prog 64 #[av,.agg #[.string t.name,v]] w (GP w base av l vs t v):=by
 obtain⟨p,q,rfl⟩:=gU U;obtain⟨aa,ac,rfl⟩:=h.form;have C:dG w (bC w (aq #[.string t.name,aj p (bB t.args) q] 140)):=dD (bW _ w) _;have N:=ey w #[.string t.name,aj p (bB t.args) q] 140;generalize V:bC w (aq #[.string t.name,aj p (bB t.args) q] 140)=w1 at *;have L1:=h.dF C;have V1:=U.kept C.grownBy (j8 _);go_enter func64,ntmps64
 go_wp2;clear V;generalize w.heap.size=x at N⊢
 go_loopw[6] (λt6 W=>∃k:Nat,k<=bB l∧t6=iz k∧Hid (∀j,j<k->l[j]?≠ah t)∧Hid (dG w1 W)) λt6 _=>bB l-(aG t6).toNat
 case atStart=>exact⟨0,by omega,rfl,λj R=>absurd R bO,bW _ w1⟩
 case round=>
  obtain⟨k,hk,rfl,o,z⟩:=hrel;have LW:=L1.dF z.out;have VW:=V1.kept z.out.grownBy (j8 _);have RW:=du N (z.out.block x (dO N) λe=>e);have a0:cz wr x 0 (.string t.name):=dU RW (i:=0) bQ;have a1:cz wr x 1 (aj p (bB t.args) q):=dU RW (i:=1) bQ;by_cases H:k<bB l
  .have O:=bM k (bB l);have S:l[k]?=ah l[k]:=bP H;have y:=T _ (dw H);generalize G:l[k]=u at S y;obtain⟨g,ad,vu,hg,_,g0,g1,L⟩:=LW.at S;injection hg with e1 _ e3;subst e1 e3;obtain⟨ua,uc,rfl⟩:=gU L;have d:=λm=>Tw (bF wr m) u t (aj ua (bB u.args) uc) (aj p (bB t.args) q) L VW y;by_cases F:u=t
   .rw[cZ F] at d;have E:qC l t=ah k:=Qa (F▸S) o.out;clear F G
    go_wp2
    go_region_with(go_at_call 109;refine(d _).mono ?_;rintro e w3 ⟨rfl,M⟩)
    all_goals
     go_wp2;go_ret2
     have B:dG w1 w3:=gQ (dR z.out _) M;have K5:dG w w3:=gQ C B;exact⟨_,by simp[uX,E],by simpa[pq,Ua,E] using h.dF K5,dW K5 λ_ _ e=>e.elim,cB rfl⟩
   rw[cP F] at d;have J:Hid (∀j,j<k+1->l[j]?≠ah t):=λj R=>by
    by_cases e:j=k
    .grind
    exact o.out j bO
   clear F G
   go_wp2
   go_region_with(go_at_call 109;refine(d _).mono ?_;rintro e w3 ⟨rfl,M⟩)
   all_goals
    go_wp2
    go_roundw
    case rel=>exact⟨k+1,by omega,by go_num,J,gQ (dR z.out _) M⟩
    case measure=>simp[aG];omega
  have O:=bN k (bB l);have E:qC l t=ai:=IZ λj R=>o.out j bO;obtain⟨i0,Q,X,Y,Z⟩:=eB Vi;have ag:=z.out.size;have ab:=C.size;have D:=Xz wr (.string t.name) (aj p (bB t.args) q);clear O o;have O:=bN k (bB l)
  go_wp2_with(at_builtin;refine gK rfl _ _ 25 rfl base 140 i0 _ 2 40 underlying25 Q X Y Z rfl bS _ (bB l) (Od l vs) rfl (LW.row.alloc _) (az wr.heap.size 0) 1 1 [.string t.name,aj p (bB t.args) q] rfl rfl D cM cJ bO bX ?_;intro v' w5 A f I);go_ret2
  have B:dG w (bC wr (aq #[.string t.name,aj p (bB t.args) q] 140)):=(gQ C z.out).alloc _;have LA:Ls (bC wr (aq #[.string t.name,aj p (bB t.args) q] 140)) base (aj aa (bB l) ac) l vs:=h.dF B;refine⟨v',by simp[uX,E],?_,gA (dW B λ_ _ e=>e.elim) f λk e=>e,?_⟩
  .have:=LA.snoc (U.kept B.grownBy (j8 _)) A f;simpa[pq,Ua,E] using this
  obtain e|e:=I
  .exact cB e
  refine cI λk hk=>?_;have h1:=e k hk;have h2:=B.size;omega
structure Good(l:List Tm):Prop where
 one:∀t∈l,∀u∈l,t.name=u.name->bB t.args=bB u.args
 four:∀t∈l,bB t.args<=4
theorem QM{n:ByteArray}(h:fst l n=ai):∀u∈l,u.name≠n:=by intro u d;have:=pZ.1 h u d;grind
theorem qW(h:Good l)(t):kx l t=!qV l t:=by
 unfold qV;cases o:fst l t.name with
 |none=>grind[kx,qX,QM,List.any_eq_false]
 |some i=>
  let⟨u,m,g⟩:=CH o;have f:=cH m;simp only[m];by_cases p:bB u.args=bB t.args
  .have:kx l t=aL:=Sg.2 λq d=>by
    simp only[qX,nA,jl,not_and,ne_eq,Decidable.not_not];intro e;rw[h.one q d u f (e.trans g.symm),p]
   grind
  grind[kx,qX]
theorem Good.add(h:Good l)(q:qV l t=aK)(g:bB t.args<=4):Good (pq l t):=by
 have m:kx l t=aL:=by grind[qW]
 have p:∀u∈l,u.name=t.name->bB u.args=bB t.args:=by intro u o e;have:=Sg.1 m u o;simp only[qX,nA,jl,not_and,ne_eq,Decidable.not_not] at this;exact this e
 unfold pq;cases qC l t with
 |some i=>exact h
 |none=>
  refine⟨?_,?_⟩
  .intro a d b f e;simp only[cU,dL] at d f;obtain d|rfl:=d<;>obtain f|rfl:=f
   .exact h.one a d b f e
   .grind
   .grind
   rfl
  intro a d;simp only[cU,dL] at d;obtain d|rfl:=d
  .exact h.four a d
  exact g
theorem Ma(s):∀f:Nat,
  (∀d i l n k l',i<=s.size->Good l->iI s f d i l=.ok n k l'->Good l')∧
  (∀d i l xs x k l',i<=s.size->bB xs<=4->Good l->jO s f d i l xs=.ok x k l'->Good l'∧bB x<=4)
 |0=>⟨λ_ _ _ _ _ _ _ _ e=>(by grind[iI]),λ_ _ _ _ _ _ _ _ _ _ e=>(by grind[jO])⟩
 |f+1=>by
  let⟨D,p⟩:=Ma s f;let⟨C,B⟩:=nM s f;constructor
  .intro d i l n k l' z h e;rw[iI] at e
   split at e
   .cases e
   have q:=jV (pg z)
   split at e
   .cases e
   split at e
   .have y:=iV (c:=40) q
    split at e
    .cases e
    next xs k2 E A=>
    let⟨m,o⟩:=p _ _ _ _ _ _ _ y bQ h A;unfold oj at e
    split at e
    .next g=>injection e with e1 e2 e3;subst e3;exact m.add g o
    cases e
   unfold oj at e
   split at e
   .next g=>injection e with e1 e2 e3;subst e3;exact h.add g bQ
   cases e
  grind[jO,iV]
theorem yc(s i):bl s (bl s i)=bl s i:=by
 induction i using bl.induct s with
 |case1 i h d=>grind[EK]
 |case2 i h=>rw[tD h,tD h]
theorem El(s f d l):iI s (f+1) d s.size l=.bad 2 s.size l:=by grind[gX,kK,iI]
theorem PW(s:ByteArray)(g d k:Nat)(l:List Tm)(xs:List Nat)(h:k<=s.size):jO s (g+2) d k l xs=
  if bB xs=4∧k<s.size then .bad 3 k l else match iI s (g+1) d k l with
   | .bad e p l'=>.bad e p l'
   | .ok n k l'=>if ix s k 44 then jO s (g+1) d (behind s k 44) l' (xs++[n]) else if ix s k 41 then .ok (xs++[n]) (behind s k 41) l' else .bad 2 k l':=by
 rw[jO];by_cases f:k=s.size
 .subst f;rw[cY rfl,cC bO,El]
 grind[iI,bad,ix]
theorem Uk(s):∀f:Nat,
  (∀d i l c q l',i<=s.size->2*(s.size-i)+1<=f->iI s f d i l=.bad c q l'->1<=c∧c<=5)∧
  (∀d i l xs c q l',i<=s.size->2*(s.size-i)+2<=f->jO s f d i l xs=.bad c q l'->1<=c∧c<=5)
 |0=>⟨λ_ _ _ _ _ _ _ h=>absurd h bO,λ_ _ _ _ _ _ _ _ h=>absurd h bO⟩
 |f+1=>by
  let⟨z,y⟩:=Uk s f;let⟨p,o⟩:=nM s f;constructor
  .intro d i l c q l' B A e;rw[iI] at e
   split at e
   .grind
   next g=>
   have m:gX s i=aL:=by simpa using g
   grind[kK,oj,Ep,pg,oL,jV,lB,iV]
  grind[jO,lB,iV]
theorem lM{e f:aE}{m:Nat}{xs:List aA}{g:Nat->aA}(h:bD w base e k v n xs)(R:bE w r f m g)(z:e≠f):aP v≠ah r:=by
 obtain⟨rfl,_⟩|⟨b,o,p,rfl,_,y,_⟩:=h.2
 .simp[aP]
 intro x;simp[aP] at x;subst x;obtain⟨d,q,_⟩:=R;grind
theorem oF{e:aE}{xs:List aA}(h:bD w base e k v n xs){b:Nat}(g:aP v=ah b):b<w.heap.size:=by
 obtain⟨rfl,_⟩|⟨o,d,f,rfl,_,m,_⟩:=h.2
 .simp[aP] at g
 grind[aP]
theorem te{e:aE}{xs:List aA}(h:bD w base e k v n xs)(q:∀b,aP v=ah b->w'.heap[b]?=w.heap[b]?):bD w' base e k v n xs:=by
 refine⟨h.1,?_⟩;obtain x|⟨b,d,f,g,m,o,p⟩:=h.2
 .exact cB x
 exact cI ⟨b,d,f,g,m,(q b (by rw[g];rfl)).trans o,p⟩
def Ls.blocks(h:Ls w base av l vs)(g:∀b,aP av=ah b->w'.heap[b]?=w.heap[b]?)(m:∀u∈vs,∀b,aP u=ah b->w'.heap[b]?=w.heap[b]?):Ls w' base av l vs:=
 ⟨h.len,te h.row g,λi t v f d=>te (h.args i t v f d) (m v (cH d))⟩
theorem Ls.mem(h:Ls w base av l vs)(f:u∈vs):∃xs,mW w base xs u:=by
 obtain⟨i,d,rfl⟩:=gY f;have hl:i<bB l:=by rw[<-h.len];exact d
 exact⟨_,h.args i l[i] vs[i] (bP hl) (bP d)⟩
structure GR(r:Nat)(w:ay)(av:aA)(w':ay)(av':aA):Prop where
 kept:bI (λk=>k=r∨aP av=ah k∨w.heap.size<=k) w w'
 row:aP av'=aP av∨∀k,aP av'=ah k->w.heap.size<=k
theorem GR.refl(r w av):GR r w av w av:=⟨bW _ w,cB rfl⟩
def adX:=@GR.refl
theorem GR.step{T:Nat->Prop}(h:GR r w av W av1)(K:bI T W W')(f:∀k,k<W.heap.size->T k->k=r∨aP av1=ah k∨w.heap.size<=k):GR r w av W' av1:=by
 refine⟨gQ h.kept (dW K λk g e=>?_),h.row⟩;obtain e|e|e:=f k g e
 .exact cB e
 .obtain d|d:=h.row
  .exact cI (cB (d▸e))
  grind
 omega
theorem GR.trans{a c:ay}{f g m:aA}(h:GR r a f b g)(k:GR r b g c m):GR r a f c m:=by
 have hs:=h.kept.size;refine⟨(h.step k.kept λi _ e=>?_).kept,?_⟩
 .grind
 obtain e|e:=k.row
 .obtain d|d:=h.row
  .exact cB (e.trans d)
  grind
 grind
def GR.dF(h:GR r w av W av1)(K:dG W W'):GR r w av W' av1:=h.step K λ_ _ e=>e.elim
def GR.iw(h:GR r w av W av1)(K:dV r W W'):GR r w av W' av1:=h.step K λ_ _ e=>cB e
def ru(w:ay)(vs vs':List aA):Prop:=∀u∈vs',u∈vs∨∀k,aP u=ah k->w.heap.size<=k
theorem ru.refl(w vs):ru w vs vs:=λ_ h=>cB h
def Hm:=@ru.refl
theorem ru.trans{a:ay}{x y z:List aA}(h:ru a x y)(k:ru b y z)(hs:a.heap.size<=b.heap.size):ru a x z:=λu d=>by
 obtain e|e:=k u d
 .exact h u e
 grind
structure S1(w:ay)(base r:Nat)(av:aA)(s:ByteArray)(i e a:Nat)(l:List Tm)(vs:List aA):Prop where
 rd:Rr w r s i av e a
 ls:Ls w base av l vs
 bs:base<=w.heap.size
 lo:bB l<=1000
 four:∀u∈l,bB u.args<=4
variable{s nm:ByteArray}
theorem S1.read(h:S1 w base r av s i e a l vs)(K:dV r w w')(R:Rr w' r s j av e' a'):S1 w' base r av s j e' a' l vs:=by refine⟨R,h.ls.blocks (λb d=>K.block b (oF h.ls.row d) λx=>lM h.ls.row h.rd.row bS (x▸d)) λu g b d=>?_,bZ h.bs K.size,h.lo,h.four⟩;let⟨xs,f⟩:=h.ls.mem g;exact K.block b (oF f d) λx=>lM f h.rd.row bS (x▸d)
def S1.dF(h:S1 w base r av s i e a l vs)(K:dG w w'):S1 w' base r av s i e a l vs:=
 ⟨h.rd.of_block (K.block r h.rd.row.lt λx=>x),h.ls.dF K,bZ h.bs K.size,h.lo,h.four⟩
def S1.drewN(h:S1 w base r av s i e a l vs)(m):S1 (bF w m) base r av s i e a l vs:=⟨h.rd.drewN m,h.ls.drewN m,h.bs,h.lo,h.four⟩
def aaD(nm:ByteArray)(v:aA)(j:Nat):aA:=if j=0 then .string nm else v
structure S2(w:ay)(base r:Nat)(av:aA)(s:ByteArray)(i e a:Nat)(l:List Tm)(vs:List aA)(x:Nat)(nm:ByteArray)(xs:List Nat)(v:aA):Prop where
 st:S1 w base r av s i e a l vs
 box:bE w x 140 2 (aaD nm v)
 arg:mW w base xs v
 ax:aP av≠ah x
 nv:∀u∈vs,∀k,aP u=ah k->aP v≠ah k
theorem S2.xr(h:S2 w base r av s i e a l vs x nm xs v):x≠r:=by rintro rfl;let⟨c1,d,_⟩:=h.box;let⟨c2,f,_⟩:=h.st.rd.row;grind
def S2.c0(h:S2 w base r av s i e a l vs x nm xs v):cz w x 0 (.string nm):=h.box.cell (i:=0) bO
def S2.c1(h:S2 w base r av s i e a l vs x nm xs v):cz w x 1 v:=h.box.cell (i:=1) bO
def S2.read(h:S2 w base r av s i e a l vs x nm xs v)(K:dV r w w')(R:Rr w' r s j av e' a'):S2 w' base r av s j e' a' l vs x nm xs v:=
 ⟨h.st.read K R,h.box.of_block (K.block x h.box.lt h.xr),te h.arg λb d=>K.block b (oF h.arg d) λy=>lM h.arg h.st.rd.row bS (y▸d),h.ax,h.nv⟩
def S2.dF(h:S2 w base r av s i e a l vs x nm xs v)(K:dG w w'):S2 w' base r av s i e a l vs x nm xs v:=
 ⟨h.st.dF K,h.box.of_block (K.block x h.box.lt λy=>y),h.arg.kept K.grownBy (j8 _),h.ax,h.nv⟩
def S2.drewN(h:S2 w base r av s i e a l vs x nm xs v)(m):S2 (bF w m) base r av s i e a l vs x nm xs v:=
 ⟨h.st.drewN m,h.box,h.arg,h.ax,h.nv⟩
theorem S2.inner{g:Nat}(h:S2 w base r av s i e a l vs x nm xs v)(G:GR r w av w' av')(N:ru w vs vs')(S:S1 w' base r av' s g e' a' l' vs'):S2 w' base r av' s g e' a' l' vs' x nm xs v:=by
 have p:=h.box.lt;refine⟨S,h.box.of_block (G.kept.block x p ?_),te h.arg λb d=>G.kept.block b (oF h.arg d) ?_,?_,?_⟩
 .rintro(y|y|y)
  .exact h.xr y
  .exact h.ax y
  omega
 .have m:=oF h.arg d;rintro(y|y|y)
  .exact lM h.arg h.st.rd.row bS (y▸d)
  .obtain z|z:=wF bS h.arg h.st.ls.row
   .rw[d] at z;cases z
   grind
  omega
 .obtain y|y:=G.row
  .rw[y];exact h.ax
  grind
 intro u o k f;obtain y|y:=N u o
 .exact h.nv u y k f
 intro z;have q:=y k f;have A:=oF h.arg z;omega
theorem RG(xs:List Nat)(n:Nat):qZ (xs++[n])=qZ xs++[iz n]:=by simp[qZ]
theorem S2.push(h:S2 w base r av s i e a l vs x nm xs v)(n:Nat)(J:bD w' base 3 1 v' (bB xs+1) (qZ xs++[iz n]))(p:bH w w' (aP v))(g:aP v'=aP v∨∀k,aP v'=ah k->w.heap.size<=k):
  S2 (aW w' (az x 1) v') base r av s i e a l vs x nm (xs++[n]) v':=by
 have E:aP v≠ah x:=lM h.arg h.box bS;have D:aP v≠ah r:=lM h.arg h.st.rd.row bS;have C:∀b,aP av=ah b->aP v≠ah b:=λb d z=>by
  obtain y|y:=wF bS h.arg h.st.ls.row
  .rw[z] at y;cases y
  exact y (z.trans d.symm)
 have F:=h.box.lt;have B:=h.st.rd.row.lt;have H:dV x w' (aW w' (az x 1) v'):=eH (bW _ w') _ _;have f:∀b,b<hz w->aP v≠ah b->b≠x->(aW w' (az x 1) v').heap[b]?=w.heap[b]?:=λb d A q=>
  (H.block b (cQ d p.size) q).trans (p.block b d λz=>A z.symm)
 have o:aP v'≠ah x:=cG
 refine⟨⟨h.st.rd.of_block (f r B D (j5 h.xr)),h.st.ls.blocks (λb d=>f b (oF h.st.ls.row d) (C b d) λz=>h.ax (z▸d)) λu m b d=>?_,bZ h.st.bs (bZ p.size H.size),h.st.lo,h.st.four⟩,?_,?_,h.ax,?_⟩
 .let⟨L,G⟩:=h.st.ls.mem m;exact f b (oF G d) (h.nv u m b d) λz=>lM G h.box bS (z▸d)
 .have b1:bE w' x 140 2 (aaD nm v):=h.box.of_block (p.block x F λz=>E z.symm);refine(b1.set 1 v').congr λj M=>?_;grind[aaD]
 .have:=fR (a:=az x 1) J o v';simpa[mW,RG] using this
 intro u m k I;obtain z|z:=g
 .rw[z];exact h.nv u m k I
 intro y;let⟨L,G⟩:=h.st.ls.mem m;grind[oF]
def OU(w:ay)(base r:Nat)(av:aA)(s:ByteArray)(vs:List aA):tF Nat->Ending->ay->Prop
 | .ok n k l',e,w'=>e=aw (ae af n)∧∃av' i' vs',S1 w' base r av' s i' 0 0 l' vs'∧bl s i'=k∧GR r w av w' av'∧ru w vs vs'
 | .bad c q _,e,w'=>e=aw (ae af 0)∧∃av' i' l' vs',S1 w' base r av' s i' c q l' vs'∧GR r w av w' av'∧ru w vs vs'
def OT(f:Nat):Prop:=∀(w:ay)(base r:Nat)(av:aA)(s:ByteArray)(i:Nat)(l:List Tm)(vs:List aA)(deep:Nat),S1 w base r av s i 0 0 l vs->Good l->2*(s.size-bl s i)+1<=f->bB l+(s.size-bl s i)<=600->deep<=100->
 aB prog 29 #[ak (ah ⟨r,0,ai⟩),ae af deep] w (OU w base r av s vs (iI s f deep (bl s i) l))
theorem S1.boxed(h:S1 w base r av s i e a l vs)(nm):
  S2 (bC w (aq #[.string nm,aj ai 0 0] 140)) base r av s i e a l vs w.heap.size nm [] (aj ai 0 0):=by
 have K:dG w (bC w (aq #[.string nm,aj ai 0 0] 140)):=dD (bW _ w) _;refine⟨h.dF K,eO (ey w #[.string nm,aj ai 0 0] 140) λj d=>?_,eR _ _ _ _,λe=>?_,λu _ k _=>by simp[aP]⟩
 .have f:j<2:=d;obtain rfl|rfl:=(by omega:j=0∨j=1)<;>rfl
 have:=oF h.ls.row e;omega
theorem tx(h:1<=e):Ex s i e c=aL:=by grind[Ex]
theorem oK(s i c):Ex s i 0 c=ix s (bl s i) c:=by simp[Ex]
theorem AR(h:Ex s i e c=aL):za s i e c=bl s i:=by simp[za,h]
theorem CC(h:Ex s i e c=aK):za s i e c=bl s i+1:=by simp[za,h]
theorem mj(h:1<=e):EF e c=e:=by grind[EF]
theorem mn{q:Nat}(h:1<=e):EG e a q=a:=by grind[EG]
theorem Px(f:Nat)(deep:Nat)(h:S1 w base r av s i 0 0 l vs)(hd:deep<=100)(hE:gX s (bl s i)=aK∨12<deep):
  aB prog 29 #[pz r,iz deep] w (OU w base r av s vs (iI s (f+1) deep (bl s i) l)):=by
 have ad:=jV h.rd.le;have NM:=BN h.rd;generalize g:iI s (f+1) deep (bl s i) l=res;rw[iI] at g;unfold Dh at NM;cases Y:gX s (bl s i) with
 |true=>
  rw[Y] at NM g;rw[cY rfl] at g;simp only[iX] at NM;replace g:=g.symm;have L:aB prog 61 #[pz r] w λx w'=>x=aw (.tuple #[.string (s.extract (bl s i) (kK s (bl s i))),iz (bl s i:Int)])∧S1 w' base r av s (kK s (bl s i)) 2 (bl s i) l vs∧GR r w av w' av:=NM.mono λx w' M=>⟨M.1,h.read M.2.1 M.2.2,(adX r w av).iw M.2.1⟩;generalize s.extract (bl s i) (kK s (bl s i))=N at *;go_enter func29,ntmps29;by_cases ab:12<deep
  .have aa:(12:Int)<(deep:Int):=bO
   go_wp2_with(first|(go_at_call 61;refine L.mono ?_;rintro e w2 ⟨rfl,E,G2⟩;have FA:=kq w2 (bl s i) E.rd 4 (bl s i);rw[mj bO,mn bO] at FA)|(go_at_call 31;refine FA.mono ?_;rintro e J ⟨rfl,R3,K3⟩;have S3:=E.read K3 R3;have T:=S3.boxed N;have P:=kS (bl s i) T.st.rd 40;rw[tx bO] at P)|(go_at_call 62;refine P.mono ?_;rintro e W ⟨rfl,R4,Q⟩));have X:S2 W base r av s _ 2 (bl s i) l vs J.heap.size N [] (aj ai 0 0):=T.read Q R4;have G:GR r w av W av:=((G2.iw K3).dF (dD (bW _ J) _)).iw Q;have D:=Hm w vs;generalize J.heap.size=x at *;have F:∃(c q:Nat)(d:aA)(p:List Tm)(o:List aA)(xs:List Nat)(v:aA)(j:Nat)(Z:List Tm),1<=c∧bB xs<=5∧S2 W base r d s j c q p o x N xs v∧GR r w av W d∧ru w vs o∧res=.bad c q Z:=⟨2,bl s i,av,l,vs,[],aj ai 0 0,_,_,by omega,by simp,X,G,D,g⟩
   obtain⟨c,q,d,p,o,xs,v,j,Z,A,I,X,G,D,rfl⟩:=F;let⟨U,V,H⟩:=gU X.arg;subst H;have ac:=X.st.rd.c2;have y0:=X.c0;have y1:=X.c1;have dE:((c:Int) != 0)=aK:=bX
   have C:∀m,aB prog 63 #[d,.agg #[.string N,aj U (bB xs) V]] (bF W m) λe w'=>e=aw (.bool (kx p ⟨N,xs⟩))∧dG (bF W m) w':=λm=>mM (bF W m) (X.st.ls.drewN m) X.st.lo ⟨N,xs⟩ (aj U (bB xs) V) X.arg (by simpa using I) X.st.four;cases B:kx p ⟨N,xs⟩ with
   |false=>
    rw[B] at C
    go_region_with(go_at_call 63;refine(C _).mono ?_;rintro e w7 ⟨rfl,y⟩;have z:=(X.drewN _).dF y;have e7:=z.st.rd.c3)
    all_goals
     go_wp2;go_ret;exact⟨rfl,d,_,p,o,z.st,(G.step (dR (bW (λ_=>False) W) _) λ_ _ e=>e.elim).dF y,D⟩
   |true=>
    rw[B] at C
    go_region_with(go_at_call 63;refine(C _).mono ?_;rintro e w7 ⟨rfl,y⟩;have z:=(X.drewN _).dF y;have O:=kq w7 q z.st.rd 5 (bl s i);rw[mj A,mn A] at O)
    all_goals
     go_wp2_with(go_at_call 31;refine O.mono ?_;rintro e w8 ⟨rfl,S,R⟩;have e8:=S.c3);go_ret;exact⟨rfl,d,_,p,o,(z.read R S).st,((G.step (dR (bW (λ_=>False) W) _) λ_ _ e=>e.elim).dF y).iw R,D⟩
  .have aa:¬(12:Int)<(deep:Int):=bO
   go_wp2_with(first|(go_at_call 61;refine L.mono ?_;rintro e J ⟨rfl,S3,G2⟩;have T:=S3.boxed N;have P:=kS (bl s i) T.st.rd 40;rw[tx bO] at P)|(go_at_call 62;refine P.mono ?_;rintro e W ⟨rfl,R4,Q⟩));have X:S2 W base r av s _ 2 (bl s i) l vs J.heap.size N [] (aj ai 0 0):=T.read Q R4;have G:GR r w av W av:=(G2.dF (dD (bW _ J) _)).iw Q;have D:=Hm w vs;generalize J.heap.size=x at *;have F:∃(c q:Nat)(d:aA)(p:List Tm)(o:List aA)(xs:List Nat)(v:aA)(j:Nat)(Z:List Tm),1<=c∧bB xs<=5∧S2 W base r d s j c q p o x N xs v∧GR r w av W d∧ru w vs o∧res=.bad c q Z:=⟨2,bl s i,av,l,vs,[],aj ai 0 0,_,_,by omega,by simp,X,G,D,g⟩
   obtain⟨c,q,d,p,o,xs,v,j,Z,A,I,X,G,D,rfl⟩:=F;let⟨U,V,H⟩:=gU X.arg;subst H;have ac:=X.st.rd.c2;have y0:=X.c0;have y1:=X.c1;have dE:((c:Int) != 0)=aK:=bX
   have C:∀m,aB prog 63 #[d,.agg #[.string N,aj U (bB xs) V]] (bF W m) λe w'=>e=aw (.bool (kx p ⟨N,xs⟩))∧dG (bF W m) w':=λm=>mM (bF W m) (X.st.ls.drewN m) X.st.lo ⟨N,xs⟩ (aj U (bB xs) V) X.arg (by simpa using I) X.st.four;cases B:kx p ⟨N,xs⟩ with
   |false=>
    rw[B] at C
    go_region_with(go_at_call 63;refine(C _).mono ?_;rintro e w7 ⟨rfl,y⟩;have z:=(X.drewN _).dF y;have e7:=z.st.rd.c3)
    all_goals
     go_wp2;go_ret;exact⟨rfl,d,_,p,o,z.st,(G.step (dR (bW (λ_=>False) W) _) λ_ _ e=>e.elim).dF y,D⟩
   |true=>
    rw[B] at C
    go_region_with(go_at_call 63;refine(C _).mono ?_;rintro e w7 ⟨rfl,y⟩;have z:=(X.drewN _).dF y;have O:=kq w7 q z.st.rd 5 (bl s i);rw[mj A,mn A] at O)
    all_goals
     go_wp2_with(go_at_call 31;refine O.mono ?_;rintro e w8 ⟨rfl,S,R⟩;have e8:=S.c3);go_ret;exact⟨rfl,d,_,p,o,(z.read R S).st,((G.step (dR (bW (λ_=>False) W) _) λ_ _ e=>e.elim).dF y).iw R,D⟩
 |false=>
  rw[Y] at NM g;rw[cC bQ] at g;simp only[gL,jF] at NM;have L:aB prog 61 #[pz r] w λx w'=>x=aw (.tuple #[.string (s.extract (bl s i) (kK s (bl s i))),iz (bl s i:Int)])∧S1 w' base r av s (kK s (bl s i)) 0 0 l vs∧GR r w av w' av:=NM.mono λx w' M=>⟨M.1,h.read M.2.1 M.2.2,(adX r w av).iw M.2.1⟩;generalize s.extract (bl s i) (kK s (bl s i))=N at *;go_enter func29,ntmps29;by_cases ab:12<deep
  .have aa:(12:Int)<(deep:Int):=bO
   rw[cY ab] at g;replace g:=g.symm
   go_wp2_with(first|(go_at_call 61;refine L.mono ?_;rintro e w2 ⟨rfl,E,G2⟩;have FA:aB prog 31 #[pz r,iz ((4:Nat):Int),iz (bl s i:Int)] w2 λx w'=>x=aw (.tuple #[])∧Rr w' r s (kK s (bl s i)) av 4 (bl s i)∧dV r w2 w':=kq w2 0 E.rd 4 (bl s i))|(go_at_call 31;refine FA.mono ?_;rintro e J ⟨rfl,R3,K3⟩;have S3:=E.read K3 R3;have T:=S3.boxed N;have P:=kS (bl s i) T.st.rd 40;rw[tx bO] at P)|(go_at_call 62;refine P.mono ?_;rintro e W ⟨rfl,R4,Q⟩));have X:S2 W base r av s _ 4 (bl s i) l vs J.heap.size N [] (aj ai 0 0):=T.read Q R4;have G:GR r w av W av:=((G2.iw K3).dF (dD (bW _ J) _)).iw Q;have D:=Hm w vs;generalize J.heap.size=x at *;have F:∃(c q:Nat)(d:aA)(p:List Tm)(o:List aA)(xs:List Nat)(v:aA)(j:Nat)(Z:List Tm),1<=c∧bB xs<=5∧S2 W base r d s j c q p o x N xs v∧GR r w av W d∧ru w vs o∧res=.bad c q Z:=⟨4,bl s i,av,l,vs,[],aj ai 0 0,_,_,by omega,by simp,X,G,D,g⟩
   obtain⟨c,q,d,p,o,xs,v,j,Z,A,I,X,G,D,rfl⟩:=F;let⟨U,V,H⟩:=gU X.arg;subst H;have ac:=X.st.rd.c2;have y0:=X.c0;have y1:=X.c1;have dE:((c:Int) != 0)=aK:=bX
   have C:∀m,aB prog 63 #[d,.agg #[.string N,aj U (bB xs) V]] (bF W m) λe w'=>e=aw (.bool (kx p ⟨N,xs⟩))∧dG (bF W m) w':=λm=>mM (bF W m) (X.st.ls.drewN m) X.st.lo ⟨N,xs⟩ (aj U (bB xs) V) X.arg (by simpa using I) X.st.four;cases B:kx p ⟨N,xs⟩ with
   |false=>
    rw[B] at C
    go_region_with(go_at_call 63;refine(C _).mono ?_;rintro e w7 ⟨rfl,y⟩;have z:=(X.drewN _).dF y;have e7:=z.st.rd.c3)
    all_goals
     go_wp2;go_ret;exact⟨rfl,d,_,p,o,z.st,(G.step (dR (bW (λ_=>False) W) _) λ_ _ e=>e.elim).dF y,D⟩
   |true=>
    rw[B] at C
    go_region_with(go_at_call 63;refine(C _).mono ?_;rintro e w7 ⟨rfl,y⟩;have z:=(X.drewN _).dF y;have O:=kq w7 q z.st.rd 5 (bl s i);rw[mj A,mn A] at O)
    all_goals
     go_wp2_with(go_at_call 31;refine O.mono ?_;rintro e w8 ⟨rfl,S,R⟩;have e8:=S.c3);go_ret;exact⟨rfl,d,_,p,o,(z.read R S).st,((G.step (dR (bW (λ_=>False) W) _) λ_ _ e=>e.elim).dF y).iw R,D⟩
  have aa:¬(12:Int)<(deep:Int):=bO
  grind
theorem S1.stored(h:S1 w base r av s i e a l vs)(K:bI (λk=>aP av=ah k) w w')(L:Ls w' base av' l' vs')(g:bB l'<=1000)(o:∀u∈l',bB u.args<=4):
  S1 (aW w' (az r 2) av') base r av' s i e a l' vs':=by
 have R:Rr w' r s i av e a:=h.rd.of_block (K.block r h.rd.row.lt (lM h.ls.row h.rd.row bS));have f:dV r w' (aW w' (az r 2) av'):=eH (bW _ w') _ _;refine⟨R.list av',L.blocks (λb d=>f.block b (oF L.row d) λx=>lM L.row R.row bS (x▸d)) λu p b d=>?_,bZ h.bs (bZ K.size f.size),g,o⟩;let⟨xs,m⟩:=L.mem p;exact f.block b (oF m d) λx=>lM m R.row bS (x▸d)
theorem IE(h:u∈Ua l t vs v):u∈vs∨u=v:=by grind[Ua,qC]
theorem Kl{u:Tm}(h:u∈pq l t):u∈l∨u=t:=by grind[pq,qC]
theorem Iw(f:Nat)(w:ay)(base r:Nat)(av:aA)(s:ByteArray)(i:Nat)(l:List Tm)(vs:List aA)(deep:Nat)(h:S1 w base r av s i 0 0 l vs)(V:Good l)(ag:2*(s.size-bl s i)+1<=f+1)(hb:bB l+(s.size-bl s i)<=600)(Y:¬12<deep)(H:gX s (bl s i)=aL)(C:ix s (bl s (kK s (bl s i))) 40=aL):
  aB prog 29 #[pz r,iz deep] w (OU w base r av s vs (iI s (f+1) deep (bl s i) l)):=by
 have J:=jV h.rd.le;have O:=BN h.rd;generalize d:iI s (f+1) deep (bl s i) l=res;rw[iI] at d;unfold Dh at O;rw[H] at O d;rw[cC bQ,cC Y] at d;simp only[gL,jF] at O;have a0:=pg J;have S:aB prog 61 #[pz r] w λx w'=>x=aw (.tuple #[.string (s.extract (bl s i) (kK s (bl s i))),iz (bl s i:Int)])∧S1 w' base r av s (kK s (bl s i)) 0 0 l vs∧GR r w av w' av:=O.mono λx w' Q=>⟨Q.1,h.read Q.2.1 Q.2.2,(adX r w av).iw Q.2.1⟩;generalize s.extract (bl s i) (kK s (bl s i))=N at *;go_enter func29,ntmps29;rw[C,cC bQ] at d;replace d:=d.symm
 go_wp2_with(first|(go_at_call 61;refine S.mono ?_;rintro e w3 ⟨rfl,S3,G2⟩;have X3:=S3.boxed N;have HA:=kS 0 X3.st.rd 40;rw[oK,C] at HA)|(go_at_call 62;refine HA.mono ?_;rintro e W ⟨rfl,R4,K4⟩));rw[AR (by rw[oK];exact C)] at R4;have X:S2 W base r av s _ 0 0 l vs w3.heap.size N [] (aj ai 0 0):=X3.read K4 R4;have G:GR r w av W av:=(G2.dF (dD (bW _ w3) _)).iw K4;have P:=Hm w vs;generalize w3.heap.size=x at *;have U:∃(g:aA)(p:List Tm)(z:List aA)(xs:List Nat)(v:aA)(j:Nat),bB xs<=4∧S2 W base r g s j 0 0 p z x N xs v∧GR r w av W g∧ru w vs z∧(∀k,aP v=ah k->w.heap.size<=k)∧Good p∧bB p<1000∧res=oj ⟨N,xs⟩ (bl s i) (bl s j) p:=⟨av,l,vs,[],aj ai 0 0,bl s (kK s (bl s i)),by simp,X,G,P,by simp[aP],V,by omega,by rw[yc];exact d⟩
 obtain⟨g,p,z,xs,v,j,ad,X,G,P,ac,ao,ap,d⟩:=U;let⟨E,F,Z⟩:=gU X.arg;subst Z;have a1:=X.st.rd.c2;have y0:=X.c0;have y1:=X.c1;have M:∀m,aB prog 63 #[g,.agg #[.string N,aj E (bB xs) F]] (bF W m) λe w'=>e=aw (.bool (kx p ⟨N,xs⟩))∧dG (bF W m) w':=λm=>mM (bF W m) (X.st.ls.drewN m) X.st.lo ⟨N,xs⟩ (aj E (bB xs) F) X.arg bX X.st.four;cases I:kx p ⟨N,xs⟩ with
 |true=>
  rw[I] at M;have q:qV p ⟨N,xs⟩=aL:=by grind[qW]
  have B:res=.bad 5 (bl s i) p:=by rw[d,oj,q];rfl
  subst B
  go_region_with(go_at_call 63;refine(M _).mono ?_;rintro e A ⟨rfl,D⟩;have o:=(X.drewN _).dF D;have FL:aB prog 31 #[pz r,iz ((5:Nat):Int),iz (bl s i:Int)] A λx w'=>x=aw (.tuple #[])∧Rr w' r s _ g 5 (bl s i)∧dV r A w':=kq A 0 o.st.rd 5 (bl s i))
  all_goals
   go_wp2_with(go_at_call 31;refine FL.mono ?_;rintro e w8 ⟨rfl,R8,K8⟩;have e8:=R8.c3);go_ret;exact⟨rfl,g,_,p,z,(o.read K8 R8).st,((G.step (dR (bW (λ_=>False) W) _) λ_ _ e=>e.elim).dF D).iw K8,P⟩
 |false=>
  rw[I] at M;have q:qV p ⟨N,xs⟩=aK:=by grind[qW]
  have B:res=.ok (uX p ⟨N,xs⟩) (bl s j) (pq p ⟨N,xs⟩):=by rw[d,oj,q];rfl
  subst B
  go_region_with(go_at_call 63;refine(M _).mono ?_;rintro e A ⟨rfl,D⟩;have o:=(X.drewN _).dF D;have e7:=o.st.rd.c3;have an:=o.st.rd.c2;have z0:=o.c0;have z1:=o.c1)
  all_goals
   have T:∀m,aB prog 64 #[g,.agg #[.string N,aj E (bB xs) F]] (bF A m) (GP (bF A m) base g p z ⟨N,xs⟩ (aj E (bB xs) F)):=λm=>TZ (bF A m) (o.st.ls.drewN m) o.st.lo ⟨N,xs⟩ (aj E (bB xs) F) o.arg o.st.four o.st.bs
   go_wp2
   go_region_with(go_at_call 64;refine(T _).mono ?_;rintro e w9 ⟨al,rfl,L9,R,L⟩;have R9:Rr w9 r s _ g 0 0:=(o.st.rd.drewN _).of_block (R.block r o.st.rd.row.lt (lM o.st.ls.row o.st.rd.row bS));have q2:=R9.c2;have q3:=R9.row.frozen 2;let⟨pa,pc,aa⟩:=L9.form;subst aa)
   all_goals
    go_wp2;go_ret;have SS:=(o.st.drewN _).stored R L9 (by have:=Dg p ⟨N,xs⟩;omega) (λu hu=>by
     obtain y|y:=Kl hu
     .exact o.st.four u y
     rw[y];exact ad)
    have GB:=((G.step (dR (bW (λ_=>False) W) 1) λ_ _ e=>e.elim).dF D)
    have GC:=(GB.step (dR (bW (λ_=>False) A) 1) λ_ _ e=>e.elim).step R λk _ e=>cI (cB e);have ab:w.heap.size<=A.heap.size:=GB.kept.size;refine⟨rfl,_,j,_,SS,rfl,⟨(GC.step (eH (nb:=r) (bW _ w9) 2 _) λ_ _ e=>cB e).kept,?_⟩,?_⟩
    .obtain e|e:=L
     .obtain e2|e2:=G.row
      .exact cB (e.trans e2)
      grind
     exact cI λk hk=>bZ ab (e k hk)
    intro u hu;obtain y|y:=IE hu
    .exact P u y
    rw[y];exact cI ac
end
theorem xI(w:ay)(a:aA)(c:aE):∀j u,([a]:List aA)[j]?=ah u->aU (bC w (aq #[a] c)) ((az w.heap.size 0:Addr).add j)=ah u:=by
 intro j u b
 match j,b with
 |0,b=>simp at b;subst b;simp[Addr.add]
variable{w wr w5 w':ay}{base r x i e a k n p nb fb q:Nat}{av avc av5 v ev:aA}{s nm:ByteArray}{l:List Tm}{vs:List aA}{xs:List Nat}{o:Obj}
theorem Vp{d:aA}(G:GR r w av wr avc)(g:GR r wr avc w5 av5)(_:S2 w5 base r av5 s i e a l vs x nm xs v)(c:∀k,aP v=ah k->w.heap.size<=k)(b:aP d=aP v∨∀k,aP d=ah k->(bC w5 o).heap.size<=k):∀k,aP d=ah k->w.heap.size<=k:=by
 intro k f;obtain e|e:=b
 .exact c k (e▸f)
 have h:=e k f;have j:=G.kept.size;have m:=g.kept.size;simp at h;omega
theorem JA{b:ay}(G:GR r w av wr avc)(d:GR r wr avc w5 av5)(_:S2 w5 base r av5 s i e a l vs x nm xs v)(c:∀k,aP v=ah k->w.heap.size<=k)(m:w.heap.size<=x)(j:bH (bC w5 o) b (aP v))(u:aA):GR r w av (aW b (az x 1) u) av5:=by have f:=(G.trans d).dF (dD (bW _ w5) o);have g:bI (λk=>aP v=ah k) (bC w5 o) b:=gA (bW _ _) j λk e=>e;have h:=f.step g λk _ e=>cI (cI (c k e));exact h.step (eH (nb:=x) (bW _ b) 1 u) λk _ e=>cI (cI bO)
theorem Ix(f:Nat)(IH:∀g,g<=f->OT g)(w:ay)(base r:Nat)(av:aA)(s:ByteArray)(i:Nat)(l:List Tm)(vs:List aA)(deep:Nat)(h:S1 w base r av s i 0 0 l vs)(cp:Good l)(hf:2*(s.size-bl s i)+1<=f+1)(hb:bB l+(s.size-bl s i)<=600)(cr:¬12<deep)(be:gX s (bl s i)=aL)(a3:ix s (bl s (kK s (bl s i))) 40=aK):
  aB prog 29 #[pz r,iz deep] w (OU w base r av s vs (iI s (f+1) deep (bl s i) l)):=by
 have dy:=h.rd.small;have ci:=jV h.rd.le;have NM:=BN h.rd;generalize C:iI s (f+1) deep (bl s i) l=res;rw[iI] at C;unfold Dh at NM;rw[be] at NM C;rw[cC bQ,cC cr] at C;simp only[gL,jF] at NM;have ds:=Ep be;have c7:=pg ci;have dg:=oL s (kK s (bl s i));have cb:=jV c7;have di:=lB a3;have db:=iV (c:=40) cb;have b7:aB prog 61 #[pz r] w λx w'=>x=aw (.tuple #[.string (s.extract (bl s i) (kK s (bl s i))),iz (bl s i:Int)])∧S1 w' base r av s (kK s (bl s i)) 0 0 l vs∧GR r w av w' av:=NM.mono λx w' hP=>⟨hP.1,h.read hP.2.1 hP.2.2,(adX r w av).iw hP.2.1⟩;clear NM;generalize s.extract (bl s i) (kK s (bl s i))=N at *;rw[a3,cY rfl] at C;replace C:=C.symm;have bo:behind s (bl s (kK s (bl s i))) 40=bl s (bl s (kK s (bl s i))+1):=pN a3;go_enter func29,ntmps29
 go_wp2_with(first|(go_at_call 61;refine b7.mono ?_;rintro e w3 ⟨rfl,S3,G2⟩;have X3:=S3.boxed N;have HA:=kS 0 X3.st.rd 40;rw[oK,a3] at HA)|(go_at_call 62;refine HA.mono ?_;rintro e W ⟨rfl,R4,K4⟩));rw[CC (by rw[oK];exact a3)] at R4;have X:S2 W base r av s _ 0 0 l vs w3.heap.size N [] (aj ai 0 0):=X3.read K4 R4;have G:GR r w av W av:=(G2.dF (dD (bW _ w3) _)).iw K4;have a5:w.heap.size<=w3.heap.size:=G2.kept.size;clear HA R4 K4 X3 G2 S3;generalize w3.heap.size=x at *;let⟨i0,a1,a6,a7,a8⟩:=eB Z9;generalize bR:jO s f (deep+1) (behind s (bl s (kK s (bl s i))) 40) l []=P0 at C
 go_loopw[] (λW=>∃(m j:Nat)(avc:aA)(B:List Tm)(b:List aA)(xs:List Nat)(v:aA),S2 W base r avc s j 0 0 B b x N xs v∧Hid (m<=f∧P0=jO s m (deep+1) (bl s j) B xs∧2*(s.size-bl s j)+2<=m∧bB B+(s.size-bl s j)<=600∧Good B∧ru w vs b∧(∀k,aP v=ah k->w.heap.size<=k))∧bB xs<=4∧Hid (GR r w av W avc)) λW=>s.size-(match aU W (az r 1) with|some v=>(aG v).toNat|none=>0)
 case atStart=>exact⟨f,_,av,l,vs,[],_,X,⟨bT f,by rw[<-bR,bo],by rw[<-bo];omega,by rw[<-bo];omega,cp,Hm w vs,by simp[aP]⟩,by simp,G⟩
 case round=>
  clear X G b7 bR;obtain⟨m,j,avc,B,b,xs,v,X,⟨dm,E,hm,cd,an,NV,U⟩,cj,G⟩:=hrel;obtain⟨g,rfl⟩:∃g,m=g+2:=⟨m-2,by omega⟩
  have cy:=X.st.rd.le;have a2:=jV cy;rw[PW s g (deep+1) (bl s j) B xs a2] at E;let⟨ca,cc,ac⟩:=gU X.arg;subst ac;have y1:=X.c1;have a9:=X.st.rd.c0;have ba:=X.st.rd.c1;have ab:=X.st.rd.c3;by_cases h4:bB xs=4
  .have d4:((bB xs:Int)==4)=aK:=beq_iff_eq.2 bO;have bj:=qL X.st.rd;by_cases c6:bl s j<s.size
   .rw[cY ⟨h4,c6⟩] at E;have T:res=.bad 3 (bl s j) B:=by rw[C,E]
    clear C E;subst T;clear a9 ba ab h4
    go_wp2_with(go_at_call 30;refine bj.mono ?_;rintro e w5 ⟨rfl,R5,K5⟩;have X5:=X.read K5 R5;have a9:=R5.c0;have ba:=R5.c1;have ab:=R5.c3);go_quiet(fail);have FT:∀m,aB prog 31 #[pz r,iz ((3:Nat):Int),iz (bl s j:Int)] (bF w5 m) λx w'=>x=aw (.tuple #[])∧Rr w' r s (bl s j) avc 3 (bl s j)∧dV r (bF w5 m) w':=λm=>kq (bF w5 m) 0 (R5.drewN m) 3 (bl s j);have dc:=(R5.drewN nq).c1
    go_wp2_with(go_at_call 31;refine(FT _).mono ?_;rintro e w6 ⟨rfl,R6,K6⟩;have e6:=R6.c3);go_ret;exact⟨rfl,avc,_,B,b,((X5.drewN nq).read K6 R6).st,((G.out.iw K5).step (dR (bW (λ_=>False) w5) nq) λ_ _ e=>e.elim).iw K6,NV⟩
   rw[cC bO] at E;have bx:bl s j=s.size:=bO
   have hx:iI s (g+1) (deep+1) (bl s j) B=.bad 2 s.size B:=by rw[bx];exact El s g (deep+1) B
   obtain⟨c,hc⟩:=bK 2;obtain⟨q,hq⟩:=bK s.size;obtain⟨l2,ch⟩:=bK B;have dz:iI s (g+1) (deep+1) (bl s j) B=.bad c q l2:=by rw[hx,hc,hq,ch]
   have D:1<=c:=bO
   clear hx hc hq ch h4
   rename iI s (g+1) (deep+1) (bl s j) B=.bad c q l2=>hx
   rw[hx] at E;clear a9 ba ab
   go_wp2_with(go_at_call 30;refine bj.mono ?_;rintro e w4 ⟨rfl,R4,K4⟩;have a9:=R4.c0;have ba:=R4.c1;have ab:=R4.c3;have cE:=(X.read K4 R4).c1);go_quiet(fail);have X4:=(X.read K4 R4).drewN nq;have G4:Hid (GR r w av (bF w4 nq) avc):=(G.out.iw K4).step (dR (bW (λ_=>False) w4) nq) λ_ _ e=>e.elim;clear X G a9 ba ab y1 cE bj K4 R4
   rename S2 _ _ _ _ _ _ _ _ _ _ _ _ _ _=>X
   rename Hid (GR r w av (bF w4 nq) avc)=>G
   have TM:=IH (g+1) bO (bF w4 nq) base r avc s (bl s j) B b (deep+1) X.st an (by rw[yc];omega) (by rw[yc];exact cd) bO;rw[show((deep+1:Nat):Int)=(deep:Int)+1 from by omega,yc,hx] at TM;have y1:=X.c1;have ab:=X.st.rd.c3
   go_wp2_with(first|(go_at_call 29;refine TM.mono ?_;rintro e w5 ⟨rfl,av5,i5,l5,ad,S5,G5,N5⟩;have I:=X.inner G5 N5 S5;have p1:=I.c1)|(at_builtin;go_loud (refine gK rfl _ _ 39 rfl base 3 i0 _ 1 8 underlying39 a1 a6 a7 a8 rfl bS _ _ (qZ xs) rfl (I.arg.alloc _) (az w5.heap.size 0) 1 1 [iz 0] rfl rfl (xI _ _ _) cM cJ bO (by have:=I.st.bs;simp;omega) ?_;intro v6 w6 A d t;let⟨P,Q,L⟩:=gU A;subst L;have M:=I.dF (dD (bW _ w5) (aq #[iz 0] 3));have b6:=du M.box (d.block x M.box.lt λz=>lM M.arg M.box bS z.symm);have bb:=dU b6 (i:=1) bO;have bc:=cA b6 1;have Y:=M.push 0 A d t;have L:∀k,aP (aT P (bB xs+1) Q)=ah k->w.heap.size<=k:=Vp G.out G5 I U t;have G6:GR r w av (aW w6 (az x 1) (aj P (bB xs+1) Q)) av5:=JA G.out G5 I U a5 d _;have HC:=kS q Y.st.rd 44;rw[tx D] at HC))|(go_at_call 31;refine FE.mono ?_;rintro e W ⟨rfl,R9,K9⟩)|(go_at_call 62;refine HD.mono ?_;rintro e w8 ⟨rfl,R,V⟩;have Y8:=Y7.read V R;have u1:=R.c1;have FE:=kq w8 q R 2 (za s (za s i5 c 44) c 41);rw[mj D,mn D] at FE)|(go_at_call 62;refine HC.mono ?_;rintro e Z ⟨rfl,R7,F⟩;have Y7:=Y.read F R7;have HD:=kS q R7 41;rw[tx D] at HD));have X9:=Y8.read K9 R9;have G9:=((G6.iw F).iw V).iw K9;have ao:=NV.trans N5 G.out.kept.size;have T:res=.bad c q l2:=by rw[C,E]
   have h5:bB (xs++[0])<=5:=bX
   clear X G NV C;have ag:∃(c q:Nat)(avc:aA)(B:List Tm)(b:List aA)(xs:List Nat)(v:aA)(j:Nat)(lx:List Tm),1<=c∧bB xs<=5∧S2 W base r avc s j c q B b x N xs v∧GR r w av W avc∧ru w vs b∧res=.bad c q lx:=⟨c,q,av5,l5,ad,xs++[0],_,_,_,D,h5,X9,G9,ao,T⟩
   obtain⟨c,q,avc,B,b,xs,v,j,lx,D,a4,X,G,NV,rfl⟩:=ag;let⟨ca,cc,ac⟩:=gU X.arg;subst ac;have b0:=X.st.rd.c2;have ab:=X.st.rd.c3;have y0:=X.c0;have y1:=X.c1;have dE:((c:Int) != 0)=aK:=bX
   have CL:∀m,aB prog 63 #[avc,.agg #[.string N,aj ca (bB xs) cc]] (bF W m) λe w'=>e=aw (.bool (kx B ⟨N,xs⟩))∧dG (bF W m) w':=λm=>mM (bF W m) (X.st.ls.drewN m) X.st.lo ⟨N,xs⟩ (aj ca (bB xs) cc) X.arg (by simpa using a4) X.st.four;cases O:kx B ⟨N,xs⟩ with
   |false=>
    rw[O] at CL
    go_region_with(go_at_call 63;refine(CL _).mono ?_;rintro e Z ⟨rfl,F⟩;have H:=(X.drewN _).dF F;have e7:=H.st.rd.c3)
    all_goals
     go_wp2;go_ret;exact⟨rfl,avc,_,B,b,H.st,(G.step (dR (bW (λ_=>False) W) _) λ_ _ e=>e.elim).dF F,NV⟩
   |true=>
    rw[O] at CL
    go_region_with(go_at_call 63;refine(CL _).mono ?_;rintro e Z ⟨rfl,F⟩;have H:=(X.drewN _).dF F;have FL:=kq Z q H.st.rd 5 (bl s i);rw[mj D,mn D] at FL)
    all_goals
     go_wp2_with(go_at_call 31;refine FL.mono ?_;rintro e w8 ⟨rfl,R,V⟩;have e8:=R.c3);go_ret;exact⟨rfl,avc,_,B,b,(H.read V R).st,((G.step (dR (bW (λ_=>False) W) _) λ_ _ e=>e.elim).dF F).iw V,NV⟩
  have d4:((bB xs:Int)==4)=aL:=gB.2 bO;rw[cC bO] at E;have TM:=IH (g+1) bO wr base r avc s j B b (deep+1) X.st an bO cd bO;rw[show((deep+1:Nat):Int)=(deep:Int)+1 from by omega] at TM;cases hx:iI s (g+1) (deep+1) (bl s j) B with
  |bad c q l2=>
   rw[hx] at TM E;have D:=((Uk s (g+1)).1 (deep+1) (bl s j) B c q l2 a2 bO hx).1
   go_wp2_with(first|(go_at_call 29;refine TM.mono ?_;rintro e w5 ⟨rfl,av5,i5,l5,ad,S5,G5,N5⟩;have I:=X.inner G5 N5 S5;have p1:=I.c1)|(at_builtin;go_loud (refine gK rfl _ _ 39 rfl base 3 i0 _ 1 8 underlying39 a1 a6 a7 a8 rfl bS _ _ (qZ xs) rfl (I.arg.alloc _) (az w5.heap.size 0) 1 1 [iz 0] rfl rfl (xI _ _ _) cM cJ bO (by have:=I.st.bs;simp;omega) ?_;intro v6 w6 A d t;let⟨P,Q,L⟩:=gU A;subst L;have M:=I.dF (dD (bW _ w5) (aq #[iz 0] 3));have b6:=du M.box (d.block x M.box.lt λz=>lM M.arg M.box bS z.symm);have bb:=dU b6 (i:=1) bO;have bc:=cA b6 1;have Y:=M.push 0 A d t;have L:∀k,aP (aT P (bB xs+1) Q)=ah k->w.heap.size<=k:=Vp G.out G5 I U t;have G6:GR r w av (aW w6 (az x 1) (aj P (bB xs+1) Q)) av5:=JA G.out G5 I U a5 d _;have HC:=kS q Y.st.rd 44;rw[tx D] at HC))|(go_at_call 31;refine FE.mono ?_;rintro e W ⟨rfl,R9,K9⟩)|(go_at_call 62;refine HD.mono ?_;rintro e w8 ⟨rfl,R,V⟩;have Y8:=Y7.read V R;have u1:=R.c1;have FE:=kq w8 q R 2 (za s (za s i5 c 44) c 41);rw[mj D,mn D] at FE)|(go_at_call 62;refine HC.mono ?_;rintro e Z ⟨rfl,R7,F⟩;have Y7:=Y.read F R7;have HD:=kS q R7 41;rw[tx D] at HD));have X9:=Y8.read K9 R9;have G9:=((G6.iw F).iw V).iw K9;have ao:=NV.trans N5 G.out.kept.size;have T:res=.bad c q l2:=by rw[C,E]
   have h5:bB (xs++[0])<=5:=bX
   have ag:∃(c q:Nat)(avc:aA)(B:List Tm)(b:List aA)(xs:List Nat)(v:aA)(j:Nat)(lx:List Tm),1<=c∧bB xs<=5∧S2 W base r avc s j c q B b x N xs v∧GR r w av W avc∧ru w vs b∧res=.bad c q lx:=⟨c,q,av5,l5,ad,xs++[0],_,_,_,D,h5,X9,G9,ao,T⟩
   obtain⟨c,q,avc,B,b,xs,v,j,lx,D,a4,X,G,NV,rfl⟩:=ag;let⟨ca,cc,ac⟩:=gU X.arg;subst ac;have b0:=X.st.rd.c2;have ab:=X.st.rd.c3;have y0:=X.c0;have y1:=X.c1;have dE:((c:Int) != 0)=aK:=bX
   have CL:∀m,aB prog 63 #[avc,.agg #[.string N,aj ca (bB xs) cc]] (bF W m) λe w'=>e=aw (.bool (kx B ⟨N,xs⟩))∧dG (bF W m) w':=λm=>mM (bF W m) (X.st.ls.drewN m) X.st.lo ⟨N,xs⟩ (aj ca (bB xs) cc) X.arg (by simpa using a4) X.st.four;cases O:kx B ⟨N,xs⟩ with
   |false=>
    rw[O] at CL
    go_region_with(go_at_call 63;refine(CL _).mono ?_;rintro e Z ⟨rfl,F⟩;have H:=(X.drewN _).dF F;have e7:=H.st.rd.c3)
    all_goals
     go_wp2;go_ret;exact⟨rfl,avc,_,B,b,H.st,(G.step (dR (bW (λ_=>False) W) _) λ_ _ e=>e.elim).dF F,NV⟩
   |true=>
    rw[O] at CL
    go_region_with(go_at_call 63;refine(CL _).mono ?_;rintro e Z ⟨rfl,F⟩;have H:=(X.drewN _).dF F;have FL:=kq Z q H.st.rd 5 (bl s i);rw[mj D,mn D] at FL)
    all_goals
     go_wp2_with(go_at_call 31;refine FL.mono ?_;rintro e w8 ⟨rfl,R,V⟩;have e8:=R.c3);go_ret;exact⟨rfl,avc,_,B,b,(H.read V R).st,((G.step (dR (bW (λ_=>False) W) _) λ_ _ e=>e.elim).dF F).iw V,NV⟩
  |ok n k2 l2=>
   rw[hx] at TM E;simp only at E;have b8:=(Ma s (g+1)).1 (deep+1) (bl s j) B n k2 l2 a2 an hx;let⟨dk,ce⟩:=((nM s (g+1)).1 (deep+1) (bl s j) B a2).2 n k2 l2 hx;let⟨dj,O⟩:=(vD s (g+1)).1 (deep+1) (bl s j) B n k2 l2 a2 hx;cases aa:ix s k2 44 with
   |true=>
    rw[aa,cY rfl] at E;have da:=lB aa;have cx:=iV (c:=44) ce;have ap:behind s k2 44=bl s (k2+1):=pN aa
    go_wp2_with(first|(go_at_call 29;refine TM.mono ?_;rintro e w5 ⟨rfl,av5,i5,ad,S5,J,G5,N5⟩;have I:=X.inner G5 N5 S5;have p1:=I.c1)|(at_builtin;go_loud (refine gK rfl _ _ 39 rfl base 3 i0 _ 1 8 underlying39 a1 a6 a7 a8 rfl bS _ _ (qZ xs) rfl (I.arg.alloc _) (az w5.heap.size 0) 1 1 [iz n] rfl rfl (xI _ _ _) cM cJ bO (by have:=I.st.bs;simp;omega) ?_;intro v6 w6 A d t;let⟨P,Q,L⟩:=gU A;subst L;have M:=I.dF (dD (bW _ w5) (aq #[iz n] 3));have b6:=du M.box (d.block x M.box.lt λz=>lM M.arg M.box bS z.symm);have bb:=dU b6 (i:=1) bO;have bc:=cA b6 1;have Y:=M.push n A d t;have L:∀k,aP (aT P (bB xs+1) Q)=ah k->w.heap.size<=k:=Vp G.out G5 I U t;have G6:GR r w av (aW w6 (az x 1) (aj P (bB xs+1) Q)) av5:=JA G.out G5 I U a5 d _;have HC:=kS 0 Y.st.rd 44;rw[oK,J,aa] at HC))|(go_at_call 62;refine HC.mono ?_;rintro e Z ⟨rfl,R7,F⟩));rw[CC (by rw[oK,J];exact aa),J] at R7
    go_roundw
    case rel=>exact⟨g+1,k2+1,av5,l2,ad,xs++[n],_,Y.read F R7,⟨by omega,by rw[<-ap];exact E,by rw[<-ap];omega,by rw[<-ap];omega,b8,NV.trans N5 G.out.kept.size,L⟩,by simp;omega,G6.iw F⟩
    case measure=>have dv:=oL s j;have dx:=R7.le;rw[X.st.rd.c1,R7.c1];simp[aG];omega
   |false=>
    rw[aa,cC bQ] at E;cases al:ix s k2 41 with
    |true=>
     rw[al,cY rfl] at E;have ap:behind s k2 41=bl s (k2+1):=pN al
     go_wp2_with(first|(go_at_call 29;refine TM.mono ?_;rintro e w5 ⟨rfl,av5,i5,ad,S5,J,G5,N5⟩;have I:=X.inner G5 N5 S5;have p1:=I.c1)|(at_builtin;go_loud (refine gK rfl _ _ 39 rfl base 3 i0 _ 1 8 underlying39 a1 a6 a7 a8 rfl bS _ _ (qZ xs) rfl (I.arg.alloc _) (az w5.heap.size 0) 1 1 [iz n] rfl rfl (xI _ _ _) cM cJ bO (by have:=I.st.bs;simp;omega) ?_;intro v6 w6 A d t;let⟨P,Q,L⟩:=gU A;subst L;have M:=I.dF (dD (bW _ w5) (aq #[iz n] 3));have b6:=du M.box (d.block x M.box.lt λz=>lM M.arg M.box bS z.symm);have bb:=dU b6 (i:=1) bO;have bc:=cA b6 1;have Y:=M.push n A d t;have L:∀k,aP (aT P (bB xs+1) Q)=ah k->w.heap.size<=k:=Vp G.out G5 I U t;have G6:GR r w av (aW w6 (az x 1) (aj P (bB xs+1) Q)) av5:=JA G.out G5 I U a5 d _;have HC:=kS 0 Y.st.rd 44;rw[oK,J,aa] at HC))|(go_at_call 62;refine HD.mono ?_;rintro e W ⟨rfl,R,V⟩)|(go_at_call 62;refine HC.mono ?_;rintro e Z ⟨rfl,R7,F⟩;rw[AR (by rw[oK,J];exact aa),J] at R7;have Y7:=Y.read F R7;have HD:=kS 0 R7 41;rw[oK,show bl s k2=k2 from by rw[<-J,yc],al] at HD));have bi:bl s k2=k2:=by rw[<-J,yc]
     rw[CC (by rw[oK,bi];exact al),bi] at R;have X8:=Y7.read V R;have G8:=(G6.iw F).iw V;have cm:=NV.trans N5 G.out.kept.size;have T:res=oj ⟨N,xs++[n]⟩ (bl s i) (bl s (k2+1)) l2:=by rw[C,E,ap]
     have cv:bB l2<1000:=by have:=X8.st.rd.le;omega
     have co:bB (xs++[n])<=4:=bX
     have ag:∃(avc:aA)(B:List Tm)(b:List aA)(xs:List Nat)(v:aA)(j:Nat),bB xs<=4∧S2 W base r avc s j 0 0 B b x N xs v∧GR r w av W avc∧ru w vs b∧(∀k,aP v=ah k->w.heap.size<=k)∧Good B∧bB B<1000∧res=oj ⟨N,xs⟩ (bl s i) (bl s j) B:=⟨av5,l2,ad,xs++[n],_,k2+1,co,X8,G8,cm,L,b8,cv,T⟩
     obtain⟨avc,B,b,xs,v,j,cj,X,G,NV,U,an,dl,C⟩:=ag;let⟨ca,cc,ac⟩:=gU X.arg;subst ac;have b0:=X.st.rd.c2;have ab:=X.st.rd.c3;have y0:=X.c0;have y1:=X.c1;have CL:∀m,aB prog 63 #[avc,.agg #[.string N,aj ca (bB xs) cc]] (bF W m) λe w'=>e=aw (.bool (kx B ⟨N,xs⟩))∧dG (bF W m) w':=λm=>mM (bF W m) (X.st.ls.drewN m) X.st.lo ⟨N,xs⟩ (aj ca (bB xs) cc) X.arg bX X.st.four;cases O:kx B ⟨N,xs⟩ with
     |true=>
      rw[O] at CL;have a0:qV B ⟨N,xs⟩=aL:=by have:=qW an ⟨N,xs⟩;rw[O] at this;simpa using this.symm
      have T:res=.bad 5 (bl s i) B:=by rw[C,oj,a0];rfl
      subst T
      go_region_with(go_at_call 63;refine(CL _).mono ?_;rintro e Z ⟨rfl,F⟩;have H:=(X.drewN _).dF F;have FL:aB prog 31 #[pz r,iz ((5:Nat):Int),iz (bl s i:Int)] Z λx w'=>x=aw (.tuple #[])∧Rr w' r s _ avc 5 (bl s i)∧dV r Z w':=kq Z 0 H.st.rd 5 (bl s i))
      all_goals
       go_wp2_with(go_at_call 31;refine FL.mono ?_;rintro e w8 ⟨rfl,R,V⟩;have e8:=R.c3);go_ret;exact⟨rfl,avc,_,B,b,(H.read V R).st,((G.step (dR (bW (λ_=>False) W) _) λ_ _ e=>e.elim).dF F).iw V,NV⟩
     |false=>
      rw[O] at CL;have a0:qV B ⟨N,xs⟩=aK:=by have:=qW an ⟨N,xs⟩;rw[O] at this;simpa using this.symm
      have T:res=.ok (uX B ⟨N,xs⟩) (bl s j) (pq B ⟨N,xs⟩):=by rw[C,oj,a0];rfl
      subst T
      go_region_with(go_at_call 63;refine(CL _).mono ?_;rintro e Z ⟨rfl,F⟩;have H:=(X.drewN _).dF F;have e7:=H.st.rd.c3;have de:=H.st.rd.c2;have z0:=H.c0;have z1:=H.c1)
      all_goals
       have cn:∀m,aB prog 64 #[avc,.agg #[.string N,aj ca (bB xs) cc]] (bF Z m) (GP (bF Z m) base avc B b ⟨N,xs⟩ (aj ca (bB xs) cc)):=λm=>TZ (bF Z m) (H.st.ls.drewN m) H.st.lo ⟨N,xs⟩ (aj ca (bB xs) cc) H.arg H.st.four H.st.bs
       go_wp2
       go_region_with(go_at_call 64;refine(cn _).mono ?_;rintro e w9 ⟨dd,rfl,L9,K9,ck⟩;have R9:Rr w9 r s _ avc 0 0:=(H.st.rd.drewN _).of_block (K9.block r H.st.rd.row.lt (lM H.st.ls.row H.st.rd.row bS));have q2:=R9.c2;have q3:=R9.row.frozen 2;let⟨pa,pc,c8⟩:=L9.form;subst c8)
       all_goals
        go_wp2;go_ret;have SS:=(H.st.drewN _).stored K9 L9 (by have:=Dg B ⟨N,xs⟩;omega) (λu hu=>by
         obtain y|y:=Kl hu
         .exact H.st.four u y
         rw[y];exact cj)
        have GB:=((G.step (dR (bW (λ_=>False) W) 1) λ_ _ e=>e.elim).dF F)
        have GC:=(GB.step (dR (bW (λ_=>False) Z) 1) λ_ _ e=>e.elim).step K9 λk _ e=>cI (cB e);have c9:w.heap.size<=Z.heap.size:=GB.kept.size;refine⟨rfl,_,j,_,SS,rfl,⟨(GC.step (eH (nb:=r) (bW _ w9) 2 _) λ_ _ e=>cB e).kept,?_⟩,?_⟩
        .obtain e|e:=ck
         .obtain e2|e2:=G.row
          .exact cB (e.trans e2)
          exact cI λk hk=>e2 k (e▸hk)
         exact cI λk hk=>bZ c9 (e k hk)
        .intro u hu;obtain y|y:=IE hu
         .exact NV u y
         .rw[y];exact cI U
    |false=>
     rw[al,cC bQ] at E
     go_wp2_with(first|(go_at_call 29;refine TM.mono ?_;rintro e w5 ⟨rfl,av5,i5,ad,S5,J,G5,N5⟩;have I:=X.inner G5 N5 S5;have p1:=I.c1)|(at_builtin;go_loud (refine gK rfl _ _ 39 rfl base 3 i0 _ 1 8 underlying39 a1 a6 a7 a8 rfl bS _ _ (qZ xs) rfl (I.arg.alloc _) (az w5.heap.size 0) 1 1 [iz n] rfl rfl (xI _ _ _) cM cJ bO (by have:=I.st.bs;simp;omega) ?_;intro v6 w6 A d t;let⟨P,Q,L⟩:=gU A;subst L;have M:=I.dF (dD (bW _ w5) (aq #[iz n] 3));have b6:=du M.box (d.block x M.box.lt λz=>lM M.arg M.box bS z.symm);have bb:=dU b6 (i:=1) bO;have bc:=cA b6 1;have Y:=M.push n A d t;have L:∀k,aP (aT P (bB xs+1) Q)=ah k->w.heap.size<=k:=Vp G.out G5 I U t;have G6:GR r w av (aW w6 (az x 1) (aj P (bB xs+1) Q)) av5:=JA G.out G5 I U a5 d _;have HC:=kS 0 Y.st.rd 44;rw[oK,J,aa] at HC))|(go_at_call 31;refine FE.mono ?_;rintro e W ⟨rfl,R9,K9⟩)|(go_at_call 62;refine HD.mono ?_;rintro e w8 ⟨rfl,R,V⟩;rw[AR (by rw[oK,show bl s k2=k2 from by rw[<-J,yc]];exact al),show bl s k2=k2 from by rw[<-J,yc]] at R;have Y8:=Y7.read V R;have u1:=R.c1;have FE:aB prog 31 #[pz r,iz ((2:Nat):Int),iz k2] w8 λx w'=>x=aw (.tuple #[])∧Rr w' r s k2 av5 2 k2∧dV r w8 w':=kq w8 0 R 2 k2)|(go_at_call 62;refine HC.mono ?_;rintro e Z ⟨rfl,R7,F⟩;rw[AR (by rw[oK,J];exact aa),J] at R7;have Y7:=Y.read F R7;have HD:=kS 0 R7 41;rw[oK,show bl s k2=k2 from by rw[<-J,yc],al] at HD));have X9:=Y8.read K9 R9;have G9:=((G6.iw F).iw V).iw K9;have ao:=NV.trans N5 G.out.kept.size;have T:res=.bad 2 k2 l2:=by rw[C,E]
     have h5:bB (xs++[n])<=5:=bX
     have ag:∃(c q:Nat)(avc:aA)(B:List Tm)(b:List aA)(xs:List Nat)(v:aA)(j:Nat)(lx:List Tm),1<=c∧bB xs<=5∧S2 W base r avc s j c q B b x N xs v∧GR r w av W avc∧ru w vs b∧res=.bad c q lx:=⟨2,k2,av5,l2,ad,xs++[n],_,_,_,by omega,h5,X9,G9,ao,T⟩
     obtain⟨c,q,avc,B,b,xs,v,j,lx,D,a4,X,G,NV,rfl⟩:=ag;let⟨ca,cc,ac⟩:=gU X.arg;subst ac;have b0:=X.st.rd.c2;have ab:=X.st.rd.c3;have y0:=X.c0;have y1:=X.c1;have dE:((c:Int) != 0)=aK:=bX
     have CL:∀m,aB prog 63 #[avc,.agg #[.string N,aj ca (bB xs) cc]] (bF W m) λe w'=>e=aw (.bool (kx B ⟨N,xs⟩))∧dG (bF W m) w':=λm=>mM (bF W m) (X.st.ls.drewN m) X.st.lo ⟨N,xs⟩ (aj ca (bB xs) cc) X.arg (by simpa using a4) X.st.four;cases O:kx B ⟨N,xs⟩ with
     |false=>
      rw[O] at CL
      go_region_with(go_at_call 63;refine(CL _).mono ?_;rintro e Z ⟨rfl,F⟩;have H:=(X.drewN _).dF F;have e7:=H.st.rd.c3)
      all_goals
       go_wp2;go_ret;exact⟨rfl,avc,_,B,b,H.st,(G.step (dR (bW (λ_=>False) W) _) λ_ _ e=>e.elim).dF F,NV⟩
     |true=>
      rw[O] at CL
      go_region_with(go_at_call 63;refine(CL _).mono ?_;rintro e Z ⟨rfl,F⟩;have H:=(X.drewN _).dF F;have FL:=kq Z q H.st.rd 5 (bl s i);rw[mj D,mn D] at FL)
      all_goals
       go_wp2_with(go_at_call 31;refine FL.mono ?_;rintro e w8 ⟨rfl,R,V⟩;have e8:=R.c3);go_ret;exact⟨rfl,avc,_,B,b,(H.read V R).st,((G.step (dR (bW (λ_=>False) W) _) λ_ _ e=>e.elim).dF F).iw V,NV⟩
theorem Py(f):OT f:=by
 induction f using Nat.strongRecOn with
 |ind f y=>
  intro w base r av s i l vs deep h g u t j;obtain⟨f,rfl⟩:∃d,f=d+1:=⟨f-1,by omega⟩
  by_cases b:gX s (bl s i)=aK∨12<deep
  .exact Px f deep h j b
  have c:gX s (bl s i)=aL:=by
   cases m:gX s (bl s i) with
   |false=>rfl
   |true=>exact absurd (cB m) b
  grind[ix,bl,kK,Iw,Ix]
structure RBk(w:ay)(base q:Nat)(av:aA)(l:List Tm)(vs:List aA):Prop where
 row:bE w q 52 1 (λ_=>av)
 ls:Ls w base av l vs
 bs:base<=w.heap.size
theorem YG(l vs)(h:bB vs=bB l):bB (Od l vs)=bB l*2:=by
 induction l generalizing vs with
 |nil=>simp[Od]
 |cons a l c=>
  cases vs with
  |nil=>simp at h
  |cons b vs=>have:=c vs (by simpa using h);unfold Od at this⊢;simp at this⊢;omega
theorem YF(h:Ls w base av l vs):∀u∈Od l vs,u.oneCell'=aK:=by
 intro u b;unfold Od at b;rw[lI] at b;obtain⟨x,f,b⟩:=b;simp at b;obtain rfl|rfl:=b
 .rfl
 let⟨xs,d⟩:=h.mem (List.of_mem_zip f).2;let⟨a,c,e⟩:=gU d;rw[e];rfl
theorem LQ{e:aE}{xs:List aA}(h:bD w base e k v n xs){g c m:Nat}(d:v=aj (ah (az g 0)) m c):∀j u,xs[j]?=ah u->aU w ((az g 0:Addr).add j)=ah u:=λj u b=>h.cells (g:=g) (by rw[d];rfl) j u b
theorem TF{B f:Nat}{e:aE}{xs:List aA}(h:bD w B e k v n xs)(t:f<=B):bD w f e k v n xs:=by
 refine⟨h.1,?_⟩;obtain x|⟨b,c,d,g,j,m⟩:=h.2
 .exact cB x
 exact cI ⟨b,c,d,g,bZ t j,m⟩
theorem Rk{w}{base}{av}{l}{vs}(h:Ls w base av l vs)(hl:bB l<=1000)(f:base<=w.heap.size):
  aB prog 28 #[av] w λe w'=>∃d,e=aw d∧Ls w' base d l vs∧dG w w'∧∀k,aP d=ah k->w.heap.size<=k:=by
 let⟨G,u,z,A,B⟩:=eB Vi;obtain⟨rfl,I⟩|⟨g,m,D,rfl,_⟩:=h.row.2
 .go_enter func28,ntmps28
  go_wp2;go_ret;exact⟨_,rfl,h,bW _ w,by simp[aP]⟩
 have j:=LQ h.row rfl;go_enter func28,ntmps28
 go_wp2_with(at_builtin;refine gK rfl _ _ 25 rfl (hz w) 140 G _ 2 40 underlying25 u z A B rfl bS (aj ai 0 0) 0 [] rfl (eR _ _ _ _) (az g 0) (bB l) m (Od l vs) rfl (YG l vs h.len) j (YF h) cJ bO (bT _) ?_;intro H w5 c b C);go_ret;rw[fM,ff] at c;have K:dG w w5:=⟨b.os,b.tape,b.output,b.size,λk y _=>b.block k y (by simp[aP])⟩
 refine⟨H,rfl,⟨h.len,TF c f,λi t v E F=>(h.args i t v E F).kept K.grownBy (j8 _)⟩,K,λk y=>(c.lt k y).1⟩
def RK(w:ay)(base q:Nat)(res:Nat×Nat×Nat×List Tm)(e:Ending)(w':ay):Prop:=
 e=aw (.tuple #[ae af res.1,ae af res.2.1,ae af res.2.2.1])∧(∃av' vs',RBk w' base q av' res.2.2.2 vs')∧dV q w w'
theorem YD{w}{base}(av s){l}{vs}(L:Ls w base av l vs)(hs:s.size<=400)(c:base<=w.heap.size)(hl:bB l<=1000)(b:∀u∈l,bB u.args<=4):
  S1 (bC w (aq #[.string s,iz 0,av,iz 0,iz 0] 91)) base w.heap.size av s 0 0 0 l vs:=by
 have K:dG w (bC w (aq #[.string s,iz 0,av,iz 0,iz 0] 91)):=dD (bW _ w) _;refine⟨⟨eO (ey w #[.string s,iz 0,av,iz 0,iz 0] 91) λj d=>?_,by omega,hs⟩,L.dF K,bZ c K.size,hl,b⟩;have f:j<5:=d;obtain rfl|rfl|rfl|rfl|rfl:=(by omega:j=0∨j=1∨j=2∨j=3∨j=4)<;>rfl
theorem TL{w}(base){q}{av}{l}{vs}(h:RBk w base q av l vs)(hG:Good l)(hl:bB l<=150)(s):
  aB prog 14 #[pz q,.string s] w (RK w base q (jh s l)):=by
 by_cases hs:400<s.size
 .have hp:jh s l=(0,1,0,l):=by simp[jh,hs]
  have d:(400:Int)<(s.size:Int):=bO
  go_enter func14,ntmps14
  go_wp2;refine⟨rfl,.tuple #[iz 0,iz 1,iz 0],by simp[aI,results14],?_⟩;rw[hp];exact⟨rfl,⟨av,vs,h⟩,bW _ w⟩
 have hp:jh s l=iY s l:=by simp[jh,hs]
 rw[hp];have d:¬(400:Int)<(s.size:Int):=bO
 have c0:cz w q 0 av:=h.row.cell bO;have CO:=Rk h.ls bO h.bs;have ad:=jV (s:=s) (i:=0) bO;obtain⟨aa,ac,rfl⟩:=h.ls.form;go_enter func14,ntmps14
 go_wp2_with(go_at_call 28;refine CO.mono ?_;rintro e P ⟨an,rfl,L1,G,F1⟩;let⟨C,k1,W⟩:=L1.form;subst W);have M:=YD (aj C (bB l) k1) s L1 bO (bZ h.bs G.size) bO hG.four;have L:dG P (bC P (aq #[.string s,iz 0,aj C (bB l) k1,iz 0,iz 0] 91)):=dD (bW _ P) _;have ap:=G.size;generalize bC P (aq #[.string s,iz 0,aj C (bB l) k1,iz 0,iz 0] 91)=Q at *;have TM:=Py (2*s.size+1) Q base P.heap.size _ s 0 l vs 0 M hG bO bO bO;generalize ao:P.heap.size=r at *;have al:∀k,aP (aT C (bB l) k1)=ah k->w.heap.size<=k:=F1;have keep:∀(y:ay),GR r Q (aj C (bB l) k1) y (aj C (bB l) k1)∨(∃t,GR r Q (aj C (bB l) k1) y t)->(∀k,k<w.heap.size->y.heap[k]?=w.heap[k]?)∧dG w y:=by
  intro y H;have R:bI (λk=>k=r∨aP (aT C (bB l) k1)=ah k∨Q.heap.size<=k) Q y:=by
   obtain e|⟨_,e⟩:=H
   .exact e.kept
   exact e.kept
  have hz:∀k,k<w.heap.size->y.heap[k]?=w.heap[k]?:=λk hk=>by have h2:=L.size;refine(R.block k bO ?_).trans ((L.block k bO λe=>e).trans (G.block k hk λe=>e));grind
  exact⟨hz,⟨R.os.trans (L.os.trans G.os),R.tape.trans (L.tape.trans G.tape),R.output.trans (L.output.trans G.output),bZ G.size (bZ L.size R.size),λk hk _=>hz k hk⟩⟩
 have back:∀(y:ay),(∃t,GR r Q (aj C (bB l) k1) y t)->RBk y base q (aj aa (bB l) ac) l vs∧dV q w y:=by intro y H;let⟨hz,K⟩:=keep y (cI H);exact⟨⟨h.row.of_block (hz q h.row.lt),h.ls.dF K,bZ h.bs K.size⟩,dW K λ_ _ e=>e.elim⟩
 cases I:iI s (2*s.size+1) 0 (bl s 0) l with
 |bad c qq l2=>
  have g:iY s l=(0,c,qq,l):=by simp[iY,I]
  rw[I] at TM;have Z:=((Uk s (2*s.size+1)).1 0 (bl s 0) l c qq l2 ad bO I).1;have dE:((c:Int)==0)=aL:=gB.2 bO;have dN:((c:Int) != 0)=aK:=bX
  go_wp2_with(go_at_call 29;refine TM.mono ?_;rintro e w3 ⟨rfl,t,i3,l3,ab,N,F,N3⟩;have m:=qL N.rd);by_cases D:bl s i3<s.size
  .go_wp2_with(first|(go_at_call 30;refine m.mono ?_;rintro e j ⟨rfl,f,A⟩;have t1:=f.c1;have J:=kq j qq f 2 (bl s i3);rw[mj Z,mn Z] at J)|(go_at_call 31;refine J.mono ?_;rintro e w5 ⟨rfl,E,T⟩;have t3:=E.c3;have t4:=E.c4));go_quiet(fail)
   go_wp2;refine⟨rfl,.tuple #[iz 0,iz c,iz qq],by simp[aI,results14],?_⟩;rw[g];let⟨z,B⟩:=back _ ⟨t,((F.iw A).iw T).step (dR (bW (λ_=>False) w5) nq) λ_ _ e=>e.elim⟩;exact⟨rfl,⟨_,_,z⟩,B⟩
  .go_wp2_with(go_at_call 30;refine m.mono ?_;rintro e j ⟨rfl,f,A⟩;have t1:=f.c1;have t3:=f.c3;have t4:=f.c4);go_quiet(fail)
   go_wp2;refine⟨rfl,.tuple #[iz 0,iz c,iz qq],by simp[aI,results14],?_⟩;rw[g];let⟨z,B⟩:=back _ ⟨t,(F.iw A).step (dR (bW (λ_=>False) j) nq) λ_ _ e=>e.elim⟩;exact⟨rfl,⟨_,_,z⟩,B⟩
 |ok n k O=>
  rw[I] at TM
  go_wp2_with(go_at_call 29;refine TM.mono ?_;rintro e w3 ⟨rfl,t,i3,ab,N,ag,F,N3⟩;have m:=qL N.rd;rw[ag] at m);let⟨U,V,X⟩:=N.ls.form;subst X;have a0:=N.lo;by_cases D:k<s.size
  .have g:iY s l=(0,2,k,l):=by simp[iY,I,D]
   go_wp2_with(first|(go_at_call 30;refine m.mono ?_;rintro e j ⟨rfl,f,A⟩;have t1:=f.c1;have J:aB prog 31 #[pz r,iz ((2:Nat):Int),iz k] j λx w'=>x=aw (.tuple #[])∧Rr w' r s k _ 2 k∧dV r j w':=kq j 0 f 2 k)|(go_at_call 31;refine J.mono ?_;rintro e w5 ⟨rfl,E,T⟩;have t3:=E.c3;have t4:=E.c4));go_quiet(fail)
   go_wp2;refine⟨rfl,.tuple #[iz 0,iz 2,iz k],by simp[aI,results14],?_⟩;rw[g];let⟨z,B⟩:=back _ ⟨_,((F.iw A).iw T).step (dR (bW (λ_=>False) w5) nq) λ_ _ e=>e.elim⟩;exact⟨rfl,⟨_,_,z⟩,B⟩
  by_cases hm:150<bB O
  .have g:iY s l=(0,6,0,l):=by simp[iY,I,D,hm]
   have dm:=bM 150 (bB O)
   go_wp2_with(first|(go_at_call 30;refine m.mono ?_;rintro e j ⟨rfl,f,A⟩;have t1:=f.c1;have t3:=f.c3;have t2:=f.c2;have J:aB prog 31 #[pz r,iz ((6:Nat):Int),iz ((0:Nat):Int)] j λx w'=>x=aw (.tuple #[])∧Rr w' r s k _ 6 0∧dV r j w':=kq j 0 f 6 0)|(go_at_call 31;refine J.mono ?_;rintro e w5 ⟨rfl,E,T⟩;have t3:=E.c3;have t4:=E.c4));go_quiet(fail)
   go_wp2;refine⟨rfl,.tuple #[iz 0,iz 6,iz 0],by simp[aI,results14],?_⟩;rw[g];let⟨z,B⟩:=back _ ⟨_,((F.iw A).iw T).step (dR (bW (λ_=>False) w5) nq) λ_ _ e=>e.elim⟩;exact⟨rfl,⟨_,_,z⟩,B⟩
  have g:iY s l=(n,0,0,O):=by simp[iY,I,D,hm]
  have dm:=bN 150 (bB O)
  go_wp2_with(go_at_call 30;refine m.mono ?_;rintro e j ⟨rfl,f,A⟩;have t1:=f.c1;have t3:=f.c3;have t2:=f.c2;have B4:=(back j ⟨_,F.iw A⟩).1;have q0:=dU B4.row (i:=0) bO;have q1:=cA B4.row 0);have SS:=N.read A f;let⟨z,B⟩:=back j ⟨_,F.iw A⟩;refine⟨rfl,.tuple #[iz n,iz 0,iz 0],by simp[aI,results14],?_⟩;rw[g];have KQ:dV q j (aW j (az q 0) (aj U (bB O) V)):=eH (bW _ j) _ _;refine⟨rfl,⟨aj U (bB O) V,ab,⟨rK.set z.row _,SS.ls.blocks (λb Y=>KQ.block b (oF SS.ls.row Y) λe=>lM SS.ls.row z.row bS (e▸Y)) λu hu b Y=>?_,bZ z.bs KQ.size⟩⟩,gQ B KQ⟩;let⟨ys,hy⟩:=SS.ls.mem hu;exact KQ.block b (oF hy Y) λe=>lM hy z.row bS (e▸Y)
def abL:Hs []:=λn b=>absurd b bQ
theorem WV:Good []:=⟨by simp,by simp⟩
structure Kp(l:List Tm):Prop where
 hs:Hs l
 CF:Good l
 len:bB l<=150
theorem Kp.nil:Kp []:=⟨abL,WV,by simp⟩
theorem Kp.read(h:Kp l)(s):Kp (jh s l).2.2.2:=by
 unfold jh
 split
 .exact h
 unfold iY;have c:=jV (s:=s) (i:=0) bO
 split
 .exact h
 next n k b d=>
 split
 .exact h
 split
 .exact h
 exact⟨((aci s _).1 0 (bl s 0) l n k b c h.hs d).1,(Ma s _).1 0 (bl s 0) l n k b c h.CF d,by show bB b<=150;omega⟩
def abH(n:ByteArray):Prop:=0<n.size∧n.size<=6∧(∀i,i<n.size->tW (ji n i)=aK)∧lK (ji n 0)=aL
theorem aaZ:∀j,i<=j->j<kK s i->tW (ji s j)=aK:=by
 induction i using kK.induct s with
 |case1 i h b=>grind[uJ]
 |case2 i h=>grind[rQ]
theorem zT{j:Nat}(b:k<=s.size)(d:i+j<k):ji (s.extract i k) j=ji s (i+j):=by have c:(s.extract i k).size=k-i:=pM bO b;unfold ji;rw[dif_pos bO,dif_pos bO];simp[yp]
theorem acp(c:i<=s.size)(h:gX s i=aL):abH (s.extract i (kK s i)):=by
 have f:=Ep h;have b:=pg c;have d:=IW h c;have g:(s.extract i (kK s i)).size=kK s i-i:=pM bO b;refine⟨by omega,d,λj m=>?_,?_⟩
 .rw[zT b bO];exact aaZ (i:=i) _ bO bO
 rw[zT b bO];grind[lK,ji,gX]
def Nms(l:List Tm):Prop:=∀t∈l,abH t.name
def Ahd(l:List Tm):Prop:=∀(i:Nat)(t:Tm),l[i]?=ah t->∀a∈t.args,a<i
structure Nq(l:List Tm):Prop where
 AH:Nms l
 ahd:Ahd l
theorem Nq.add(h:Nq l){t:Tm}(f:abH t.name)(g:∀a∈t.args,a<bB l):Nq (pq l t):=by
 unfold pq;cases j:qC l t with
 |some i=>exact h
 |none=>
  refine⟨λu b=>?_,λi u d a c=>?_⟩
  .simp only[cU,dL] at b;obtain b|rfl:=b
   .exact h.AH u b
   exact f
  by_cases hl:i<bB l
  .rw[df hl] at d;exact h.ahd i u d a c
  grind
theorem ach(s):∀f:Nat,
  (∀b i l n k g,i<=s.size->Nq l->iI s f b i l=.ok n k g->Nq g)∧
  (∀b i l xs x k g,i<=s.size->bB xs<=4->(∀a∈xs,a<bB l)->Nq l->jO s f b i l xs=.ok x k g->Nq g)
 |0=>⟨λ_ _ _ _ _ _ _ _ e=>(by rw[iI] at e;cases e),λ_ _ _ _ _ _ _ _ _ _ _ e=>(by rw[jO] at e;cases e)⟩
 |f+1=>by
  let⟨I,H⟩:=ach s f;let⟨G,T⟩:=nM s f;let⟨F,E⟩:=vD s f;constructor
  .intro b i l n k g h m e;rw[iI] at e
   split at e
   .cases e
   next L=>
   have u:gX s i=aL:=by simpa using L
   have j:=acp h u;have J:=jV (pg h)
   split at e
   .cases e
   split at e
   .have B:=iV (c:=40) J
    split at e
    .cases e
    next xs k2 y d=>
    have z:=H _ _ _ _ _ _ _ B bQ bQ m d;let⟨_,_,C⟩:=E _ _ _ _ _ _ _ B bQ bQ d;unfold oj at e
    split at e
    .injection e with e1 e2 e3;subst e3;exact z.add (t:=⟨s.extract i (kK s i),xs⟩) j C
    cases e
   unfold oj at e
   split at e
   .injection e with e1 e2 e3;subst e3;exact m.add (t:=⟨s.extract i (kK s i),[]⟩) j bQ
   cases e
  intro b i l xs x k g h M N m e;rw[jO] at e
  split at e
  .cases e
  split at e
  .cases e
  split at e
  .cases e
  next n k2 y d=>have z:=I _ _ _ _ _ _ h m d;let⟨A,D⟩:=G b i l h;let⟨O,P⟩:=D n k2 y d;let⟨_,R⟩:=F _ _ _ _ _ _ h d;rw[d] at A;have Q:bB l<=bB y:=A.length_le;grind[Nat.lt_of_lt_of_le,List.mem_singleton,iV]
theorem Nq.nil:Nq []:=⟨λt h=>by simp at h,λi t h=>by simp at h⟩
theorem Nq.read(h:Nq l)(s):Nq (jh s l).2.2.2:=by
 unfold jh
 split
 .exact h
 unfold iY;have b:=jV (s:=s) (i:=0) bO
 split
 .exact h
 next n k d c=>
 split
 .exact h
 split
 .exact h
 exact(ach s _).1 0 (bl s 0) l n k d b h c
theorem Bk.apart(h:Bk w base p ev nb fb l){c:Array aA}{T:aE}{m:Nat×Nat}(A:w.heap[k]?=ah (.cells c T m))(y:T≠84)(z:T≠152):¬me p ev nb fb k:=by
 rintro(e|e|e|e)
 .subst e;let⟨c2,t,_⟩:=h.kE;grind
 .subst e;let⟨D,⟨es,f,u,_⟩,_⟩:=h.lF;grind
 .subst e;let⟨D,⟨es,f,u,_⟩,_⟩:=h.om;grind
 obtain⟨j,_⟩|⟨b,d,g,j,_,t,_⟩:=h.rows.2
 .grind[aP]
 grind[aP]
variable{S:Nat->Prop}
theorem RBk.kept(h:RBk w base q av l vs)(K:bI S w w')(t:∀k c T B,w.heap[k]?=ah (.cells c T B)->T≠84->T≠152->¬S k):RBk w' base q av l vs:=by
 have d:∀{e:aE}{y n:Nat}{v:aA}{xs:List aA},e≠84->e≠152->bD w base e y v n xs->∀b,aP v=ah b->w'.heap[b]?=w.heap[b]?:=by
  intro e y n v xs f C D b g;obtain⟨j,_⟩|⟨F,z,A,j,_,m,_⟩:=D.2
  .grind[aP]
  rw[j] at g;simp[aP] at g;subst g;exact K.block _ (ID m) (t _ _ _ _ m f C)
 refine⟨h.row.of_block ?_,h.ls.blocks (d bS bS h.ls.row) λu E b g=>?_,bZ h.bs K.size⟩
 .let⟨c,f,_⟩:=h.row;exact K.block q (ID f) (t _ _ _ _ f bS bS)
 let⟨xs,G⟩:=h.ls.mem E;grind
theorem Bk.tB(h:Bk w base p ev nb fb l)(b:me p ev nb fb k):base<=k:=by
 obtain e|e|e|e:=b
 .rw[e];exact h.bp
 .rw[e];exact h.bn
 .rw[e];exact h.bf
 exact(h.rows.lt k e).1
def Bk.stays(h:Bk w base p ev nb fb l)(K:bI S w w')(b:∀k,me p ev nb fb k->¬S k):Bk w' base p ev nb fb l:=
 h.blocks (K.block p h.low.p (b p (cB rfl))) (K.block nb h.low.n (b nb (cI (cB rfl)))) (K.block fb h.low.f (b fb (cI (cI (cB rfl))))) λk e=>K.block k (h.low.e k e) (b k (cI (cI (cI e))))
def WK(w:ay)(a:Option Addr)(ss:List ByteArray):Prop:=ss=[]∨∃b off,a=ah ⟨b,off,ai⟩∧b<w.heap.size∧∀k s,ss[k]?=ah s->aU w ⟨b,off+k,ai⟩=ah (.string s)
structure RY(w W:ay)(p:Nat)(ev:aA)(nb fb:Nat)(l:List Tm)(q:Nat)(av:aA)(vs:List aA):Prop where
 b:Bk W w.heap.size p ev nb fb l
 r:RBk W w.heap.size q av l vs
 kl:Kp l
 nq:Nq l
 kB:Below w.heap.size w W
 rq:w.heap.size<=q
theorem RY.read{W:ay}(h:RY w W p ev nb fb l q av vs)(s):
  aB prog 13 #[pz p,.string s] W λe j=>e=aw (.tuple #[iz ((jh s l).1:Int),iz ((jh s l).2.1:Int),iz ((jh s l).2.2.1:Int)])∧∃f,(aB prog 14 #[pz q,.string s] j λe C=>e=aw (.tuple #[iz ((jh s l).1:Int),iz ((jh s l).2.1:Int),iz ((jh s l).2.2.1:Int)])∧∃d g,RY w C p f nb fb (jh s l).2.2.2 q d g)∧Below w.heap.size w j:=by
 refine(Ie W (hz w) h.b h.kl.len h.kB.size s).mono ?_;rintro e j ⟨G,f,y,z,I⟩;have B:=h.r.kept z λk c T J t E F=>h.b.apart t E F;have b:=h.kB.trans (pA z h.kB.size λk e=>h.b.tB e);refine⟨G,f,?_,b⟩;refine(TL (hz w) B h.kl.CF h.kl.len s).mono ?_;rintro e C ⟨m,⟨d,g,D⟩,A⟩;let⟨cq,H,_⟩:=B.row;have u:=y.apart H bS bS;exact⟨m,d,g,⟨y.stays A λk t e=>u (e▸t),D,h.kl.read s,h.nq.read s,b.trans (pA A b.size λk e=>e▸h.rq),h.rq⟩⟩
theorem RY.start(w b p nb fb)(d:Bk b w.heap.size p (aj ai 0 0) nb fb [])(c:Below w.heap.size w b):
  RY w (bC b (aq #[aj ai 0 0] 52)) p (aj ai 0 0) nb fb [] b.heap.size (aj ai 0 0) []:=by
 have K:dG b (bC b (aq #[aj ai 0 0] 52)):=dD (bW _ b) _;have f:=c.size;refine⟨d.dF K,⟨?_,⟨rfl,eR _ _ _ _,by simp⟩,by simp;omega⟩,Kp.nil,Nq.nil,c.trans (pA K c.size λ_ e=>e.elim),by omega⟩;grind[World.rowIs.congr,ey]
