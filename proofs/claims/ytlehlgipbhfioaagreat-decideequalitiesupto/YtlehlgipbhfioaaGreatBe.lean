import Derived.Test.YtlehlgipbhfioaaGreatBd
import Derived.Deep.RegionLaw
import Derived.RangeFuncBox
import Derived.Deep.RegionHeld3
import Derived.Lib.ConvBytes
namespace Go.Proofs.YtlehlgipbhfioaaGreat
set_option maxHeartbeats 2000000
set_option maxRecDepth 100000
set_option linter.all false
open Go.RowKit Go.Maps Go.Proofs.Tryz
open Go.Value renaming int->ae,slice->aj,pointer->ak,ownBlock->aP
open Go.IntKind renaming i64->af
open Go.Obj renaming cells->aq
open Go.Ending renaming returned->aw
open Option renaming some->ah,none->ai
open Go.World renaming alloc->bC,cell?->aU,rowIs->bE,ownsRow->bD,setCell->aW,drewN->bF,grownBy->bH
open Go.RowKit renaming wrap64->aX,intOf->aG
open Go renaming Calls->aB,World->ay,Value->aA,TypeId->aE
open List renaming length->bB
open Go.Act renaming eval->bq,put->aQ
open Bool renaming true->aK,false->aL
variable{P:Program}
theorem tN(w base)(t L e:aE)(i:TypeInfo)(z size d)(T:P.underlying t=ah (.slice e))(O:P.info? e=ah i)(hz:i.zero=ah z)(r:i.size=size)(E:i.bytes=d)(G:z.cells.size=size)(F:0<size)(v n N)(x:bD w base e size v n N)(a m c b)(hl:bB b=m*size)(q:∀j u,b[j]?=ah u->aU w (a.add j)=ah u)(U:∀u∈b,u.oneCell'=aK)(C:n+m<=maxLen)(h:(n+m)*d<=140737488355328)(D:base<=w.heap.size):
  ∃H M,(Builtin.append_ #[t,t] L #[v,aj (ah a) m c]).run P w=.ok H M∧bD M base e size H (n+m) (N++b)∧bH w M (aP v)∧
   (aP H=aP v∨∀k,aP H=ah k->w.heap.size<=k):=by
 let⟨H,M,R,r1,r2,_⟩:=run_append_own (P:=P) w base t L e i z size d T O hz r E G F v n N x a m c b hl q U C h D;refine⟨H,M,R,r1,r2,?_⟩;obtain⟨rfl,rfl⟩|⟨g,B,I,rfl,Z,hg,ab,aa,V,X⟩:=x.2
 .obtain rfl:N=[]:=eE (by simpa using x.1);let⟨v2,w2,y,Y,_⟩:=run_append_own (P:=P) w w.heap.size t L e i z size d T O hz r E G F (aj ai 0 0) 0 [] (eR w _ e size) a m c b hl q U C h (bT _);rw[R] at y;cases y
  exact cI λk W=>(Y.lt k W).1
 by_cases A:n+m<=B
 .subst r;have J:n*i.size+bB b<=I.size:=by rw[hl,V,<-rB];exact Ha _ A
  have y:=run_append_room (P:=P) w t L e i T O g n B I hg a m c b hl q U A J;rw[R] at y;cases y
  exact cB rfl
 let⟨v2,w2,y,Y,_⟩:=run_append_arg_grows (P:=P) w t L e i z size d T O hz r E G F (az g 0) n B N x.1 (x.cells (g:=g) rfl) a m c b hl q bO C h;rw[R] at y;cases y
 exact cI λk W=>(Y.lt k W).1
variable{ops:Array Oper}{o oi:Oper}{a a':Act}{w w1 w2 w0:ay}{Q:Exit->Act->ay->Prop}
theorem fe{K:Act->ay->Prop}{E:Prop}(T:o.guard=ai)(s x:Operand)(t:aE)(D:o.op=Op.call {callee:=Callee.builtin Builtin.append,args:=#[s,x],argTypes:=#[t,t]})(base)(e:aE)(i:TypeInfo)(z size d)(G:P.underlying t=ah (.slice e))(H:P.info? e=ah i)(I:i.zero=ah z)(J:i.size=size)(L:i.bytes=d)(M:z.cells.size=size)(N:0<size)(v n F)(hs:a.eval s=v)(r:bD w base e size v n F)(B m c b)(W:a.eval x=aj (ah B) m c)(U:bB b=m*size)(R:∀j u,b[j]?=ah u->aU w (B.add j)=ah u)(C:∀u∈b,u.oneCell'=aK)(b1:n+m<=maxLen)(b2:(n+m)*d<=140737488355328)(h:base<=w.heap.size)(O:∀q A,bD A base e size q (n+m) (F++b)->bH w A (aP v)->(aP q=aP v∨∀k,aP q=ah k->w.heap.size<=k)->K (a.put o.dst q) A):
  if Region.wanted o (yielded ops a.tmps)=aK then Oper.wp P o a w K Q else E:=by
 have V:Region.wanted o (yielded ops a.tmps)=aK:=by simp[Region.wanted,T]
 rw[cY V];let⟨q,A,y,X,Y,Z⟩:=tN (P:=P) w base t o.type e i z size d G H I J L M N v n F r B m c b U R C b1 b2 h;unfold Oper.wp;simp[execOp,D,resolve,invoke,builtin,hs,W,y,Result.andThen];exact O q A X Y Z
theorem pE(w:ay)(m:Nat)(x y:aA)(t:aE):∀j u,[x,y][j]?=ah u->aU (bC (bF w m) (aq #[x,y] t)) ((az w.heap.size 0:Addr).add j)=ah u:=by intro j u b;have e:∀k,aU (bC (bF w m) (aq #[x,y] t)) (az (hz w) k)=#[x,y][k]?:=λk=>World.cell?_alloc_at (w:=bF w m) _ t _ k rfl;grind[Addr.add]
def Jw:(prog.info? 220).map (λi=>(i.zero,i.size,i.bytes))=ah (ah (.agg #[iz 0,iz 0]),2,16):=bV
theorem ZO{w}{base p nb n}{g}{jv}{js}(h:jT w base p nb n g jv js)(k)(t:Uf.Ok n g k){a}(b)(m:mD n a=aL∨mD n b=aL∨lW n g a b=aK):
  aB prog 71 #[pz p,iz a,iz b] w λe c=>e=aw (.bool aL)∧w=c:=by
 cases d:mD n a
 .clear m;go_enter func71,ntmps71
  go_wp2_with fail;refine(nh h a).mono ?_;rintro e c ⟨rfl,rfl⟩;rw[d]
  go_wp2;go_ret;exact⟨rfl,rfl⟩
 cases q:mD n b
 .clear m;go_enter func71,ntmps71
  go_wp2_with fail;refine(nh h a).mono ?_;rintro e c ⟨rfl,rfl⟩;rw[d]
  go_wp2_with fail;refine(nh h b).mono ?_;rintro e c ⟨rfl,rfl⟩;rw[q]
  go_wp2;go_ret;exact⟨rfl,rfl⟩
 have hs:lW n g a b=aK:=cG
 let⟨x,A⟩:=jR d;let⟨b1,b2⟩:=jR q;obtain⟨i,rfl⟩:=fg x;obtain⟨j,rfl⟩:=fg b1;have y:i<n:=bO
 have z:j<n:=bO
 have r:g.rt i=g.rt j:=by simpa[lW,d,q] using hs
 have u:=tg h k t j z;rw[<-r] at u;go_enter func71,ntmps71
 go_wp2_with fail;refine(nh h i).mono ?_;rintro e c ⟨rfl,rfl⟩;rw[d]
 go_wp2_with fail;refine(nh h j).mono ?_;rintro e c ⟨rfl,rfl⟩;rw[q]
 go_wp2_with fail;refine(tg h _ t i y).mono ?_;rintro e c ⟨rfl,rfl⟩
 go_wp2_with fail;refine u.mono ?_;rintro e c ⟨rfl,rfl⟩
 go_wp2;go_ret;exact⟨rfl,rfl⟩
theorem Ct(js:List (Nat×Nat))(c l:Nat):kZ (js++[(c,l)])=kZ js++[iz c,iz l]:=by simp[kZ]
variable{base p nb n f k:Nat}{g:Uf.G}{jv v:aA}{js:List (Nat×Nat)}
theorem jT.kept(h:jT w base p nb n g jv js)(m O)(b:bH (bC (bF w m) O) w1 (aP jv)):
  cz w1 p 1 jv∧w1.frozen? (az p 1)=aL∧bE w1 p 148 2 (tM nb n jv)∧bE w1 nb 150 (n*4) (lJ g):=by
 have hp:bE w1 p 148 2 (tM nb n jv):=(h.drewN.ie.alloc O).of_block (b.block p (h.drewN.ie.alloc O).lt λe=>h.jp e.symm);have c:bE w1 nb 150 (n*4) (lJ g):=(h.drewN.nodes.alloc O).of_block (b.block nb (h.drewN.nodes.alloc O).lt λe=>h.jn e.symm);exact⟨hp.cell (i:=1) bO,hp.frozen 1,hp,c⟩
abbrev gE(p nb:Nat)(jv:aA)(k:Nat):Prop:=k=p∨k=nb∨aP jv=ah k
theorem dY{b:Nat}{t e:aE}{f:Nat->aA}(h:bE w b t n f)(m:t≠e){size:Nat}{r:List aA}(q:bD w base e size v k r):aP v≠ah b:=by
 intro d;obtain⟨rfl,_⟩|⟨g,i,j,rfl,_,x,_⟩:=q.2
 .simp[aP] at d
 simp[aP] at d;subst d;obtain⟨c,u,_⟩:=h;grind
theorem zN(h:jT w base p nb n g jv js)(m:Nat)(O:Obj)(c l:Nat)(i:aA)(d:bD w1 base 220 2 i (bB js+1) (kZ js++[iz c,iz l]))(b:bH (bC (bF w m) O) w1 (aP jv))(j:aP i=aP jv∨∀k,aP i=ah k->(bC (bF w m) O).heap.size<=k):
  jT (aW w1 (az p 1) i) base p nb n g i (js++[(c,l)])∧bI (gE p nb jv) w (aW w1 (az p 1) i)∧(aP i=aP jv∨∀k,aP i=ah k->w.heap.size<=k):=by
 let⟨_,_,hp,r⟩:=h.kept m O b;have np:=dY hp bS d;have nn:=dY r bS d;refine⟨⟨(hp.set 1 i).congr ?_,r.setOther (j5 h.ne) _,?_,h.ne,np,nn,h.bp,h.bn,h.small⟩,?_,?_⟩
 .grind[tM]
 .rw[Ct,cR];exact fR d np _
 .exact eY (S:=gE p nb jv) (p:=az p 1) (gA (((bW (gE p nb jv) w).drewN m).alloc O) b λk q=>cI (cI q)) (cB rfl) _
 obtain e|e:=j
 .exact cB e
 exact cI λk q=>by have:=e k q;simp at this;omega
def Kx{e:aA}{c r:Nat}(i:bI (gE p nb jv) w w1)(d:aP e=aP jv∨∀k,aP e=ah k->w.heap.size<=k)(j:jT w2 base p nb n (Uf.lY g c r) e (js++[(c,(g.N r).rz)]))(h:dV nb w1 w2):
  ∃b,jT w2 base p nb n (Uf.lY g c r) b (js++[(c,(g.N r).rz)])∧bI (gE p nb jv) w w2∧(aP b=aP jv∨∀k,aP b=ah k->w.heap.size<=k):=
 ⟨e,j,i.trans (h.mono λ_ _ h=>cI (cB h)),d⟩
theorem WU{w}{base p nb n}{g}{jv}(js)(h:jT w base p nb n g jv js)(z:Uf.Ok n g (bB js))(i j)(T:i<n)(U:j<n)(B:g.rt i≠g.rt j)(hb:base<=w.heap.size):
  aB prog 71 #[pz p,iz i,iz j] w λe t=>e=aw (.bool aK)∧∃D,jT t base p nb n (Uf.lY g (Uf.pick g i j).1 (Uf.pick g i j).2) D (js++[((Uf.pick g i j).1,(g.N (Uf.pick g i j).2).rz)])∧
   bI (gE p nb jv) w t∧(aP D=aP jv∨∀k,aP D=ah k->w.heap.size<=k):=by
 have ha:=lN T;have G:=lN U;have q:=z.Fx i T;have r:=z.Fx j U;have aa:=z.FR;have hn:=h.small;have c0:=h.c0;have c1:=h.c1;have si:=h.sW q;have sj:=h.sW r;have Z:=tg h _ z i T;have Rj:=tg h _ z j U;have ab:=z.ZS (g.rt i) (g.rt j) q r B (z.Pw i T) (z.Pw j U);have hp:Uf.pick g i j=if(g.N (g.rt j)).sW<(g.N (g.rt i)).sW then(g.rt j,g.rt i) else(g.rt i,g.rt j):=rfl;rw[hp];generalize g.rt i=x at *;generalize g.rt j=y at *;have I:((x:Int)==(y:Int))=aL:=gB.2 bO;let⟨i0,H,J,L,M⟩:=eB Jw;obtain⟨ja,jc,rfl⟩:=h.Z7;have A1:∀m O,aU (bC (bF w m) O) (az p 1)=ah (aj ja (bB js) jc):=λm O=>(h.drewN.ie.alloc O).cell (i:=1) bO;have A:=λm O=>(h.drewN (m:=m)).iA.alloc O;by_cases hs:(g.N y).sW<(g.N x).sW
 .rw[cY hs];go_enter func71,ntmps71
  go_wp2_with fail;refine(nh h i).mono ?_;rintro e t ⟨rfl,rfl⟩;rw[ha]
  go_wp2_with fail;refine(nh h j).mono ?_;rintro e t ⟨rfl,rfl⟩;rw[G]
  go_wp2_with fail;refine Z.mono ?_;rintro e t ⟨rfl,rfl⟩
  go_wp2_with fail;refine Rj.mono ?_;rintro e t ⟨rfl,rfl⟩
  go_wp2_with fail;go_quiet(fail)
  go_wp2_with fail;have ll:=h.rz q;have u:=λm=>pE w m (iz y) (iz ((g.N x).rz:Int)) 220;go_region_law(refine fe rfl (.tmp 51) (.tmp 62) 146 rfl base 220 i0 _ 2 16 underlying146 H J L M rfl bS _ (bB js) (kZ js) (by simp[bq];rfl) (by exact A _ _) (az w.heap.size 0) 1 1 [iz y,iz ((g.N x).rz:Int)] (by simp[bq]) rfl (by exact u _) cM cJ bO bX ?_;intro v' w1 c b d;let⟨R,N,_,_⟩:=h.kept _ _ b;let⟨b1,F,C⟩:=ownsRow_succ c;subst C);all_goals
   let⟨E,X,Y⟩:=zN h _ _ y (g.N x).rz _ c b d
   go_wp2_with fail;refine(Oo E y x r q (j5 B) bO).mono ?_;rintro e w2 ⟨rfl,V,W⟩;clear E
   go_wp2;go_ret;exact⟨rfl,Kx X Y V W⟩
 rw[cC hs];go_enter func71,ntmps71
 go_wp2_with fail;refine(nh h i).mono ?_;rintro e t ⟨rfl,rfl⟩;rw[ha]
 go_wp2_with fail;refine(nh h j).mono ?_;rintro e t ⟨rfl,rfl⟩;rw[G]
 go_wp2_with fail;refine Z.mono ?_;rintro e t ⟨rfl,rfl⟩
 go_wp2_with fail;refine Rj.mono ?_;rintro e t ⟨rfl,rfl⟩;clear Z Rj
 go_wp2_with fail;go_quiet(fail)
 go_wp2_with fail;have ll:=h.rz r;have u:=λm=>pE w m (iz x) (iz ((g.N y).rz:Int)) 220;clear si sj hs I;go_region_law(refine fe rfl (.tmp 51) (.tmp 62) 146 rfl base 220 i0 _ 2 16 underlying146 H J L M rfl bS _ (bB js) (kZ js) (by simp[bq];rfl) (by exact A _ _) (az w.heap.size 0) 1 1 [iz x,iz ((g.N y).rz:Int)] (by simp[bq]) rfl (by exact u _) cM cJ bO bX ?_;intro v' w1 c b d;let⟨R,N,_,_⟩:=h.kept _ _ b;let⟨b1,F,C⟩:=ownsRow_succ c;subst C);all_goals
  let⟨E,X,Y⟩:=zN h _ _ x (g.N y).rz _ c b d;clear c b d R N A1 A u ll c0 c1
  go_wp2_with fail;refine(Oo E x y q r B bO).mono ?_;rintro e w2 ⟨rfl,V,W⟩;clear E
  go_wp2;go_ret;exact⟨rfl,Kx X Y V W⟩
variable{md:Region.Mode}{S:ay->Prop}{l l':Array Bool}
theorem tk(i)(h:wpAnyH P md ops Q S f l' a' w)(m:ops[i]?=ah oi:=by rfl)(hs:Region.noSelect ops=aK:=by kernel_rfl)(j:Region.free md ops l i=aK:=by kernel_rfl)(q:(Region.ready md ops l).contains i=aK:=by kernel_rfl)(b:∀c a w,Q (.panic c) (a.put oi.dst v) w->Q (.panic c) a w:=by exact λ_ _ _ h=>h)(r:Region.wanted oi (yielded ops a.tmps)=aK:=by rfl)(t:∀w,S w->(execOp a.eval oi).run P w=.ok (.value v) w:=by intro w hSw;(try dsimp only at hSw);go_simp;(try with_reducible rfl))(d:S w:=by assumption)(hl:l.setIfInBounds i aK=l':=by(try simp only[cf,cK,cN]);with_reducible rfl)(e:a.put oi.dst v=a':=by(try simp only[aQ,cD,cw,ct,cf,cK,cN]);with_reducible rfl):wpAnyH P md ops Q S (f+1) l a w:=by
 subst hl e;exact wpAnyH_take m hs j q b (.inl ⟨r,t⟩) d h
theorem rd{c d:Act}(i)(e:S w2)(h:S w2->wpAnyH P md ops Q S f l' d w2)(q:ops[i]?=ah o:=by rfl)(r:Region.ready md ops l=[i]:=by kernel_rfl)(m:∀K:Act->ay->Prop,Shut (K c w2)->if Region.wanted o (yielded ops a.tmps)=aK then Oper.wp P o a w K Q else K (a.put o.dst undef) w:=by intro K b;(try simp only[cD,cw,ct]);go_simp;exact b.out)(hl:l.setIfInBounds i aK=l':=by(try simp only[cf,cK,cN]);with_reducible rfl)(j:c=d:=by(try simp only[aQ,cD,cw,ct,cf,cK,cN]);with_reducible rfl):wpAnyH P md ops Q S (f+1) l a w:=by
 subst hl j;exact wpAnyH_ready r bQ (AllReadyH.cons q (λK b=>m K (b.out _ _ e h)) AllReadyH.nil)
theorem Hz(i)(h:wpAny P md ops Q f l' a' w)(j:ops[i]?=ah oi:=by rfl)(hs:Region.noSelect ops=aK:=by kernel_rfl)(e:Region.free md ops l i=aK:=by kernel_rfl)(m:(Region.ready md ops l).contains i=aK:=by kernel_rfl)(b:∀c a w,Q (.panic c) (a.put oi.dst v) w->Q (.panic c) a w:=by exact λ_ _ _ h=>h)(q:Region.wanted oi (yielded ops a.tmps)=aK:=by rfl)(r:∀w,(execOp a.eval oi).run P w=.ok (.value v) w:=by intro w;go_simp;(try with_reducible rfl))(hl:l.setIfInBounds i aK=l':=by(try simp only[cf,cK,cN]);with_reducible rfl)(d:a.put oi.dst v=a':=by(try simp only[aQ,cD,cw,ct,cf,cK,cN]);with_reducible rfl):wpAny P md ops Q (f+1) l a w:=by
 subst hl d;exact wpAny_take j hs e m b (.inl ⟨q,r⟩) h
def Vj:(prog.info? 150).map (λi=>(i.zero,i.size,i.bytes))=ah (ah (.agg #[iz 0,iz 0,iz 0,iz 0]),4,32):=bV
theorem ey(w:ay)(C:Array aA)(t:aE):bE (bC w (.cells C t)) w.heap.size t C.size (λi=>C[i]?.getD undef):=
 World.rowIs_alloc w C t _ λi b=>by grind
def AW(w:ay)(x y:aA)(t:aE):bE (bC w (aq #[x,y] t)) w.heap.size t 2 (λj=>if j=0 then x else y):=
 (ey w #[x,y] t).congr λi b=>match i,b with
  |0,_=>rfl
  |1,_=>rfl
theorem Qb(k:Nat)(f:Nat->aA)(h:∀j,j<k*4->f j=lJ Uf.g0 j):∀j,j<(k+1)*4->
  (if j=k*4+3 then Value.int .i64 k else if j=k*4+2 then ae af 1 else if j=k*4+1 then ae af k else if j=k*4 then ae af k else f j)=lJ Uf.g0 j:=by
 intro j i;by_cases b:j=k*4+3
 .rw[cY b,b,mi];rfl
 by_cases c:j=k*4+2
 .rw[cC b,cY c,c,kR];rfl
 by_cases d:j=k*4+1
 .rw[cC b,cC c,cY d,d,mh];rfl
 by_cases e:j=k*4
 .rw[cC b,cC c,cC d,cY e,e,lu];rfl
 grind
theorem abI(w:ay)(n:Nat)(F:n<=100000):
  aB prog 32 #[ae af n] w λe u=>e=aw (ak (ah ⟨w.heap.size+1,0,ai⟩))∧jT u w.heap.size (w.heap.size+1) w.heap.size n Uf.g0 (aj ai 0 0) []∧Below w.heap.size w u:=by
 let⟨H,h,m,G,q⟩:=eB Vj;obtain⟨C,y,D⟩:∃C:Array aA,C.size=n*4∧(Instr.makeSlice 145 (ae af n) (ae af n)).run prog w=.ok (aj (ah ⟨w.heap.size,0,ai⟩) n n) (bC w (.cells C 150)):=by have E:=oo (P:=prog) w 145 150 H _ underlying145 h m .i64 .i64 (n:Int) (n:Int) bO (kh _) (by rw[q];omega) bO;grind[Int.toNat_natCast,size_madeCells]
 have I:¬(n:Int)<0:=bO
 have J:¬(100000:Int)<(n:Int):=bO
 have x:Hid (C.size=n*4):=y;go_enter func32,ntmps32
 go_wp2
 go_loopw[20] (λt wr=>∃k:Nat,k<=n∧t=ae af k∧(∃f,bE wr w.heap.size 150 (n*4) f∧Hid (∀j,j<k*4->f j=lJ Uf.g0 j))∧bE wr (w.heap.size+1) 148 2 (tM w.heap.size n (aj ai 0 0))∧Hid (Below w.heap.size w wr)) λt _=>n-(aG t).toNat
 case atStart=>
  refine⟨0,dt _,rfl,⟨(λi=>C[i]?.getD undef),?_,(λj A=>absurd A bO)⟩,?_,?_⟩
  .have:=ey w C 150;rw[x.out] at this;exact this.alloc _
  .have:=ey (bC w (.cells C 150)) #[aj (ah ⟨w.heap.size,0,ai⟩) n n,aj ai 0 0] 148;rw[W6] at this;refine this.congr ?_;intro i z
   match i,z with
   |0,_=>rfl
   |1,_=>rfl
  exact((cW _ _).alloc (bT _) _).alloc bQ _
 case round=>
  obtain⟨k,L,rfl,⟨f,b,d⟩,hs,r⟩:=hrel;have c0:aU wr ⟨w.heap.size+1,0,ai⟩=ah (aj (ah ⟨w.heap.size,0,ai⟩) n n):=hs.cell bO;have c:Hid (bE wr w.heap.size 150 (n*4) f):=b;by_cases B:k<n
  .have M:aU wr ⟨w.heap.size,k*4,ai⟩=ah (f (k*4)):=b.cell bO;have x1:aU wr ⟨w.heap.size,k*4+1,ai⟩=ah (f (k*4+1)):=b.cell bO;have x2:aU wr ⟨w.heap.size,k*4+2,ai⟩=ah (f (k*4+2)):=b.cell bO;have x3:aU wr ⟨w.heap.size,k*4+3,ai⟩=ah (f (k*4+3)):=b.cell bO;have N:=b.frozen (k*4);have O:=b.frozen (k*4+1);have R:=b.frozen (k*4+2);have T:=b.frozen (k*4+3);have Hs:Hid (bE wr (w.heap.size+1) 148 2 (tM w.heap.size n (aj ai 0 0))):=hs
   go_wp2
   go_roundw
   case rel=>exact⟨k+1,by omega,by go_num,⟨_,(((c.out.set _ _).set _ _).set _ _).set _ _,Qb k f d.out⟩,(((Hs.out.setOther (by show _≠w.heap.size;omega) _).setOther (by show _≠w.heap.size;omega) _).setOther (by show _≠w.heap.size;omega) _).setOther (by show _≠w.heap.size;omega) _,(((r.out.setCell (bT _) _).setCell (bT _) _).setCell (bT _) _).setCell (bT _) _⟩
   case measure=>simp[aG];omega
  clear b
  go_wp2;go_ret;obtain rfl:k=n:=bO
  exact⟨rfl,⟨hs,c.out.congr d.out,eR _ _ _ _,by omega,by simp[aP],by simp[aP],by omega,bT _,F⟩,r.out⟩
def jT.alloc(h:jT w base p nb n g jv js)(O):jT (bC w O) base p nb n g jv js:=
 ⟨h.ie.alloc O,h.nodes.alloc O,h.iA.alloc O,h.ne,h.jp,h.jn,h.bp,h.bn,h.small⟩
def oT(F:Nat->Int)(j:Nat):aA:=ae af (F j)
def Wc(F:Nat->Int)(c r:Nat)(l:Int)(j:Nat):Int:=
 if j=r*4+3 then l else if j=r*4+2 then aX (F (r*4+2)-F (c*4+2)) else if j=r*4+1 then F (c*4+1) else if j=c*4+1 then F (r*4+1) else if j=c*4 then(c:Int) else F j
theorem Lr(F:Nat->Int)(c0:cz w p 0 (aj (ah (az nb 0)) n n))(d:bE w nb 150 (n*4) (oT F))(X:n<=100000)(c r:Nat)(hc:c<n)(hr:r<n)(D:c≠r)(hF:F (c*4)=(r:Int))(l:Int):
  aB prog 115 #[pz p,.agg #[iz c,iz l]] w λe N=>e=aw (.tuple #[])∧bE N nb 150 (n*4) (oT (Wc F c r l))∧dV nb w N:=by
 have G:=cV _ _ c0;simp only at G;have ad:=d.lt;have x0:aU w ⟨nb,c*4,ai⟩=ah (iz r):=by rw[<-hF];exact d.cell bO
 have x1:aU w ⟨nb,c*4+1,ai⟩=ah (iz (F (c*4+1))):=d.cell bO;have y1:aU w ⟨nb,r*4+1,ai⟩=ah (iz (F (r*4+1))):=d.cell bO;have Y:=d.frozen (c*4);have Z:=d.frozen (c*4+1);have aa:=d.frozen (r*4+1);have e1:¬(c*4=r*4+1):=bO
 have e3:¬(c=r):=D;have R:Hid (bE w nb 150 (n*4) (oT F)):=d;obtain⟨C,x⟩:=bJ (F (c*4+1));obtain⟨H,z⟩:=bJ (F (r*4+1));rw[x] at x1;rw[z] at y1;have L:Hid (F (c*4+1)=C∧F (r*4+1)=H):=⟨x,z⟩
 go_enter func115,ntmps115
 go_wp2;go_quiet(fail);generalize nq=m
 go_wp2;go_quiet(fail)
 go_wp2
 go_region
 have h':=R.out.alloc (aq #[iz c,iz l] 220);have t:=AW w (iz c) (iz l) 220;have T:dV nb w (bC w (aq #[iz c,iz l] 220)):=(bW _ w).alloc _;have b:w.heap.size≠nb:=bO
 generalize(bC w (aq #[iz c,iz l] 220))=w0 at *;generalize h:aW (aW (aW (bF w0 (m+nq+1)) ⟨nb,c*4,ai⟩ (iz c)) ⟨nb,c*4+1,ai⟩ (iz H)) ⟨nb,r*4+1,ai⟩ (iz C)=w1;have A:bE w1 nb 150 (n*4) (λj=>if j=r*4+1 then iz C else if j=c*4+1 then iz H else if j=c*4 then iz c else oT F j):=by rw[<-h];exact((jf (w:=bF w0 (m+nq+1)) h' _ _).set _ _).set _ _
 have U:dV nb w w1:=by rw[<-h];exact eH (eH (eH (T.drewN _) _ _) _ _) _ _
 have O:bE w1 w.heap.size 220 2 (λj=>if j=0 then iz c else iz l):=by rw[<-h];exact((GZ (w:=bF w0 (m+nq+1)) t b _).setOther b _).setOther b _
 obtain⟨cs,u⟩:=bJ (F (c*4+2));obtain⟨q,y⟩:=bJ (F (r*4+2));have x2:aU w1 ⟨nb,c*4+2,ai⟩=ah (iz cs):=by rw[A.cell (i:=c*4+2) bO,cC bO,cC bO,cC bO,oT,u]
 have y2:aU w1 ⟨nb,r*4+2,ai⟩=ah (iz q):=by rw[A.cell (i:=r*4+2) bO,cC bO,cC bO,cC bO,oT,y]
 have J:Hid (F (c*4+2)=cs∧F (r*4+2)=q):=⟨u,y⟩
 have ab:=A.frozen (r*4+2)
 go_wp2
 go_region
 generalize E:(aW w1 ⟨nb,r*4+2,ai⟩ (iz (aX (q-cs)))).drew=w2;have B:=(A.set (r*4+2) (iz (aX (q-cs)))).drew;have M:=(eH U (r*4+2) (iz (aX (q-cs)))).drew;have I:=(O.setOther (a:=⟨nb,r*4+2,ai⟩) b (iz (aX (q-cs)))).drew;rw[E] at B M I;have bl:cz w2 w.heap.size 1 (iz l):=I.cell (i:=1) bO;have y3:aU w2 ⟨nb,r*4+3,ai⟩=ah (iz (F (r*4+3))):=by rw[B.cell (i:=r*4+3) bO,cC bO,cC bO,cC bO,cC bO];rfl
 have ac:=B.frozen (r*4+3)
 go_wp2;have W:=B.set (r*4+3) (iz l);have V:=eH M (r*4+3) (iz l)
 go_end0
 refine⟨rfl,W.congr λj _=>?_,V⟩;unfold oT Wc;rw[L.out.1,L.out.2,J.out.1,J.out.2]
 repeat' split
 all_goals rfl
theorem Hu(F:Nat->Int)(c0:cz w p 0 (aj (ah (az nb 0)) n n))(q:bE w nb 150 (n*4) (oT F))(O:n<=100000)(c:Nat)(Z:c<n)(D:F (c*4)=(c:Int))(l:Int):
  aB prog 115 #[pz p,.agg #[iz c,iz l]] w λe E=>e=aw (.tuple #[])∧(∃B:Nat->Int,bE E nb 150 (n*4) (oT B)∧∀i,B (i*4)=F (i*4))∧dV nb w E:=by
 have z:=cV _ _ c0;simp only at z;have X:=q.lt;have x0:aU w ⟨nb,c*4,ai⟩=ah (iz c):=by rw[<-D];exact q.cell bO
 have x1:aU w ⟨nb,c*4+1,ai⟩=ah (iz (F (c*4+1))):=q.cell bO;have R:=q.frozen (c*4);have T:=q.frozen (c*4+1);have H:Hid (F (c*4)=(c:Int)):=D;have I:Hid (bE w nb 150 (n*4) (oT F)):=q;obtain⟨d,t⟩:=bJ (F (c*4+1));rw[t] at x1;have Y:Hid (F (c*4+1)=d):=t;go_enter func115,ntmps115
 go_wp2;go_quiet(fail);generalize nq=m
 go_wp2;go_quiet(fail)
 go_wp2
 go_region
 have W:=I.out.alloc (aq #[iz c,iz l] 220);have r:=AW w (iz c) (iz l) 220;have J:dV nb w (bC w (aq #[iz c,iz l] 220)):=(bW _ w).alloc _;have b:w.heap.size≠nb:=bO
 generalize(bC w (aq #[iz c,iz l] 220))=w0 at *;generalize h:aW (aW (aW (bF w0 (m+nq+1)) ⟨nb,c*4,ai⟩ (iz c)) ⟨nb,c*4+1,ai⟩ (iz d)) ⟨nb,c*4+1,ai⟩ (iz d)=w1;have x:bE w1 nb 150 (n*4) (λj=>if j=c*4+1 then iz d else if j=c*4+1 then iz d else if j=c*4 then iz c else oT F j):=by rw[<-h];exact((jf (w:=bF w0 (m+nq+1)) W _ _).set _ _).set _ _
 have L:dV nb w w1:=by rw[<-h];exact eH (eH (eH (J.drewN _) _ _) _ _) _ _
 have G:bE w1 w.heap.size 220 2 (λj=>if j=0 then iz c else iz l):=by rw[<-h];exact((GZ (w:=bF w0 (m+nq+1)) r b _).setOther b _).setOther b _
 have x2:aU w1 ⟨nb,c*4+2,ai⟩=ah (iz (F (c*4+2))):=by rw[x.cell (i:=c*4+2) bO,cC bO,cC bO,cC bO,oT]
 have U:=x.frozen (c*4+2)
 go_wp2
 go_region
 generalize y:(aW w1 ⟨nb,c*4+2,ai⟩ (iz 0)).drew=w2;have u:=(x.set (c*4+2) (iz 0)).drew;have C:=(eH L (c*4+2) (iz 0)).drew;have A:=(G.setOther (a:=⟨nb,c*4+2,ai⟩) b (iz 0)).drew;rw[y] at u C A;have bl:cz w2 w.heap.size 1 (iz l):=A.cell (i:=1) bO;have y3:aU w2 ⟨nb,c*4+3,ai⟩=ah (iz (F (c*4+3))):=by rw[u.cell (i:=c*4+3) bO,cC bO,cC bO,cC bO,cC bO];rfl
 have V:=u.frozen (c*4+3)
 go_wp2;have N:=u.set (c*4+3) (iz l);have M:=eH C (c*4+3) (iz l)
 go_end0
 refine⟨rfl,⟨λj=>if j=c*4+3 then l else if j=c*4+2 then 0 else if j=c*4+1 then d else if j=c*4+1 then d else if j=c*4 then(c:Int) else F j,N.congr λj _=>?_,λi=>?_⟩,M⟩
 .grind[oT]
 dsimp only;by_cases e:i=c
 .subst e;simp only[cC (show ¬i*4=i*4+3 by omega),cC (show ¬i*4=i*4+2 by omega),cC (show ¬i*4=i*4+1 by omega),iX];exact H.out.symm
 omega
theorem Fc(g:Uf.G)(c r:Nat)(i:c≠r)(q:(g.N c).par=c)(j:Nat):
  (if j=r*4+3 then iz ((g.N r).rz:Int) else if j=r*4+2 then iz ((g.N r).sW:Int) else if j=r*4+1 then iz ((g.N r).IQ:Int) else if j=c*4+1 then iz ((g.N c).IQ:Int) else if j=c*4 then iz c else lJ (Uf.lY g c r) j)=lJ g j:=by
 rw[<-CD g c r i j];by_cases b:j=r*4+3
 .rw[cY b,b,mi]
 by_cases d:j=r*4+2
 .rw[cC b,cY d,d,kR]
 by_cases e:j=r*4+1
 .rw[cC b,cC d,cY e,e,mh]
 by_cases h:j=c*4+1
 .rw[cC b,cC d,cC e,cY h,h,mh]
 by_cases m:j=c*4
 .rw[cC b,cC d,cC e,cC h,cY m,m,lu,q]
 grind
theorem E7(a)(b:-1000000<=a)(c:a<=1000000):aX a=a:=by unfold aX;omega
structure Cut(n:Nat)(F F':Nat->Int)(c:Nat)(l:Int):Prop where
 par:∀i,i<n->∃q:Nat,q<n∧F' (i*4)=(q:Int)
 CF:∀(g:Uf.G)(r:Nat),c≠r->r<n->(g.N c).par=c->l=((g.N r).rz:Int)->(g.N r).sW+(g.N c).sW<=100000->(∀j,j<n*4->oT F j=lJ (Uf.lY g c r) j)->∀j,j<n*4->oT F' j=lJ g j
theorem Lt{w}{p nb n}(F:Nat->Int)(c0:cz w p 0 (aj (ah (az nb 0)) n n))(L:bE w nb 150 (n*4) (oT F))(M:n<=100000)(d:∀i,i<n->∃q,q<n∧F (i*4)=(q:Int))(c)(z:c<n)(l):
  aB prog 115 #[pz p,.agg #[iz c,iz l]] w λe x=>e=aw (.tuple #[])∧(∃t,bE x nb 150 (n*4) (oT t)∧Cut n F t c l)∧dV nb w x:=by
 obtain⟨q,R,h⟩:=d c z;by_cases e:c=q
 .subst e;refine(Hu F c0 L M c z h l).mono ?_;rintro e x ⟨B,⟨t,y,O⟩,C⟩;refine⟨B,⟨t,y,⟨λi u=>by rw[O];exact d i u,?_⟩⟩,C⟩;intro g r m T A hl D b;have:=b (c*4) bO;rw[lu] at this;simp[oT,h,Uf.lY] at this;omega
 refine(Lr F c0 L M c q z R e h l).mono ?_;rintro U x ⟨B,y,C⟩;refine⟨B,⟨_,y,⟨?_,?_⟩⟩,C⟩
 .intro i u;by_cases N:i=c
  .subst N;refine⟨i,u,?_⟩;grind[Wc]
  unfold Wc;rw[cC bO,cC bO,cC bO,cC bO,cC bO];exact d i u
 intro g r m T A hl D b j V;have E:=b (c*4) bO;rw[lu] at E;simp[oT,h,Uf.lY] at E;obtain rfl:q=r:=bO
 have G:=b (c*4+1) bO;rw[mh] at G;have H:=b (c*4+2) bO;rw[kR] at H;have I:=b (q*4+1) bO;rw[mh] at I;have J:=b (q*4+2) bO;rw[kR] at J;simp[oT,Uf.lY] at G H;simp[oT,Uf.lY,j5 m] at I J;grind[oT,Wc,Fc,E7]
def uS(s:ByteArray)(k o:Nat):Nat:=
 if k<s.size then
  if(if ji s k=40 then o+1 else if ji s k=41 then o-1 else o)=0 then k+1 else uS s (k+1) (if ji s k=40 then o+1 else if ji s k=41 then o-1 else o)
 else s.size
termination_by s.size-k
decreasing_by omega
variable{s:ByteArray}
theorem Wk{o:Nat}(h:k<s.size):uS s k o=if(if ji s k=40 then o+1 else if ji s k=41 then o-1 else o)=0 then k+1 else uS s (k+1) (if ji s k=40 then o+1 else if ji s k=41 then o-1 else o):=by rw[uS,cY h]
theorem Gx{o:Nat}(h:¬k<s.size):uS s k o=s.size:=by rw[uS,cC h]
def qk(s:ByteArray)(i:Nat):Nat:=if ji s (bl s (kK s i))=40 then uS s (bl s (kK s i)) 0 else kK s i
def Yq(c):xK c=tW c:=rfl
theorem zM(w:ay)(bp:aA)(s:ByteArray)(i d:Nat)(b:i<=s.size)(hs:s.size<=400):
  Lp (bC w (aq #[bp,.string s,iz i,.int .u64 d] 107)) w.heap.size bp s i d:=by
 refine⟨eO (ey w #[bp,.string s,iz i,.int .u64 d] 107) ?_,b,hs⟩;intro j c;have e:j<4:=c;obtain rfl|rfl|rfl|rfl:=(by omega:j=0∨j=1∨j=2∨j=3)<;>rfl
def Lp.Vz{d:ay}{x:Nat}(K:dV x w d)(b:dG w0 w)(h:w0.heap.size<=x):dG w0 d:=
 ⟨K.os.trans b.os,K.tape.trans b.tape,K.output.trans b.output,bZ b.size K.size,λk c _=>(K.block k (cQ c b.size) bO).trans (b.block k c λe=>e)⟩
theorem Wq(w)(e:aE)(s b j)(i:j<s.size-b):aU (Lib.bytesWorld w e (s.extract b s.size)) (az w.heap.size j)=ah (.int .u8 (ji s (b+j):Int)):=by
 have hz:(s.extract b s.size).size=s.size-b:=by simp[ByteArray.size_extract]
 rw[Lib.bytesWorld_cell w e _ j bO];have c:b+j<s.size:=bO
 have d:j<(s.extract b s.size).size:=bO
 have h:((s.extract b s.size).data.toList.getD j 0)=s[b+j]:=by
  rw[px,Array.getElem?_toList];have:(s.extract b s.size).data[j]?=ah ((s.extract b s.size)[j]):=by rw[Array.getElem?_eq_getElem (by simpa using d)];rfl
  rw[this,yp];rfl
 rw[h,mv c]
theorem MW(K:dG w0 w)(e:aE)(S):dG w0 (Lib.bytesWorld w.drew e S):=
 gQ K ⟨rfl,rfl,rfl,by rw[Lib.bytesWorld_size];exact iD _,λk b _=>Lib.bytesWorld_at_old w.drew e S k b⟩
theorem Lw{w}{r}(p){s}{i d}(h:Lp w r (pz p) s i d):
  aB prog 256 #[pz r] w λe w'=>e=aw (iz (qk s i:Int))∧dG w w':=by
 have c0:=h.c0;have c1:=h.c1;have c2:=h.c2;have c3:=h.c3;have M:=zM w (pz p) s i d h.le h.small;have K0:dG w (bC w (aq #[pz p,.string s,iz i,.int .u64 d] 107)):=dD (bW _ w) _;go_enter func256,ntmps256
 go_wp2;generalize bC w (aq #[pz p,.string s,iz i,.int .u64 d] 107)=w1 at M K0⊢;have hx:w.heap.size<=w.heap.size:=bT _;have Y:Hid (∀W,dV w.heap.size w1 W->cz W r 1 (.string s)∧dG w W):=λW K=>⟨(h.dF (Lp.Vz K K0 (bT _))).c1,Lp.Vz K K0 (bT _)⟩;generalize be:w.heap.size=x at M hx Y⊢
 go_loopw[] (λW=>∃k:Nat,Lp W x (pz p) s k d∧Hid (kK s k=kK s i)∧Hid (dV x w1 W)) λW=>s.size-(match aU W (az x 2) with|some v=>(aG v).toNat|none=>0)
 case atStart=>exact⟨i,M,rfl,bW _ w1⟩
 case round=>
  obtain⟨k,u,hb,hK⟩:=hrel;have NX:=yP (pz p) k u;have ap:=u.le;have bc:=u.small;have ag:=u.c2;cases A:xK (ji s k) with
  |true=>
   have ao:k<s.size:=by grind[ji,xK,isLet,lK]
   have J:=λW=>Ca W (ji s k);rw[A] at J;have T:Hid (∀W,dG wr W->Lp (aW W (az x 2) (iz ((k:Int)+1))) x (pz p) s (k+1) d):=λW K=>by have:=(u.dF K).step (k:=k+1) bO;simpa using this
   have Z:Hid (∀W,dG wr W->cz W x 2 (iz k)∧W.frozen? (az x 2)=aL):=λW K=>⟨(u.dF K).c2,(u.dF K).row.frozen 2⟩;have an:Hid (kK s (k+1)=kK s i):=(uJ ao A).symm.trans hb;have ab:Hid (cz wr x 2 (iz k)):=ag;generalize ji s k=bk at *
   go_wp2_with(first|(go_at_call 110;refine NX.mono ?_;rintro e B ⟨rfl,q⟩;let⟨c2,f2⟩:=Z.out B q)|(go_at_call 259;refine(J _).mono ?_;rintro e N ⟨rfl,rfl⟩));refine⟨⟨k+1,T.out B q,an,eH (hK.out.trans (dW q λ_ _ e=>e.elim)) _ _⟩,?_⟩;rw[(T.out B q).c2,ab.out];simp only[aG];omega
  |false=>
   have J:=λW=>Ca W (ji s k);rw[A] at J;have e:kK s i=k:=hb.symm.trans (rQ λhh=>by rw[<-Yq,A] at hh;cases hh.2);have HR:=bL (b9 u hK.out);have HE:Hid (kK s i=k):=e;have HB:Hid (∀W,dG wr W->Lp W x (pz p) s k d):=λW K=>u.dF K;have Z:Hid (∀W,dG wr W->cz W x 2 (iz k)):=λW K=>(u.dF K).c2;generalize ji s k=bk at *;have E:Hid (∀W,Lp W x (pz p) s (bl s k) d->_):=λW L=>yP _ (bl s k) L;have V:=jV ap;have HT:Hid (qk s i=if ji s (bl s k)=40 then uS s (bl s k) 0 else k):=by show qk s i=_;rw[qk,HE.out]
   by_cases G:ji s (bl s k)=40
   .rw[G] at E
    go_wp2_with(first|(go_at_call 110;refine D.mono ?_;rintro e m ⟨rfl,I⟩;have al:=(R.dF I).c2;have a2:=(Y.out m ((HR.out.2.trans (dW q λ_ _ e=>e.elim)).trans (K4.trans (dW I λ_ _ e=>e.elim)))).1)|(go_at_call 110;refine NX.mono ?_;rintro e B ⟨rfl,q⟩;have c2:=Z.out B q;have BL:=qS k (HB.out B q))|(go_at_call 259;refine(J _).mono ?_;rintro e N ⟨rfl,rfl⟩)|(go_at_call 67;refine BL.mono ?_;rintro e N ⟨rfl,R,K4⟩;have D:=E.out N R));have ad:Hid (dG w m):=(Y.out m ((HR.out.2.trans (dW q λ_ _ e=>e.elim)).trans (K4.trans (dW I λ_ _ e=>e.elim)))).2;have a7:((bl s k:Nat):Int)<=s.size:=bO
    have CV:=Lib.run_convert_string_bytes (P:=prog) m.drew 9 330 5 (s.extract (bl s k) s.size) underlying9 underlying330 underlying5;have hz:=pM V (bT s.size);have a1:x<m.heap.size:=(R.dF I).row.lt;generalize bl s k=b at *;have CB:Hid (∀j,j<s.size-b->aU (Lib.bytesWorld m.drew 5 (s.extract b s.size)) (az m.heap.size j)=ah (.int .u8 (ji s (b+j):Int))):=Wq m.drew 5 s b;have KB:Hid (dG w (Lib.bytesWorld m.drew 5 (s.extract b s.size))):=MW ad.out 5 (s.extract b s.size);have CX:Hid (aU (Lib.bytesWorld m.drew 5 (s.extract b s.size)) (az x 2)=ah (iz b)):=(Lib.bytesWorld_old m.drew 5 _ (az x 2) a1).trans al
    go_region_with fail
    all_goals
     generalize Lib.bytesWorld m.drew 5 (s.extract b s.size)=w6 at CB KB CX⊢;have ac:Hid (Lp w6 r (pz p) s i d):=h.dF KB.out;have O:Hid (qk s i=uS s b 0):=cG
     have aa:Hid (ji s b=40):=G;simp only[aQ,cD,cw,ct,cf,cN,cK]
     go_wp2;generalize hS:s.extract b s.size=S;generalize grownCap m.drew (s.size-b) 0 5=cp;generalize m.heap.size=y at *
     go_loopw[5,32] (λt5 H W=>∃(j o:Nat),t5=iz o∧H=iz j∧j<=s.size-b∧o<=j∧Hid (uS s b 0=uS s (b+j) o∧(j=0∨1<=o))∧Hid (W=w6)) λ_ H _=>s.size-b-(aG H).toNat
     case atStart=>exact⟨0,0,rfl,rfl,dt _,bT _,⟨rfl,cB rfl⟩,rfl⟩
     case round=>
      obtain⟨j,o,rfl,rfl,hj,ba,HJ,hw⟩:=hrel;obtain rfl:=hw.out;by_cases a0:j<s.size-b
      .have cb:=CB.out j a0;have X:((j:Nat):Int)<((s.size-b:Nat):Int):=bO
       have t:=HJ.out.1;rw[Wk (o:=o) (by omega:b+j<s.size)] at t;have a9:=HJ.out.2;by_cases z:ji s (b+j)=40
       .rw[z] at cb;rw[cY z,cC bO] at t;have c:Hid (uS s b 0=uS s (b+(j+1)) (o+1)):=t;have U:((o:Int)+1==0)=aL:=bX
        have C:¬(o:Int)+1=0:=bO
        go_wp2
        go_roundw
        case rel=>exact⟨j+1,o+1,by simp,by simp,by omega,by omega,⟨c.out,cI bO⟩,by first|exact rfl|exact trivial⟩
        case measure=>simp only[aG];omega
       rw[cC z] at t;have a8:j≠0:=λe=>z (by rw[e];exact aa.out);have a4:((ji s (b+j):Int)==40)=aL:=bX
       by_cases F:ji s (b+j)=41
       .rw[F] at cb;rw[cY F] at t;by_cases o1:o=1
        .rw[cY bO] at t;have c:Hid (uS s b 0=b+j+1):=t;subst o1;have cx:=CX.out
         go_wp2;go_ret;refine⟨?_,KB.out⟩;rw[O.out,c.out];simp
        rw[cC bO] at t;have c:Hid (uS s b 0=uS s (b+(j+1)) (o-1)):=t;have U:((o:Int)-1==0)=aL:=bX
        have C:¬(o:Int)-1=0:=bO
        go_wp2
        go_roundw
        case rel=>exact⟨j+1,o-1,by simp;omega,by simp,by omega,by omega,⟨c.out,cI bO⟩,by first|exact rfl|exact trivial⟩
        case measure=>simp only[aG];omega
       rw[cC F] at t;rw[cC bO] at t;have a5:((ji s (b+j):Int)==41)=aL:=bX
       have c:Hid (uS s b 0=uS s (b+(j+1)) o):=t;have U:((o:Int)==0)=aL:=bX
       have C:¬(o:Int)=0:=bO
       generalize ji s (b+j)=bj at *
       go_wp2
       go_roundw
       case rel=>exact⟨j+1,o,rfl,by simp,by omega,by omega,⟨c.out,cI bO⟩,by first|exact rfl|exact trivial⟩
       case measure=>simp only[aG];omega
      have X:¬((j:Nat):Int)<((s.size-b:Nat):Int):=bO
      have c:Hid (uS s b 0=s.size):=by have:=HJ.out.1;rw[Gx (o:=o) (by omega:¬b+j<s.size)] at this;exact this
      have a3:=ac.out.c1
      go_wp2;go_ret;refine⟨?_,KB.out⟩;rw[O.out,c.out];rfl
   have a6:((ji s (bl s k):Int) != 40)=aK:=bX
   generalize ji s (bl s k)=bb at *
   go_wp2_with(first|(go_at_call 110;refine D.mono ?_;rintro e m ⟨rfl,I⟩)|(go_at_call 110;refine NX.mono ?_;rintro e B ⟨rfl,q⟩;have c2:=Z.out B q;have BL:=qS k (HB.out B q))|(go_at_call 259;refine(J _).mono ?_;rintro e N ⟨rfl,rfl⟩)|(go_at_call 67;refine BL.mono ?_;rintro e N ⟨rfl,R,K4⟩;have D:=E.out N R));go_ret;refine⟨?_,(Y.out m ((HR.out.2.trans (dW q λ_ _ e=>e.elim)).trans (K4.trans (dW I λ_ _ e=>e.elim)))).2⟩;rw[HT.out,cC G];rfl
