import Derived.Test.YtlehlgipbhfioaaGreatQ1
import Derived.Test.YtlehlgipbhfioaaGreatBa
import Derived.Test.YtlehlgipbhfioaaGreatBb
namespace Go.Proofs.YtlehlgipbhfioaaGreat
set_option maxHeartbeats 2000000
set_option linter.all false
open Go.RowKit Go.Proofs.Tryz
open Go.Value renaming int->ae,slice->aj
open Go.IntKind renaming i64->af
open Go.Ending renaming returned->aw
open Option renaming some->ah,none->ai
open Bool renaming true->aK,false->aL
open Go.World renaming setCell->aW,cell?->aU,drewN->bF,rowIs->bE
open Go renaming Calls->aB,World->ay,Value->aA
open Decidable renaming decide->aM
open List renaming length->bB
open Go.RowKit renaming intOf->aG
def lJ(g:Uf.G)(j:Nat):aA:=
 ae af (if j % 4=0 then((g.N (j / 4)).par:Int) else if j % 4=1 then((g.N (j / 4)).IQ:Int) else if j % 4=2 then((g.N (j / 4)).sW:Int) else((g.N (j / 4)).rz:Int))
def kZ(js:List (Nat×Nat)):List aA:=js.flatMap λx=>[ae af x.1,ae af x.2]
def tM(nb n:Nat)(jv:aA)(j:Nat):aA:=if j=0 then aj (ah ⟨nb,0,ai⟩) n n else jv
structure jT(w:ay)(base p nb n:Nat)(g:Uf.G)(jv:aA)(js:List (Nat×Nat)):Prop where
 ie:bE w p 148 2 (tM nb n jv)
 nodes:bE w nb 150 (n*4) (lJ g)
 iA:w.ownsRow base 220 2 jv (bB js) (kZ js)
 ne:p≠nb
 jp:jv.ownBlock≠ah p
 jn:jv.ownBlock≠ah nb
 bp:base<=p
 bn:base<=nb
 small:n<=100000
variable{w a w':ay}{base p nb n k i c r:Nat}{g:Uf.G}{jv bp:aA}{js:List (Nat×Nat)}
theorem jT.Z7(h:jT w base p nb n g jv js):∃a d,jv=aj a (bB js) d:=by
 obtain⟨rfl,f⟩|⟨b,d,e,rfl,_⟩:=h.iA.2
 .grind
 exact⟨_,d,rfl⟩
def jT.c0(h:jT w base p nb n g jv js):cz w p 0 (aj (ah (az nb 0)) n n):=h.ie.cell bO
def jT.c1(h:jT w base p nb n g jv js):cz w p 1 jv:=h.ie.cell (i:=1) bO
def mD(n:Nat)(a:Int):Bool:=aM (0<=a∧a<n)
def jR{a:Int}(h:mD n a=aK):0<=a∧a<n:=ft h
def lN{a:Nat}(h:a<n):mD n a=aK:=cZ bO
theorem fr{a b:Bool}(h:a=b):Ending.returned (.bool a)=aw (.bool b):=by rw[h]
theorem Yd{k:IntKind}{a b:Int}(h:a=b):Ending.returned (.int k a)=aw (.int k b):=by rw[h]
def Mz{a:Int}(h:a<0):aL=mD n a:=(cP bO).symm
theorem MB{a:Int}(h:0<=a):aM (a<n)=mD n a:=by unfold mD;simp[h]
theorem nh{w}{base p nb n}{g}{jv}{js}(h:jT w base p nb n g jv js)(a):
  aB prog 54 #[pz p,iz a] w λe w'=>e=aw (.bool (mD n a))∧w=w':=by
 have c0:=h.c0;go_enter func54,ntmps54
 go_wp2
 .go_ret;exact⟨fr (MB ‹_›),rfl⟩
 go_ret;exact⟨fr (Mz ‹_›),rfl⟩
theorem lu(g i):lJ g (i*4)=iz ((g.N i).par:Int):=by grind[lJ]
theorem mh(g i):lJ g (i*4+1)=iz ((g.N i).IQ:Int):=by grind[lJ]
theorem kR(g i):lJ g (i*4+2)=iz ((g.N i).sW:Int):=by grind[lJ]
theorem mi(g i):lJ g (i*4+3)=iz ((g.N i).rz:Int):=by grind[lJ]
theorem jT.par(h:jT w base p nb n g jv js)(b:i<n):aU w ⟨nb,i*4,ai⟩=ah (iz ((g.N i).par:Int)):=by rw[<-lu];exact h.nodes.cell bO
theorem jT.IQ(h:jT w base p nb n g jv js)(b:i<n):aU w ⟨nb,i*4+1,ai⟩=ah (iz ((g.N i).IQ:Int)):=by rw[<-mh];exact h.nodes.cell bO
theorem jT.sW(h:jT w base p nb n g jv js)(b:i<n):aU w ⟨nb,i*4+2,ai⟩=ah (iz ((g.N i).sW:Int)):=by rw[<-kR];exact h.nodes.cell bO
theorem jT.rz(h:jT w base p nb n g jv js)(b:i<n):aU w ⟨nb,i*4+3,ai⟩=ah (iz ((g.N i).rz:Int)):=by rw[<-mi];exact h.nodes.cell bO
theorem tg{w}{base p nb n}{g}{jv}{js}(h:jT w base p nb n g jv js)(k)(m:Uf.Ok n g k)(a)(y:a<n):
  aB prog 55 #[pz p,iz a] w λe w'=>e=aw (iz (g.rt a))∧w=w':=by
 have c0:=h.c0;go_enter func55,ntmps55
 go_wp2
 go_loop [1] (λt=>∃i:Nat,i<n∧t=iz i∧Hid (g.rt i=g.rt a)) λt=>g.dp (aG t).toNat
 case atStart=>exact⟨a,y,rfl,rfl⟩
 case round=>
  obtain⟨i,l,rfl,j⟩:=hrel;have x:=h.par l;have o:=m.Ug i l;by_cases u:(g.N i).par=i
  .have d:=m.root i l u;have b:Hid (g.rt i=i):=d;rw[u] at x
   go_wp2;go_ret;exact⟨Yd (by rw[<-j.out,b.out]),rfl⟩
  have v:=m.step i l u;have f:Hid (_∧_):=v;have z:(((g.N i).par:Int) != (i:Int))=aK:=by rw[bne_iff_ne];omega
  generalize A:(g.N i).par=q at *
  go_wp2
  go_round
  case rel=>exact⟨q,o,rfl,f.out.1.trans j.out⟩
  case measure=>simp[aG];exact f.out.2
theorem AZ{w}{base p nb n}{g}{jv}{js}(h:jT w base p nb n g jv js):
  aB prog 70 #[pz p] w λe w'=>e=aw (iz (bB js))∧w=w':=by
 have c1:=h.c1;obtain⟨b,d,rfl⟩:=h.Z7;go_enter func70,ntmps70
 go_wp2;go_ret;exact⟨rfl,rfl⟩
def jT.drewN(h:jT w base p nb n g jv js){m:Nat}:jT (bF w m) base p nb n g jv js:=
 ⟨h.ie,h.nodes,h.iA,h.ne,h.jp,h.jn,h.bp,h.bn,h.small⟩
theorem Kw{w}(base){p nb n}{g}{jv}{js}(h:jT w base p nb n g jv js)(k)(f:Uf.Ok n g k)(a):
  aB prog 38 #[pz p,iz a] w λe w'=>e=aw (iz (if mD n a then(g.lo a.toNat:Int) else -1))∧∃m,w'=bF w m:=by
 have c0:=h.c0;cases b:mD n a
 .go_enter func38,ntmps38
  go_wp2_with(go_at_call 54;refine(nh h _).mono ?_;rintro e w' ⟨rfl,rfl⟩;rw[b]);go_ret;exact⟨rfl,0,rfl⟩
 let⟨l,o⟩:=jR b;obtain⟨i,rfl⟩:=fg l;have j:i<n:=bO
 have d:=f.Fx i j;have cl:=h.rz d;go_enter func38,ntmps38
 go_wp2_with(go_at_call 54;refine(nh h _).mono ?_;rintro e w' ⟨rfl,rfl⟩;rw[b]);go_quiet((go_at_call 55;exact eN ((tg h.drewN _ f _ j).mono λ_ _ x=>⟨x.1,x.2.symm⟩)))
 go_wp2;go_ret;exact⟨rfl,_,rfl⟩
def lW(n:Nat)(g:Uf.G)(a b:Int):Bool:=mD n a&&mD n b&&aM (g.rt a.toNat=g.rt b.toNat)
theorem ZK{w}{base p nb n}{g}{jv}{js}(h:jT w base p nb n g jv js)(k)(l:Uf.Ok n g k)(a b):
  aB prog 26 #[pz p,iz a,iz b] w λe w'=>e=aw (.bool (lW n g a b))∧∃m,w'=bF w m:=by
 cases d:mD n a
 .have fin:lW n g a b=aL:=by simp[lW,d]
  rw[fin];go_enter func26,ntmps26
  go_wp2_with fail;refine(nh h a).mono ?_;rintro e w' ⟨rfl,rfl⟩;rw[d]
  go_wp2;go_ret;exact⟨rfl,0,rfl⟩
 cases f:mD n b
 .have fin:lW n g a b=aL:=by simp[lW,f]
  rw[fin];go_enter func26,ntmps26
  go_wp2_with fail;refine(nh h a).mono ?_;rintro e w' ⟨rfl,rfl⟩;rw[d]
  go_wp2_with fail;refine(nh h b).mono ?_;rintro e w' ⟨rfl,rfl⟩;rw[f]
  go_wp2;go_ret;exact⟨rfl,0,rfl⟩
 let⟨o,u⟩:=jR d;let⟨b1,b2⟩:=jR f;obtain⟨i,rfl⟩:=fg o;obtain⟨j,rfl⟩:=fg b1;have q:i<n:=bO
 have t:j<n:=bO
 have fin:lW n g i j=((g.rt i:Int)==(g.rt j:Int)):=by grind[lW]
 rw[fin];go_enter func26,ntmps26
 go_wp2_with fail;refine(nh h i).mono ?_;rintro e w' ⟨rfl,rfl⟩;rw[d]
 go_wp2_with fail;refine(nh h j).mono ?_;rintro e w' ⟨rfl,rfl⟩;rw[f]
 go_wp2_with fail;refine(tg h _ l i q).mono ?_;rintro e w' ⟨rfl,rfl⟩
 go_wp2_with fail;refine(tg h _ l j t).mono ?_;rintro e w' ⟨rfl,rfl⟩
 go_wp2;go_ret;exact⟨rfl,0,rfl⟩
structure bI(S:Nat->Prop)(w w':ay):Prop where
 os:w'.os=w.os
 tape:w'.tape=w.tape
 output:w'.output=w.output
 size:w.heap.size<=w'.heap.size
 block:∀k,k<w.heap.size->¬S k->w'.heap[k]?=w.heap[k]?
theorem bI.refl(S w):bI S w w:=⟨rfl,rfl,rfl,bT _,λ_ _ _=>rfl⟩
def bW:=@bI.refl
variable{S:Nat->Prop}
def bI.trans{b c:ay}(h:bI S a b)(k:bI S b c):bI S a c:=
 ⟨k.os.trans h.os,k.tape.trans h.tape,k.output.trans h.output,bZ h.size k.size,λi d hs=>(k.block i (cQ d h.size) hs).trans (h.block i d hs)⟩
def gQ:=@bI.trans
theorem bI.mono{T:Nat->Prop}(h:bI S w w')(b:∀k,k<w.heap.size->S k->T k):bI T w w':=
 ⟨h.os,h.tape,h.output,h.size,λk d hs=>h.block k d λx=>hs (b k d x)⟩
def dW:=@bI.mono
def bI.drewN(h:bI S a w)(m):bI S a (bF w m):=⟨h.os,h.tape,h.output,h.size,h.block⟩
def dR:=@bI.drewN
def bI.drew(h:bI S a w):bI S a w.drew:=⟨h.os,h.tape,h.output,h.size,h.block⟩
def Xh:=@bI.drew
theorem bI.setCell(h:bI S a w){p:Addr}(hp:S p.block)(u):bI S a (aW w p u):=
 h.trans ⟨rfl,rfl,rfl,by simp[aW],λk _ hs=>cO _ _ _ _ λe=>hs (e▸hp)⟩
def eY:=@bI.setCell
theorem bI.alloc(h:bI S a w)(o):bI S a (w.alloc o):=
 h.trans ⟨rfl,rfl,rfl,by simp,λk b _=>dB _ _ _ b⟩
def dD:=@bI.alloc
def bI.grown{row:Option Nat}(h:bI S a w)(b:w.grownBy w' row)(f:∀k,row=ah k->S k):bI S a w':=
 h.trans ⟨b.os,b.tape,b.output,b.size,λk d hs=>b.block k d λe=>hs (f k e.symm)⟩
def gA:=@bI.grown
theorem bI.below{B:Nat}(h:bI S w w')(b:B<=w.heap.size)(hs:∀k,S k->B<=k):Below B w w':=
 ⟨h.os,h.tape,h.output,h.size,λk d=>h.block k bO λx=>by have:=hs k x;omega⟩
def pA:=@bI.below
abbrev dV(nb:Nat)(w w':ay):Prop:=bI (λk=>k=nb) w w'
def dV.set(h:dV nb a w)(o u):dV nb a (aW w (az nb o) u):=eY h rfl u
def eH:=@dV.set
theorem dV.grownBy(h:dV nb w w'):w.grownBy w' (ah nb):=
 ⟨h.os,h.tape,h.output,h.size,λk b hs=>h.block k b λe=>hs (by rw[e])⟩
def jT.aaS{b:Uf.G}(h:jT w base p nb n g jv js)(K:dV nb w w'){f:Nat->aA}(R:bE w' nb 150 (n*4) f)(d:∀j,j<n*4->f j=lJ b j):jT w' base p nb n b jv js:=
 ⟨h.ie.of_block (K.block p h.ie.lt h.ne),R.congr d,h.iA.kept K.grownBy (cI h.jn),h.ne,h.jp,h.jn,h.bp,h.bn,h.small⟩
theorem TP(j):∃q,j=q*4∨j=q*4+1∨j=q*4+2∨j=q*4+3:=⟨j / 4,by omega⟩
theorem CD(g:Uf.G)(c r:Nat)(h:c≠r)(j:Nat):
  (if j=r*4+3 then iz (if(g.N c).rz<(g.N r).rz then((g.N c).rz:Int) else((g.N r).rz:Int)) else if j=r*4+2 then iz ((g.N r).sW+(g.N c).sW:Int) else if j=r*4+1 then iz ((g.N c).IQ:Int) else if j=c*4+1 then iz ((g.N r).IQ:Int) else if j=c*4 then iz r else lJ g j)=lJ (Uf.lY g c r) j:=by
 let⟨q,d⟩:=TP j;by_cases b:q=c
 .subst b;obtain rfl|rfl|rfl|rfl:=d
  .rw[cC bO,cC bO,cC bO,cC bO,cY rfl,lu];simp[Uf.lY]
  .rw[cC bO,cC bO,cC bO,cY rfl,mh];simp[Uf.lY]
  .rw[cC bO,cC bO,cC bO,cC bO,cC bO,kR,kR];simp[Uf.lY]
  rw[cC bO,cC bO,cC bO,cC bO,cC bO,mi,mi];simp[Uf.lY]
 by_cases f:q=r
 .subst f;obtain rfl|rfl|rfl|rfl:=d
  .rw[cC bO,cC bO,cC bO,cC bO,cC bO,lu,lu];simp[Uf.lY,b]
  .rw[cC bO,cC bO,cY rfl,mh];simp[Uf.lY,b]
  .rw[cC bO,cY rfl,kR];simp[Uf.lY,b]
  rw[cY rfl,mi];grind[Uf.lY]
 have e:(Uf.lY g c r).N q=g.N q:=by simp[Uf.lY,b,f]
 obtain rfl|rfl|rfl|rfl:=d
 .rw[cC bO,cC bO,cC bO,cC bO,cC bO,lu,lu,e]
 .rw[cC bO,cC bO,cC bO,cC bO,cC bO,mh,mh,e]
 .rw[cC bO,cC bO,cC bO,cC bO,cC bO,kR,kR,e]
 rw[cC bO,cC bO,cC bO,cC bO,cC bO,mi,mi,e]
theorem Oo{w}{base p nb n}{g}{jv}{js}(h:jT w base p nb n g jv js)(c r)(x:c<n)(E:r<n)(f:c≠r)(F:(g.N r).sW+(g.N c).sW<=100000):
  aB prog 113 #[pz p,iz c,iz r] w λe w'=>e=aw (.tuple #[])∧jT w' base p nb n (Uf.lY g c r) jv js∧dV nb w w':=by
 have c0:=h.c0;have J:=h.par x;have x1:=h.IQ x;have L:=h.IQ E;have A:=h.nodes.frozen (c*4);have B:=h.nodes.frozen (c*4+1);have C:=h.nodes.frozen (r*4+1);have H:¬(c*4=r*4+1):=bO
 have I:¬(c=r):=f;go_enter func113,ntmps113
 go_wp2;go_quiet(fail)
 go_wp2
 go_region
 generalize l:aW (aW (aW (bF w (nq+1)) ⟨nb,c*4,ai⟩ (iz r)) ⟨nb,c*4+1,ai⟩ (iz ((g.N r).IQ:Int))) ⟨nb,r*4+1,ai⟩ (iz ((g.N c).IQ:Int))=o;have b:bE o nb 150 (n*4) (λj=>if j=r*4+1 then iz ((g.N c).IQ:Int) else if j=c*4+1 then iz ((g.N r).IQ:Int) else if j=c*4 then iz r else lJ g j):=by rw[<-l];exact((h.drewN.nodes.set _ _).set _ _).set _ _
 have t:dV nb w o:=by rw[<-l];exact dV.set (dV.set (dV.set ((bW _ w).drewN _) _ _) _ _) _ _
 have x2:aU o ⟨nb,c*4+2,ai⟩=ah (iz ((g.N c).sW:Int)):=by rw[b.cell (i:=c*4+2) bO,cC bO,cC bO,cC bO,kR]
 have G:aU o ⟨nb,r*4+2,ai⟩=ah (iz ((g.N r).sW:Int)):=by rw[b.cell (i:=r*4+2) bO,cC bO,cC bO,cC bO,kR]
 have q:=b.frozen (r*4+2)
 go_wp2
 go_region
 generalize m:(aW o ⟨nb,r*4+2,ai⟩ (iz ((g.N r).sW+(g.N c).sW:Int))).drew=y;have d:=(b.set (r*4+2) (iz ((g.N r).sW+(g.N c).sW:Int))).drew;have u:=(dV.set t (r*4+2) (iz ((g.N r).sW+(g.N c).sW:Int))).drew;rw[m] at d u;have x3:aU y ⟨nb,c*4+3,ai⟩=ah (iz ((g.N c).rz:Int)):=by rw[d.cell (i:=c*4+3) bO,cC bO,cC bO,cC bO,cC bO,mi]
 have M:aU y ⟨nb,r*4+3,ai⟩=ah (iz ((g.N r).rz:Int)):=by rw[d.cell (i:=r*4+3) bO,cC bO,cC bO,cC bO,cC bO,mi]
 have D:=d.frozen (r*4+3);clear x2 G q m t b
 go_wp2
 go_region
 have z:=(d.set (r*4+3) (iz (if(g.N c).rz<(g.N r).rz then((g.N c).rz:Int) else((g.N r).rz:Int)))).drew;have v:=(dV.set u (r*4+3) (iz (if(g.N c).rz<(g.N r).rz then((g.N c).rz:Int) else((g.N r).rz:Int)))).drew
 go_end0
 exact⟨rfl,h.aaS v z λj _=>CD g c r f j,v⟩
def aex{p:Prop}(h:p:=by first|assumption|exact(bW _ _).drew):p:=h
def ji(s:ByteArray)(i:Nat):Nat:=if h:i<s.size then(s[i]).toNat else 0
variable{s:ByteArray}
theorem mv(h:i<s.size):(s[i]).toNat=ji s i:=by simp[ji,h]
def bl(s:ByteArray)(i:Nat):Nat:=if h:i<s.size∧ji s i=32 then bl s (i+1) else i
termination_by s.size-i
decreasing_by omega
theorem EK(h:i<s.size)(b:ji s i=32):bl s i=bl s (i+1):=by rw[bl];simp[h,b]
theorem tD(h:¬(i<s.size∧ji s i=32)):bl s i=i:=by rw[bl];simp[h]
theorem oL(s i):i<=bl s i:=by
 induction i using bl.induct s with
 |case1 i h b=>rw[EK h.1 h.2];omega
 |case2 i h=>rw[tD h];omega
theorem jV(b:i<=s.size):bl s i<=s.size:=by
 induction i using bl.induct s with
 |case1 i h d=>grind[EK]
 |case2 i h=>rw[tD h];exact b
def NI(bp:aA)(s:ByteArray)(i:Nat)(j:Nat):aA:=if j=0 then bp else if j=1 then .string s else ae af i
structure Rd(w:ay)(r:Nat)(bp:aA)(s:ByteArray)(i:Nat):Prop where
 row:bE w r 86 3 (NI bp s i)
 le:i<=s.size
 small:s.size<=400
def Rd.c0(h:Rd w r bp s i):cz w r 0 bp:=h.row.cell bO
def Rd.c1(h:Rd w r bp s i):cz w r 1 (.string s):=h.row.cell (i:=1) bO
def Rd.c2(h:Rd w r bp s i):cz w r 2 (iz i):=h.row.cell (i:=2) bO
def Rd.drewN(h:Rd w r bp s i)(m):Rd (bF w m) r bp s i:=⟨h.row,h.le,h.small⟩
theorem Rd.step(h:Rd w r bp s i)(b:k<=s.size):Rd (aW w (az r 2) (iz k)) r bp s k:=
 ⟨(h.row.set 2 _).congr (λj d=>by grind[NI]),b,h.small⟩
def isLet(c:Nat):Bool:=aM (97<=c∧c<=122)
def lK(c:Nat):Bool:=aM (48<=c∧c<=57)
def Jp(h:(c:Int)<97):aL=isLet c:=(cP bO).symm
theorem Jq(h:(97:Int)<=c):aM ((c:Int)<=122)=isLet c:=by grind[isLet]
def Jr(h:(c:Int)<48):aL=lK c:=(cP bO).symm
theorem Js(h:(48:Int)<=c):aM ((c:Int)<=57)=lK c:=by grind[lK]
theorem Mp(w:ay)(c:Nat):
  aB prog 149 #[.int .u8 c] w λe w'=>e=aw (.bool (isLet c))∧w=w':=by
 go_enter func149,ntmps149
 go_wp2
 .go_ret;exact⟨fr (Jq ‹_›),rfl⟩
 go_ret;exact⟨fr (Jp ‹_›),rfl⟩
theorem sP(w:ay)(c:Nat):
  aB prog 150 #[.int .u8 c] w λe w'=>e=aw (.bool (lK c))∧w=w':=by
 go_enter func150,ntmps150
 go_wp2
 .go_ret;exact⟨fr (Js ‹_›),rfl⟩
 go_ret;exact⟨fr (Jr ‹_›),rfl⟩
theorem vO{w}{r}{bp}{s}{i}(h:Rd w r bp s i):
  aB prog 58 #[pz r] w λe w'=>e=aw (.tuple #[])∧Rd w' r bp s (bl s i)∧dV r w w':=by
 have hs:=h.small;go_enter func58,ntmps58
 go_wp2
 go_loopw[] (λW=>∃k:Nat,Rd W r bp s k∧Hid (bl s k=bl s i)∧Hid (dV r w W)) λW=>s.size-(match aU W (az r 2) with|some v=>(aG v).toNat|none=>0)
 case atStart=>exact⟨i,h,rfl,bW _ w⟩
 case round=>
  obtain⟨k,b,l,j⟩:=hrel;have c1:=b.c1;have c2:=b.c2;have q:=b.row.frozen 2;have o:=b.le;by_cases d:k<s.size
  .by_cases f:ji s k=32
   .have m:(s[k]).toNat=32:=(mv d).trans f
    go_wp2;go_quiet(fail)
    go_wp2;refine⟨⟨k+1,?_,(EK d f).symm.trans l,eH (j.drewN _) _ _⟩,?_⟩
    .have:=(b.drewN nq).step (k:=k+1) bO;simpa using this
    have t:=((b.drewN nq).step (k:=k+1) bO).c2;grind[aG]
   have m:¬(s[k]).toNat=32:=λe=>f ((mv d).symm.trans e)
   go_wp2;go_quiet(fail)
   go_wp2
   go_end0
   have e:bl s i=k:=l.symm.trans (tD λx=>f x.2);exact⟨rfl,e▸b.drewN nq,dR j nq⟩
  go_wp2;go_quiet(fail)
  go_wp2
  go_end0
  have e:bl s i=k:=l.symm.trans (tD λx=>d x.1);exact⟨rfl,e▸b.drewN nq,dR j nq⟩
def nD(e p:Int):aA:=.iface 134 (.agg #[ae af e,ae af p])
theorem jk(w e p):
  aB prog 60 #[iz e,iz p] w λx w'=>x=.panicked [{v:=nD e p,recovered:=aL}]∧w=w':=by
 go_enter func60,ntmps60
 go_wp2;exact⟨rfl,rfl,rfl⟩
def ix(s:ByteArray)(i c:Nat):Bool:=aM (i<s.size∧ji s i=c)
def behind(s:ByteArray)(i c:Nat):Nat:=if ix s i c then bl s (i+1) else i
theorem pG(h:i<s.size)(b:ji s i=c):ix s i c=aK:=cZ ⟨h,b⟩
def yF(b:¬ji s i=c):ix s i c=aL:=cP λx=>b x.2
def wC(h:¬i<s.size):ix s i c=aL:=cP λx=>h x.1
theorem pN(h:ix s i c=aK):behind s i c=bl s (i+1):=by simp[behind,h]
theorem oM(h:ix s i c=aL):behind s i c=i:=by simp[behind,h]
theorem Ay(h:Rd w r bp s i)(c:Nat):
  aB prog 102 #[pz r,.int .u8 c] w λe w'=>e=aw (.bool (ix s i c))∧Rd w' r bp s (behind s i c)∧dV r w w':=by
 have hs:=h.small;have c1:=h.c1;have c2:=h.c2;have u:=h.row.frozen 2;have o:=h.le;go_enter func102,ntmps102;by_cases b:i<s.size
 .have f:¬((i:Int)=s.size):=bO
  by_cases d:ji s i=c
  .have j:(s[i]).toNat=c:=(mv b).trans d
   go_wp2;go_quiet(fail)
   go_wp2_with(go_at_call 58;refine(vO (Rd.step (Rd.drewN h nq) (k:=i+1) bO)).mono ?_;rintro e v ⟨rfl,m,l⟩);go_ret;exact⟨fr (pG b d).symm,by rw[pN (pG b d)];exact m,gQ (eH (dR (bW _ w) nq) _ _) l⟩
  have j:¬(s[i]).toNat=c:=λe=>d ((mv b).symm.trans e);have q:(((s[i]).toNat:Int) != (c:Int))=aK:=bX
  have t:((i:Int)==(s.size:Int))=aL:=bX
  go_wp2;go_quiet(fail)
  go_wp2;go_ret;exact⟨fr (yF d).symm,by rw[oM (yF d)];exact h.drewN nq,dR (bW _ w) nq⟩
 have f:(i:Int)=s.size:=bO
 go_wp2;go_quiet(fail)
 go_wp2;go_ret;exact⟨fr (wC b).symm,by rw[oM (wC b)];exact h.drewN nq,dR (bW _ w) nq⟩
def tW(c:Nat):Bool:=isLet c||lK c
def kK(s:ByteArray)(i:Nat):Nat:=if h:i<s.size∧tW (ji s i)=aK then kK s (i+1) else i
termination_by s.size-i
decreasing_by omega
theorem uJ(h:i<s.size)(b:tW (ji s i)=aK):kK s i=kK s (i+1):=by rw[kK];simp[h,b]
theorem rQ(h:¬(i<s.size∧tW (ji s i)=aK)):kK s i=i:=by rw[kK];simp[h]
theorem wM(s i):i<=kK s i:=by
 induction i using kK.induct s with
 |case1 i h b=>rw[uJ h.1 h.2];omega
 |case2 i h=>rw[rQ h];omega
theorem pg(b:i<=s.size):kK s i<=s.size:=by
 induction i using kK.induct s with
 |case1 i h d=>grind[uJ]
 |case2 i h=>rw[rQ h];exact b
def gX(s:ByteArray)(i:Nat):Bool:=aM (kK s i=i)||decide (6<kK s i-i)||lK (ji s i)
theorem pM(h:i<=k)(b:k<=s.size):(s.extract i k).size=k-i:=by simp[ByteArray.size_extract];omega
theorem acE(h:i<k)(b:k<=s.size)(hz:0<(s.extract i k).size):(s.extract i k)[0]=s[i]:=by simp[yp]
theorem ext_nil(h:i<=k)(b:k<=s.size):(s.extract i k).toList=[]↔i=k:=by rw[toList_nil_iff_emptyBytes,ByteArray.extract_eq_empty_iff];omega
def WS(w:ay)(r:Nat)(bp:aA)(s:ByteArray)(i:Nat)(e:Ending)(w':ay):Prop:=
 dV r w w'∧((gX s i=aK∧e=.panicked [{v:=nD 2 i,recovered:=aL}]∧∃k,Rd w' r bp s k)∨
  (gX s i=aL∧e=aw (.string (s.extract i (kK s i)))∧Rd w' r bp s (bl s (kK s i))))
theorem YA{w}{r}{bp}{s}{i}(h:Rd w r bp s i):
  aB prog 101 #[pz r] w (WS w r bp s i):=by
 have hs:=h.small;have c2:=h.c2;go_enter func101,ntmps101
 go_wp2
 go_loopw[] (λW=>∃k:Nat,Rd W r bp s k∧Hid (kK s k=kK s i)∧Hid (dV r w W)) λW=>s.size-(match aU W (az r 2) with|some v=>(aG v).toNat|none=>0)
 case atStart=>exact⟨i,h,rfl,bW _ w⟩
 case round=>
  obtain⟨k,t,R,Q⟩:=hrel;have c1:=t.c1;have c2:=t.c2;have f2:=t.row.frozen 2;have P:=t.le;by_cases M:k<s.size
  .have Z:aM ((k:Int)<s.size)=aK:=cZ bO;have z:∀m,aB prog 149 #[.int .u8 ((s[k]).toNat:Nat)] (bF wr m) λe w'=>e=aw (.bool (isLet (ji s k)))∧w'=bF wr m:=λm=>(Mp _ _).mono λ_ _ x=>⟨by rw[x.1,mv M],x.2.symm⟩;have F:∀m,aB prog 150 #[.int .u8 ((s[k]).toNat:Nat)] (bF wr m) λe w'=>e=aw (.bool (lK (ji s k)))∧w'=bF wr m:=λm=>(sP _ _).mono λ_ _ x=>⟨by rw[x.1,mv M],x.2.symm⟩;cases hl:isLet (ji s k) with
   |true=>
    rw[hl] at z;have L:tW (ji s k)=aK:=by simp[tW,hl]
    go_wp2;go_quiet((go_at_call 149;exact eN (z _)))
    go_wp2;refine⟨⟨k+1,?_,(uJ M L).symm.trans R,eH (Q.drewN _) _ _⟩,?_⟩
    .have:=(t.drewN nq).step (k:=k+1) bO;simpa using this
    .have L:=((t.drewN nq).step (k:=k+1) bO).c2;grind[aG]
   |false=>
    rw[hl] at z;cases T:lK (ji s k) with
    |true=>
     rw[T] at F;have L:tW (ji s k)=aK:=by simp[tW,T]
     go_wp2;go_quiet((first|(go_at_call 149;exact eN (z _))|(go_at_call 150;exact eN (F _))))
     go_wp2;refine⟨⟨k+1,?_,(uJ M L).symm.trans R,eH (Q.drewN _) _ _⟩,?_⟩
     .have:=(t.drewN nq).step (k:=k+1) bO;simpa using this
     .have L:=((t.drewN nq).step (k:=k+1) bO).c2;grind[aG]
    |false=>
     rw[T] at F;have L:tW (ji s k)=aL:=by simp[tW,hl,T]
     go_wp2;go_quiet((first|(go_at_call 149;exact eN (z _))|(go_at_call 150;exact eN (F _))))
     go_wp2;have y:kK s i=k:=R.symm.trans (rQ λx=>by have:=x.2;rw[L] at this;cases this);have B:i<=k:=y▸wM s i;have U:=(t.drewN nq).c2;have f:∀m,dV r w (bF wr m):=λm=>dR Q m;have j:=t.drewN;have hz:=pM B t.le;have q:=ext_nil B t.le;by_cases O:i=k
     .subst O;have b:gX s i=aK:=by rw[gX,y];simp
      have o:=q.2 rfl;go_quiet(fail)
      go_wp2_with(go_at_call 60;refine(jk _ _ _).mono ?_;rintro e E ⟨rfl,rfl⟩);exact⟨rfl,f _,cB ⟨b,rfl,_,j _⟩⟩
     have o:¬(s.extract i k).toList=[]:=λx=>O (q.1 x);have D:0<(s.extract i k).size:=bO
     have C:∀h:0<(s.extract i k).size,((s.extract i k)[0]'h).toNat=ji s i:=λh=>by rw[acE bO P h];exact mv bO
     by_cases V:6<k-i
     .have b:gX s i=aK:=by simp[gX,y,V]
      have u:(6:Int)<(s.extract i k).size:=bO
      go_quiet(fail)
      go_wp2_with(go_at_call 60;refine(jk _ _ _).mono ?_;rintro e E ⟨rfl,rfl⟩);exact⟨rfl,f _,cB ⟨b,rfl,_,j _⟩⟩
     have u:¬(6:Int)<(s.extract i k).size:=bO
     cases G:lK (ji s i) with
     |true=>
      have b:gX s i=aK:=by simp[gX,G]
      go_quiet(fail);have d:∃N,s.extract i k=N:=⟨_,rfl⟩
      obtain⟨N,d⟩:=d;rw[d] at hz o D C u⊢
      go_wp2_with(first|(go_at_call 150;refine(sP _ _).mono ?_;rintro e E ⟨A,rfl⟩;rw[G] at A;subst A)|(go_at_call 60;refine(jk _ _ _).mono ?_;rintro e E ⟨rfl,rfl⟩));exact⟨rfl,f _,cB ⟨b,rfl,_,j _⟩⟩
     |false=>
      have b:gX s i=aL:=by simp[gX,y,G];omega
      have J:(s.extract i k).toList.isEmpty=aL:=by cases Y:(s.extract i k).toList with|nil=>exact absurd Y o|cons a l=>rfl
      have X:¬(6:Int)<((k-i:Nat):Int):=bO
      go_quiet(fail);have d:∃N,s.extract i k=N:=⟨_,rfl⟩
      obtain⟨N,d⟩:=d;rw[d] at hz o D C u J⊢
      go_wp2_with(first|(go_at_call 150;refine(sP _ _).mono ?_;rintro e E ⟨A,rfl⟩;rw[G] at A;subst A)|(go_at_call 58;refine(vO (j _)).mono ?_;rintro e E ⟨rfl,I,H⟩));go_ret;refine⟨gQ (f _) H,cI ⟨b,?_,by rw[y];exact I⟩⟩;rw[y,d];rfl
  have Z:aM ((k:Int)<s.size)=aL:=cP bO
  go_wp2;go_quiet(fail)
  go_wp2;have y:kK s i=k:=R.symm.trans (rQ λx=>M x.1);have B:i<=k:=y▸wM s i;have U:=(t.drewN nq).c2;have f:∀m,dV r w (bF wr m):=λm=>dR Q m;have j:=t.drewN;have hz:=pM B t.le;have q:=ext_nil B t.le;by_cases O:i=k
  .subst O;have b:gX s i=aK:=by rw[gX,y];simp
   have o:=q.2 rfl;go_quiet(fail)
   go_wp2_with(go_at_call 60;refine(jk _ _ _).mono ?_;rintro e E ⟨rfl,rfl⟩);exact⟨rfl,f _,cB ⟨b,rfl,_,j _⟩⟩
  have o:¬(s.extract i k).toList=[]:=λx=>O (q.1 x);have D:0<(s.extract i k).size:=bO
  have C:∀h:0<(s.extract i k).size,((s.extract i k)[0]'h).toNat=ji s i:=λh=>by rw[acE bO P h];exact mv bO
  by_cases V:6<k-i
  .have b:gX s i=aK:=by simp[gX,y,V]
   have u:(6:Int)<(s.extract i k).size:=bO
   go_quiet(fail)
   go_wp2_with(go_at_call 60;refine(jk _ _ _).mono ?_;rintro e E ⟨rfl,rfl⟩);exact⟨rfl,f _,cB ⟨b,rfl,_,j _⟩⟩
  have u:¬(6:Int)<(s.extract i k).size:=bO
  cases G:lK (ji s i) with
  |true=>
   have b:gX s i=aK:=by simp[gX,G]
   go_quiet(fail);have d:∃N,s.extract i k=N:=⟨_,rfl⟩
   obtain⟨N,d⟩:=d;rw[d] at hz o D C u⊢
   go_wp2_with(first|(go_at_call 150;refine(sP _ _).mono ?_;rintro e E ⟨A,rfl⟩;rw[G] at A;subst A)|(go_at_call 60;refine(jk _ _ _).mono ?_;rintro e E ⟨rfl,rfl⟩));exact⟨rfl,f _,cB ⟨b,rfl,_,j _⟩⟩
  |false=>
   have b:gX s i=aL:=by simp[gX,y,G];omega
   have J:(s.extract i k).toList.isEmpty=aL:=by cases Y:(s.extract i k).toList with|nil=>exact absurd Y o|cons a l=>rfl
   have X:¬(6:Int)<((k-i:Nat):Int):=bO
   go_quiet(fail);have d:∃N,s.extract i k=N:=⟨_,rfl⟩
   obtain⟨N,d⟩:=d;rw[d] at hz o D C u J⊢
   go_wp2_with(first|(go_at_call 150;refine(sP _ _).mono ?_;rintro e E ⟨A,rfl⟩;rw[G] at A;subst A)|(go_at_call 58;refine(vO (j _)).mono ?_;rintro e E ⟨rfl,I,H⟩));go_ret;refine⟨gQ (f _) H,cI ⟨b,?_,by rw[y];exact I⟩⟩;rw[y,d];rfl
