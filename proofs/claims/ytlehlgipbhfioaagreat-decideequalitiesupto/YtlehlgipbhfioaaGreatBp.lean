import Derived.Test.YtlehlgipbhfioaaGreatBm
import Derived.Shelf.Strings.BuilderK
namespace Go.Proofs.YtlehlgipbhfioaaGreat
set_option maxHeartbeats 3000000
set_option maxRecDepth 100000
set_option linter.all false
open Go.RowKit Go.Maps Go.Proofs.Tryz
open Go.Value renaming slice->aj,pointer->ak,ownBlock->aP
open Go.Obj renaming cells->aq
open Go.Ending renaming returned->aw
open Option renaming some->ah,none->ai
open Go.Act renaming eval->bq
open Go.RowKit renaming Below->aC
open Go.World renaming alloc->bC,cell?->aU
open Go renaming World->ay,Value->aA
open List renaming length->bB
variable{w w':ay}{base p nb fb:Nat}{ev:aA}{l:List Tm}
theorem Bk.blocks(h:Bk w base p ev nb fb l)(hp:w'.heap[p]?=w.heap[p]?)(z:w'.heap[nb]?=w.heap[nb]?)(y:w'.heap[fb]?=w.heap[fb]?)(x:∀k,aP ev=ah k->w'.heap[k]?=w.heap[k]?):Bk w' base p ev nb fb l:=by
 let⟨Dn,⟨es,i,A,B,C,D⟩,E,F⟩:=h.lF;let⟨g,⟨f,c,o,q,r,s⟩,u,v⟩:=h.om;refine⟨h.kE.of_block hp,⟨h.rows.1,?_⟩,⟨Dn,⟨es,i,z.trans A,B,C,D⟩,E,F⟩,⟨g,⟨f,c,y.trans o,q,r,s⟩,u,v⟩,h.yr,h.nodup,h.pn,h.pf,h.nf,h.ep,h.en,h.ef,h.bp,h.bn,h.bf,h.small⟩;obtain e|⟨b,a,d,e,j,m,n⟩:=h.rows.2
 .exact cB e
 exact cI ⟨b,a,d,e,j,(x b (by rw[e];rfl)).trans m,n⟩
structure Low(B p:Nat)(ev:aA)(nb fb:Nat):Prop where
 p:p<B
 n:nb<B
 f:fb<B
 e:∀k,aP ev=ah k->k<B
theorem Bk.low(h:Bk w base p ev nb fb l):Low w.heap.size p ev nb fb:=by
 let⟨Dn,i,_,_⟩:=h.lF;let⟨j,g,_,_⟩:=h.om;refine⟨h.kE.lt,gw i,gw g,λk e=>?_⟩;obtain⟨a,m⟩|⟨b,c,d,a,n,f⟩:=h.rows.2
 .rw[a] at e;simp[aP] at e
 grind[aP]
def Bk.below{B:Nat}(h:Bk w base p ev nb fb l)(L:Low B p ev nb fb)(a:aC B w w'):Bk w' base p ev nb fb l:=
 h.blocks (a.block _ L.p) (a.block _ L.n) (a.block _ L.f) λk e=>a.block k (L.e k e)
theorem aaL(x k:Nat)(h:k<=4)(w:ay):(Instr.sliceAt 96 (ak (ah (az x 2))) ai (ah (iz k)) ai).run prog w=.ok (aj (ah (az x 2)) k 4) w:=by obtain rfl|rfl|rfl|rfl|rfl:=(by omega:k=0∨k=1∨k=2∨k=3∨k=4)<;>kernel_rfl
variable{t:Tm}
theorem Boxed.arg{b:Nat}(h:Boxed w b t){k:Nat}(a:k<4):aU w ⟨b,2+k,ai⟩=ah (iz (t.arg k:Int)):=by rw[dU h (i:=2+k) bO];obtain rfl|rfl|rfl|rfl:=(by omega:k=0∨k=1∨k=2∨k=3)<;>rfl
def qZ(l:List Nat):List aA:=l.map λx:Nat=>Value.int .i64 x
theorem Kh(l):bB (qZ l)=bB l:=by simp[qZ]
theorem Wz(l):∀u∈qZ l,u.oneCell'=true:=by intro u b;simp[qZ] at b;obtain⟨a,_,rfl⟩:=b;rfl
def Z9:(prog.info? 3).map (λi=>(i.zero,i.size,i.bytes))=ah (ah (iz 0),1,8):=bV
theorem Nc{x:Nat}(h:Boxed w x t)(c:bB t.args<=4):∀j u,(qZ t.args)[j]?=ah u->aU w ((az x 2:Addr).add j)=ah u:=by
 intro j u a;have b:j<bB t.args:=by have:=(bU.1 a).1;rwa[Kh] at this
 have:=h.arg (k:=j) bO;grind[qZ,Tm.arg,Addr.add]
theorem gU{e:TypeId}{size:Nat}{v:aA}{n:Nat}{g:List aA}(h:w.ownsRow base e size v n g):∃a c,v=aj a n c:=by
 obtain⟨rfl,i⟩|⟨b,d,f,rfl,_⟩:=h.2
 .grind
 exact⟨_,d,rfl⟩
def ZJ(w:ay)(t:Tm)(e:Ending)(w':ay):Prop:=∃v,e=aw (.tuple #[.agg #[.string t.name,v],.bool true])∧w'.ownsRow w.heap.size 3 1 v (bB t.args) (qZ t.args)∧aC w.heap.size w w'
theorem D7(h:Bk w base p ev nb fb l)(n:Nat)(t:Tm)(I:l[n]?=ah t):
  Calls prog 36 #[pz p,iz n] w (ZJ w t):=by
 have F:n<bB l:=(bU.1 I).1;have G:=h.yr t (cH I);have O:aC w.heap.size w (bC w (aq #[.string ⟨#[]⟩,aj ai 0 0] 102)):=(cW _ w).alloc (bT _) _;have C:=h.below h.low O;have s:=XE C n;rw[lN F] at s;have P:=ey w #[.string ⟨#[]⟩,aj ai 0 0] 102;have A:(bC w (aq #[.string ⟨#[]⟩,aj ai 0 0] 102)).heap.size=w.heap.size+1:=bQ
 generalize Y:bC w (aq #[.string ⟨#[]⟩,aj ai 0 0] 102)=r at *;have c0:=C.c0;obtain⟨g,W,rfl,c⟩:=C.at I;have g0:aU r ⟨g,n*6,ai⟩=ah (.string t.name):=c 0 _ rfl;have g1:=c 1 _ rfl;have g2:=c 2 _ rfl;have g3:=c 3 _ rfl;have g4:=c 4 _ rfl;have g5:=c 5 _ rfl;have y:=G.args;go_enter func36,ntmps36
 go_wp2_with(go_at_call 65;refine s.mono ?_;rintro e f ⟨rfl,rfl⟩);have k:=vN r t;have D:(gu t).toArray=#[.string t.name,iz (bB t.args),iz (t.arg 0:Int),iz (t.arg 1:Int),iz (t.arg 2:Int),iz (t.arg 3:Int)]:=rfl;have B:dG r (bC r (aq (gu t).toArray 152)):=dD (bW _ r) _;rw[D] at k B;generalize bC r (Obj.cells #[.string t.name,iz (bB t.args),iz (t.arg 0:Int),iz (t.arg 1:Int),iz (t.arg 2:Int),iz (t.arg 3:Int)] 152)=f at *;have Q:=du P (B.block w.heap.size (dO P) λe=>e);rw[A] at k;have H:=B.size;rw[A] at H;have y0:=k.c0;have y1:=k.c1;have SL:=aaL (w.heap.size+1) (bB t.args) y;have v:∀j u,(qZ t.args)[j]?=ah u->aU f.drew ((⟨w.heap.size+1,2,ai⟩:Addr).add j)=ah u:=Nc (du k rfl:Boxed f.drew (w.heap.size+1) t) y;let⟨Z,E,J,L,M⟩:=eB Z9;go_region_law(refine fe rfl (.const (aj ai 0 0)) (.tmp 24) 39 rfl w.heap.size 3 Z _ 1 8 underlying39 E J L M rfl bS (aj ai 0 0) 0 [] (by simp[bq]) (by exact eR _ _ _ _) ⟨w.heap.size+1,2,ai⟩ (bB t.args) 4 (qZ t.args) (by simp[bq,Act.put]) (by simp[Kh]) (by exact v) (Wz _) cJ bO (by exact(by omega:w.heap.size<=f.heap.size)) ?_;intro v' N d b z;obtain⟨o,q,rfl⟩:=gU d;have x:=du (du Q rfl:f.drew.rowIs w.heap.size 102 _ _) (b.block w.heap.size (dO Q) (by simp[aP]));have b4:Boxed N (w.heap.size+1) t:=du (du k rfl:Boxed f.drew (w.heap.size+1) t) (b.block (w.heap.size+1) (dO k) (by simp[aP]));have aa:=b4.c0;have q0:=dU x (i:=0) bQ;have q1:=dU x (i:=1) bQ;have p0:=cA x 0;have p1:=cA x 1);all_goals
  have T:aC w.heap.size w N:=(O.trans (pA B bO λ_ e=>e.elim)).drew.grown b (by exact(by omega:w.heap.size<=f.heap.size)) (by simp[aP]);have m:aP (Value.slice o (0+bB t.args) q)≠ah w.heap.size:=by
   obtain e|e:=z
   .rw[e];simp[aP]
   intro X;have h1:f.heap.size<=w.heap.size:=e _ X;omega
  go_wp2;rw[fM] at d m;have R:=jf (jf x 0 (.string t.name)) 1 (aj o (bB t.args) q);have V:=fR (a:=az w.heap.size 1) (fR (a:=az w.heap.size 0) d m (.string t.name)) m (aj o (bB t.args) q);have U:=(T.setCell (p:=az w.heap.size 0) (bT _) (.string t.name)).setCell (p:=az w.heap.size 1) (bT _) (aj o (bB t.args) q);generalize(N.setCell (az w.heap.size 0) (.string t.name)).setCell (az w.heap.size 1) (aj o (bB t.args) q)=S at *;have z0:cz S w.heap.size 0 (.string t.name):=dU R (i:=0) bQ;have z1:cz S w.heap.size 1 (aj o (bB t.args) q):=dU R (i:=1) bQ;refine⟨rfl,.tuple #[.agg #[.string t.name,aj o (bB t.args) q],.bool true],by simp[results,results36,go_sem,z0,z1],_,rfl,?_,U⟩;simpa using V
