import Derived.Test.YtlehlgipbhfioaaGreatBe
import Derived.RangeFuncNested
import Derived.RangeFuncBound
import Derived.Shelf.RegionOpen
import Derived.OwnWalkIn
import Derived.LoopNIn
import Derived.LoopIn
namespace Go.Proofs.YtlehlgipbhfioaaGreat
set_option maxHeartbeats 2000000
set_option maxRecDepth 100000
set_option linter.all false
open Go.RowKit Go.Shelf Go.Proofs.Tryz
open Go.Value renaming int->ae,slice->aj,pointer->ak,ownBlock->aP
open Go.IntKind renaming i64->af
open Go.Obj renaming cells->aq
open Go.Ending renaming returned->aw
open Option renaming some->ah,none->ai
open Bool renaming true->aK,false->aL
open Go.RowKit renaming Below->aC
open Go.World renaming alloc->bC,setCell->aW,cell?->aU,rowIs->bE
open Go renaming TypeId->aE,CallsIn->bA,Calls->aB,World->ay,Value->aA,undef->aF
open Decidable renaming decide->aM
open List renaming length->bB
attribute [local go_sem] ij
theorem zX(F:Fence)(n)(d:F.fn 114)(b:F.round=ai)(a len cap w):
  bA F n prog 114 #[aj a len cap] w λe w'=>e=aw (.func (.func 154) #[] #[pz w.heap.size])∧w'=bC w (aq #[aj a len cap] 146):=by
 refine qw func114 rfl d ?_ b;simp only[ntmps114,fU,ed,dQ,Nat.reduceAdd,Nat.reduceSub,fP,fO,gr,fV,ff,eU]
 gi_wp2
 go_ret;exact⟨rfl,rfl⟩
def Down(len:Nat)(pre:List {i:Nat // i<len}):Prop:=∀r (h:r<bB pre),(pre[r]).1+r+1=len
theorem Down.nil(len):Down len []:=λr h=>by simp at h
def abT:=@Down.nil
variable{len n₀ nb B n base p jb cap Bp m B' l gf:Nat}
theorem Down.snoc{pre:List {i:Nat // i<len}}(h:Down len pre)(x:{i:Nat // i<len})(c:x.1+bB pre+1=len):Down len (pre++[x]):=by
 intro r b;by_cases e:r<bB pre
 .rw[mQ e];exact h r e
 grind
abbrev EW(n₀ nb:Nat)(w w':ay):Prop:=bI (λk=>k=nb∨n₀<=k) w w'
def Zk(js:Nat->Nat×Nat)(x:Nat):Array aA:=#[ae af x,.agg #[ae af ((js x).1:Int),ae af ((js x).2:Int)]]
theorem WZ(F:Fence)(n)(U:F.fn 154)(H:F.round=ai)(hn:1<=n)(l){h}(n₀ nb){b}(d){len}(cap)(y:Nat->Nat×Nat)(z:len<=100000)(hb:b<n₀)(hB:h<n₀)(aa:b≠nb)(V:h≠nb)(J M:List {i:Nat // i<len}->ay->Prop)(hY:∀pre x W,J pre W->bB pre<len->YieldAt F (n-1) prog l (Zk y x.1) W λe W'=>
   (e=aw (.bool aK)∧J (pre++[x]) W'∧EW n₀ nb W W')∨(e=aw (.bool aL)∧M (pre++[x]) W')){W}(ab:n₀<=W.heap.size)(C:cz W h 0 (aj (ah (az b d)) len cap))(hc:∀j,j<len->aU W ⟨b,d+j*2,ai⟩=ah (iz ((y j).1:Int))∧aU W ⟨b,d+j*2+1,ai⟩=ah (iz ((y j).2:Int)))(T:J [] W):
  bA F n prog 154 #[.func (.yield l) #[] #[],pz h] W λe W'=>(∃v,e=aw v)∧
   ((∃I,(Down len I∧bB I=len)∧J I W')∨(∃pre,True∧M pre W')):=by
 refine qw func154 rfl U ?_ H;simp only[ntmps154,fU,ed,dQ,Nat.reduceAdd,Nat.reduceSub,fP,fO,gr,fV,ff,eU]
 gi_wp2
 gi_loopw [3] (λi wr=>∃pre:List {i:Nat // i<len},bB pre<=len∧Down len pre∧i=iz ((len:Int)-1-bB pre)∧J pre wr∧EW n₀ nb W wr)
  (λi _=>(intOf i+1).toNat)
 case atStart=>exact⟨[],dt _,Down.nil _,by simp,T,bW _ _⟩
 case round=>
  obtain⟨pre,hp,O,rfl,r,f⟩:=hrel;have N:cz wr h 0 (aj (ah (az b d)) len cap):=(cL (a:=az h 0) (f.block h bO bO)).trans C;by_cases G:bB pre<len
  .obtain⟨k,hk⟩:∃k:Nat,k+bB pre+1=len:=⟨len-1-bB pre,by omega⟩
   have q:k<len:=bO
   let⟨fn,R,assign,body,hy,hR⟩:=hY pre ⟨k,q⟩ wr r G;have A:((len:Int)-1-bB pre)=(k:Int):=bO
   rw[A];have u:=hc k q;have c1:aU wr ⟨b,d+k*2,ai⟩=ah (iz ((y k).1:Int)):=(cL (a:=⟨b,d+k*2,ai⟩) (f.block b bO bO)).trans u.1;have c2:aU wr ⟨b,d+k*2+1,ai⟩=ah (iz ((y k).2:Int)):=(cL (a:=⟨b,d+k*2+1,ai⟩) (f.block b bO bO)).trans u.2;have L:Hid (k+bB pre+1=len):=hk;unfold Zk at hy
   gi_wp2
   refine hR.mono ?_;rintro e W3 (⟨rfl,D,E⟩|⟨rfl,s⟩)
   .gi_wp2
    go_roundw
    case rel=>exact⟨pre++[⟨k,q⟩],by simp;omega,O.snoc _ L.out,by have:=L.out;simp;omega,D,f.trans (E.mono λx _ hx=>hx)⟩
    case measure=>simp[intOf]
   gi_wp2
   refine bodyPost_ret (vX rfl _ _ _) rfl ?_;exact⟨⟨_,rfl⟩,.inr ⟨_,trivial,s⟩⟩
  have A:((len:Int)-1-bB pre)=-1:=bO
  rw[A];have S:Hid (bB pre=len):=by show bB pre=len;omega
  gi_wp2
  go_end0
  exact⟨⟨_,rfl⟩,.inl ⟨_,⟨O,S.out⟩,r⟩⟩
theorem Sa(F:Fence)(n)(j:F.fn 154)(d:F.round=ai)(l){f}(J:List {i:Nat // i<0}->ay->Prop){W}(k:cz W f 0 (aj ai 0 0))(h:J [] W):
  bA F n prog 154 #[.func (.yield l) #[] #[],pz f] W λe W'=>(∃v,e=aw v)∧J [] W':=by
 refine qw func154 rfl j ?_ d;simp only[ntmps154,fU,ed,dQ,Nat.reduceAdd,Nat.reduceSub,fP,fO,gr,fV,ff,eU]
 gi_wp2
 gi_loopw [3] (λi wr=>i=iz (-1)∧J [] wr) λ_ _=>0
 case atStart=>exact⟨rfl,h⟩
 case round=>
  obtain⟨rfl,b⟩:=hrel
  gi_wp2
  go_end0
  exact⟨⟨_,rfl⟩,b⟩
def vR(n₀ nb:Nat)(W:ay)(sv:aA)(len:Nat)(js:Nat->Nat×Nat):Prop:=
 (sv=aj ai 0 0∧len=0)∨∃b off cap,sv=aj (ah ⟨b,off,ai⟩) len cap∧b<n₀∧b≠nb∧
  ∀j,j<len->aU W ⟨b,off+j*2,ai⟩=ah (ae af ((js j).1:Int))∧aU W ⟨b,off+j*2+1,ai⟩=ah (ae af ((js j).2:Int))
theorem vR.below{A B:ay}(h:aC n₀ A B){k:aA}{i:Nat->Nat×Nat}:vR n₀ nb A k len i->vR n₀ nb B k len i
 | .inl e=>.inl e
 | .inr ⟨b,off,cap,e,c,q,d⟩=>.inr ⟨b,off,cap,e,c,q,λj f=>⟨(h.cell (p:=⟨b,off+j*2,ai⟩) c).trans (d j f).1,(h.cell (p:=⟨b,off+j*2+1,ai⟩) c).trans (d j f).2⟩⟩
theorem vf(F:Fence)(n)(A:F.fn 154)(j:F.round=ai)(O:1<=n)(d n₀ nb C len)(v:Nat->Nat×Nat)(c:len<=100000)(w)(q:d<n₀)(k:d≠nb)(h:n₀<=w.heap.size)(L:cz w d 0 C)(G:vR n₀ nb w C len v):
  SeqStopsK F n prog 154 #[pz d] (λx:{i:Nat // i<len}=>Zk v x.1) (EW n₀ nb) (λD=>Down len D∧bB D=len) (λ_=>True) len w:=λl J E W r _ _ H z=>by
 have f:=(r.cell (p:=az d 0) (by show d<_;omega)).trans L;obtain⟨rfl,rfl⟩|⟨b,y,cap,rfl,I,s,u⟩:=G.below (r.mono h)
 .exact(Sa F n A j l J f z).mono λe W' ⟨M,N⟩=>⟨M,.inl ⟨[],⟨Down.nil _,rfl⟩,N⟩⟩
 exact WZ F n A j O l n₀ nb y cap v c I q s k J E H (bZ h r.size) f u z
attribute [local go_sem] ij
def Z0(g:Uf.G)(j:Nat):Int:=if j % 4=0 then((g.N (j / 4)).par:Int) else if j % 4=1 then((g.N (j / 4)).IQ:Int) else if j % 4=2 then((g.N (j / 4)).sW:Int) else((g.N (j / 4)).rz:Int)
def IV(g j):oT (Z0 g) j=lJ g j:=rfl
variable{W W' W0 w w' X Y Z w0:ay}
theorem vA{b:Nat}{t:aE}{f:Nat->aA}{row:Option Nat}(h:bE W b t n f)(k:W.grownBy W' row)(q:∀r,row=ah r->∃o:Obj,W.heap[r]?=ah o∧o.isCells=aL):bE W' b t n f:=by
 refine h.of_block (k.block b h.lt ?_);intro e;let⟨o,d,j⟩:=q b e.symm;obtain⟨c,i,_⟩:=h;rw[i] at d;cases d
 cases j
theorem Qv(b:List (Nat×Nat)):∀i,i<bB b->(kZ b)[i*2]?=ah (iz ((b[i]?.getD (0,0)).1:Int))∧(kZ b)[i*2+1]?=ah (iz ((b[i]?.getD (0,0)).2:Int)):=by
 induction b with
 |nil=>intro i c;simp at c
 |cons x t d=>
  intro i c;cases i with
  |zero=>simp[kZ]
  |succ i=>grind[kZ]
variable{g:Uf.G}{t:List Uf.Rec}
theorem Mv(h:jT W0 base p nb n g (aj (ah (az jb 0)) (bB t) cap) (Uf.mo t))(m d c:Nat)(u:m<=bB t)(f:m<bB t->d=m*2):
  vR W0.heap.size nb W0 (aj (ah (az jb d)) (bB t-m) c) (bB t-m) (λj=>(Uf.mo t)[m+j]?.getD (0,0)):=by
 have i:=Uf.jN t;have b:=h.iA;rw[i] at b;refine .inr ⟨jb,d,c,rfl,(h.iA.lt jb rfl).2,λe=>h.jn (by rw[e];rfl),λj s=>?_⟩;rw[f bO];have r:=Qv (Uf.mo t) (m+j) bO;have k:=b.cellAt ((m+j)*2) bO;have q:=b.cellAt ((m+j)*2+1) bO;grind
structure Mid(W0:ay)(p nb n Bp len:Nat)(g:Uf.G)(t:List Uf.Rec)(pre:List {i:Nat // i<len})(W:ay):Prop where
 box:bE W Bp 66 1 (λ_=>ak (ah ⟨p,0,ai⟩))
 nodes:∃F:Nat->Int,bE W nb 150 (n*4) (oT F)∧(∀i,i<n->∃q:Nat,q<n∧F (i*4)=(q:Int))∧(Down len pre->∀j,j<n*4->oT F j=lJ (Uf.back g t (bB pre)) j)
 kept:EW W0.heap.size nb W0 W
theorem Oa(W0 p nb n Bp len g t):OwnFrom W0.heap.size (Mid W0 p nb n Bp len g t):=by intro pre A B row hs c d;have b:=λr e=>(d r e).2;let⟨F,f,h,i⟩:=hs.nodes;exact⟨vA hs.box c b,⟨F,vA f c b,h,i⟩,hs.kept.grown c λk e=>cI (d k e).1⟩
theorem DF(h:dV nb W W')(b:nb<B):KeepsFrom B W W':=
 KeepsFrom.of_grownBy h.grownBy λj e=>by cases e;exact b
def Jl(W o):EW n₀ nb W (bC W o):=(bW _ W).alloc o
theorem Oi(c:n₀<=w.heap.size)(W:ay)(l:Nat)(o b:Obj)(hl:w.heap.size<=l)(_:W.heap[l]?=ah o)(_:o.isCells=aL)(_:o.isWalk=aL):EW n₀ nb W (W.putObj l b):=
 (bW _ W).grown (grownBy_putObj' W l b) λk e=>by grind
theorem UG{pre:List {i:Nat // i<len}}(U:Uf.DP n g t)(hn:n<=100000)(O:m+len=bB t)(x:{i:Nat // i<len})(C:Mid W0 p nb n Bp len g t pre W){F A:Nat->Int}{c}(l)(z:((Uf.mo t)[m+x.1]?.getD (0,0))=(c,l.toNat))(hl:0<=l)(R:Down len pre->∀j,j<n*4->oT F j=lJ (Uf.back g t (bB pre)) j)(T:bE W' nb 150 (n*4) (oT A))(I:Cut n F A c l)(N:dV nb W W')(S:Bp≠nb):
  Mid W0 p nb n Bp len g t (pre++[x]) W':=by
 refine⟨C.box.of_block (N.block Bp C.box.lt S),⟨A,T,I.par,?_⟩,C.kept.trans (N.mono λk _ e=>cB e)⟩;intro L;have u:Down len pre:=by intro r v;have:=L r bX;rwa[mQ v] at this
 have aa:x.1+bB pre+1=len:=by simpa using L (bB pre) bQ
 have h:bB pre<bB t:=bO
 have d:=Uf.TJ t (bB pre) h;rw[show bB t-1-bB pre=m+x.1 from by omega] at d;rw[d] at z;simp at z;have D:=Uf.yZ n (bB pre) t g U;rw[dP h] at D;have b:=Uf.EM (bB pre) t g t[bB pre] (bP h);generalize t[bB pre]=y at D b z;obtain⟨r,v,J,q,H,rr,G,f,ht⟩:=D;have s:=Uf.xJ n _ _ ht;have M:=R u;rw[f] at M;rw[cR,eD,b];obtain⟨rfl,E⟩:=z;have V:=s.ZS y.child r J v q H rr;exact I.CF y.Sl r q v (s.FN _ J H) (by rw[<-G,E];omega) bO M
theorem Mw(b m):kZ (b.take m)=(kZ b).take (m*2):=by
 induction b generalizing m with
 |nil=>simp[kZ]
 |cons x t c=>
  cases m with
  |zero=>simp[kZ]
  |succ m=>grind[kZ]
theorem pJ{e:aE}{size L:Nat}{f:List aA}(h:w.ownsRow base e size (aj (ah (az jb 0)) L cap) L f)(s:w'.heap[jb]?=w.heap[jb]?)(u:m<=L):
  w'.ownsRow base e size (aj (ah (az jb 0)) m cap) m (f.take (m*size)):=by
 refine⟨by rw[fB,h.1];simp_all,?_⟩;obtain⟨b,_⟩|⟨g,c,d,b,i,j,v,k,q,r⟩:=h.2
 .cases b
 simp only[fL,fw,oy,sk,mC] at b;obtain⟨rfl,rfl⟩:=b;refine .inr ⟨jb,cap,d,rfl,i,s.trans j,by omega,k,q,?_⟩;rw[<-r,List.take_take,ik (Ha _ u)]
theorem SE{z:List {i:Nat // i<len}}(c:jT W0 base p nb n g (aj (ah (az jb 0)) (bB t) cap) (Uf.mo t))(A:bI (λ_=>False) w W0)(d:Mid W0 p nb n Bp len g t z W)(N:Down len z)(C:bB z=len)(J:m+len=bB t)(D)(M:W0.heap.size<=D):
  jT ((aW W (az p 1) (aj (ah (az jb 0)) m cap)).drew.putObj D (.deferred ai)) base p nb n (Uf.back g t len) (aj (ah (az jb 0)) m cap) (Uf.mo (t.drop len))∧
   bI (gE p nb (aj (ah (az jb 0)) (bB t) cap)) w ((aW W (az p 1) (aj (ah (az jb 0)) m cap)).drew.putObj D (.deferred ai)):=by
 have j:jb<W0.heap.size:=(c.iA.lt jb rfl).2;have q:jb≠p:=λe=>c.jp (by rw[e];rfl);have v:jb≠nb:=λe=>c.jn (by rw[e];rfl);have s:=c.ie.lt;have y:=c.nodes.lt;have u:=grownBy_putObj' (aW W (az p 1) (aj (ah (az jb 0)) m cap)).drew D (.deferred ai);have hz:(aW W (az p 1) (aj (ah (az jb 0)) m cap)).drew.heap.size=W.heap.size:=aeA
 have I:=d.kept.size;have fY:∀k,k<W0.heap.size->((aW W (az p 1) (aj (ah (az jb 0)) m cap)).drew.putObj D (.deferred ai)).heap[k]?=(aW W (az p 1) (aj (ah (az jb 0)) m cap)).heap[k]?:=λk r=>u.block k (by rw[hz];omega) (λe=>by cases e;omega)
 have E:bE W p 148 2 (tM nb n (aj (ah (az jb 0)) (bB t) cap)):=c.ie.of_block (d.kept.block p s (by have:=c.ne;omega));let⟨F,G,_,L⟩:=d.nodes;have f:bI (gE p nb (aj (ah (az jb 0)) (bB t) cap)) w W:=
  (A.mono λ_ _ e=>e.elim).trans (b:=W0) ⟨d.kept.os,d.kept.tape,d.kept.output,d.kept.size,λk r hs=>d.kept.block k r λe=>by omega⟩
 refine⟨⟨?_,?_,?_,c.ne,?_,?_,c.bp,c.bn,c.small⟩,?_⟩
 .refine((E.set 1 _).of_block (fY p s)).congr ?_;grind[tM]
 .refine((G.setOther (j5 c.ne) _).of_block (fY nb y)).congr ?_;grind
 .have H:=Uf.jN t;rw[Uf.jN,tH,show bB t-len=m from by omega,Uf.PI,show bB t-len=m from by omega,Mw];have h:=c.iA;rw[H] at h;refine pJ h ?_ bO;rw[fY jb j];exact(cO _ _ _ _ q).trans (d.kept.block jb j bO)
 .simpa[aP] using q
 .simpa[aP] using v
 refine⟨?_,?_,?_,?_,?_⟩
 .exact u.os.trans f.os
 .exact u.tape.trans f.tape
 .exact u.output.trans f.output
 .exact bZ f.size aeA
 intro k r hs;have x:k<W0.heap.size:=cQ r A.size;rw[fY k x];exact(cO _ _ _ _ λe=>hs (cB e)).trans (f.block k r hs)
theorem ZI{w}{base p nb n}{g}(t){jb}(cap)(h:jT w base p nb n g (aj (ah (az jb 0)) (bB t) cap) (Uf.mo t))(O:Uf.DP n g t)(m)(hm:m<=bB t):
  bA .wide 6 prog 74 #[pz p,iz m] w λe w'=>e=aw (.bool aK)∧
   jT w' base p nb n (Uf.back g t (bB t-m)) (aj (ah (az jb 0)) m cap) (Uf.mo (t.drop (bB t-m)))∧bI (gE p nb (aj (ah (az jb 0)) (bB t) cap)) w w':=by
 have hL:=Uf.jN t;have c1:=h.c1;refine callsIn_of_wp_marks func74 rfl trivial ?_ rfl;simp only[ntmps74,fU,ed,dQ,Nat.reduceAdd,Nat.reduceSub,fP,fO,gr,fV,ff,eU];have hn:=h.small;have G:=Uf.xJ n t g O;have a1:=G.FR;have q:bB t<=cap∧cap<=maxLen:=by
  obtain⟨e,_⟩|⟨b,c,aa,e,_,_,h1,h2,_⟩:=h.iA.2
  .cases e
  grind
 unfold maxLen at q;obtain⟨ab,ac⟩:=q;have ad:aM ((m:Int)<0)=aL:=bQ
 have ag:aM ((bB t:Int)<m)=aL:=bX
 have al:¬bB t<m:=bO
 have a2:=h.ie.lt;obtain⟨d,E,a0⟩:∃d,(m<bB t->d=m*2)∧∀W,(Instr.slice 146 (aj (ah (az jb 0)) (bB t) cap) (ah (iz m)) ai ai).run prog W=.ok (aj (ah (az jb d)) (bB t-m) (cap-m)) W:=by
  refine⟨if cap=m then 0 else m*2,λT=>cC bO,λW=>?_⟩;have U:(sizeOf 220).run prog W=.ok 2 W:=by let⟨i0,S,_,V,_⟩:=eB Jw;simp[sizeOf,typeInfo,S,V]
  rw[run_slice_l W 146 _ _ _ bV .i64 (m:Int) bO bO];rw[show prog.elem 146=220 from by kernel_rfl,U];grind[Result.andThen,sliced,Addr.add]
 have r:Hid (m<bB t->d=m*2):=E;have HL:Hid (bB (Uf.mo t)=bB t):=hL
 gi_wp2_with fail
 refine⟨trivial,(gi.2 (AZ (h.alloc _))).mono ?_⟩;rintro e w' ⟨rfl,rfl⟩;rw[HL.out]
 gi_wp2_with fail
 refine⟨trivial,(zX .wide _ trivial rfl _ _ _ _).mono ?_⟩;rintro e w' ⟨rfl,rfl⟩
 gi_wp2_with fail
 have ap:=h.nodes.lt;have ao:=h.ne;have s:=(h.alloc (aq #[pz p] 66)).alloc (aq #[aj (ah (az jb d)) (bB t-m) (cap-m)] 146);have K2:bI (λ_=>False) w (bC (bC w (aq #[pz p] 66)) (aq #[aj (ah (az jb d)) (bB t-m) (cap-m)] 146)):=((bW _ w).alloc _).alloc _;have B2:bE (bC (bC w (aq #[pz p] 66)) (aq #[aj (ah (az jb d)) (bB t-m) (cap-m)] 146)) w.heap.size 66 1 (λ_=>pz p):=by
  refine((ey w #[pz p] 66).congr ?_).alloc _;intro i R;obtain rfl:i=0:=by simpa using R
  rfl
 have S2:aU (bC (bC w (aq #[pz p] 66)) (aq #[aj (ah (az jb d)) (bB t-m) (cap-m)] 146)) ⟨w.heap.size+1,0,ai⟩=ah (aj (ah (az jb d)) (bB t-m) (cap-m)):=aeA
 have Z2:(bC (bC w (aq #[pz p] 66)) (aq #[aj (ah (az jb d)) (bB t-m) (cap-m)] 146)).heap.size=w.heap.size+2:=bQ
 generalize(bC (bC w (aq #[pz p] 66)) (aq #[aj (ah (az jb d)) (bB t-m) (cap-m)] 146))=W0 at *;have J:vR W0.heap.size nb W0 (aj (ah (az jb d)) (bB t-m) (cap-m)) (bB t-m) (λj=>(Uf.mo t)[m+j]?.getD (0,0)):=
  Mv s m d (cap-m) hm r.out
 refine wpIn_rangeFunc_ownH rfl bO (gf:=154) (lb:=#[ak (ah ⟨w.heap.size+1,0,ai⟩)]) rfl trivial (enters_of func154 bV rfl)
  (vf .wide 5 trivial rfl bO (w.heap.size+1) W0.heap.size nb _ (bB t-m) (λj=>(Uf.mo t)[m+j]?.getD (0,0)) bO W0 bO bO (bT _) S2 J)
  (λa b=>a.trans (b.mono λk _ y=>y)) (Oi (bT _)) (cW _ _) (λ_=>rfl)
  (Mid W0 p nb n w.heap.size (bB t-m) g t) (λ_ _ _=>False) (Oa W0 p nb n w.heap.size (bB t-m) g t) (λ_ _ _ _ _ hs _ _=>hs)
  ?start (λx I W=>∃H,bE W H 220 2 (λj=>if j=0 then iz (((Uf.mo t)[m+x.1]?.getD (0,0)).1:Int) else iz (((Uf.mo t)[m+x.1]?.getD (0,0)).2:Int))∧∃v6 v24 v25,I={tmps:=#[pz p,iz m,pz w.heap.size,aF,.bool aL,aF,pz H,
     iz m,.bool aL,.bool aL,iz m,pz p,iz (bB t),.bool aL,.bool aL,pz p,.bool aL,pz p,pz p,ak (ah (az p 1)),
     aj (ah (az jb 0)) (bB t) cap,iz m,aj (ah (az jb d)) (bB t-m) (cap-m),.func (.func 154) #[] #[ak (ah ⟨w.heap.size+1,0,ai⟩)],v24,v25,v6,aF,aF,aF,aF,aF,aF,aF,aF,aF,aF,aF],defers:=[]}) ?hAx ?assign ?body ?done ?stop
 case start=>refine⟨B2,⟨Z0 g,s.nodes,λi R=>⟨(g.N i).par,G.Ug i R,?_⟩,λ_ j _=>by simp[Uf.back,IV]⟩,bW _ _⟩;have:=lu g i;rw[<-IV] at this;simpa[oT] using this
 case hAx=>rintro x I _ A B row ⟨H,b1,v6,v24,v25,rfl⟩ hg hr;grind[vA]
 case assign=>
  rintro l pre x W K f L;simp only[Zk]
  gi_wp2
  exact L _ _ ((KeepsOthers.alloc _ _).from _) (Jl W _) ((Oa W0 p nb n w.heap.size (bB t-m) g t).alloc _ f) ⟨W.heap.size,AW W _ _ _,_,_,_,rfl⟩
 case body=>
  rintro l pre x I W hl _ f ⟨H,u,v6,v24,v25,rfl⟩ T;let⟨F,f1,f2,f3⟩:=f.nodes;have v:((Uf.mo t)[m+x.1]?.getD (0,0)).1<n:=Uf.LY n t g O _ bO;have d0:cz W w.heap.size 0 (pz p):=f.box.cell bO;have d1:=u.cell (i:=0) bO;have d2:=u.cell (i:=1) bO;have d3:cz W p 0 (aj (ah (az nb 0)) n n):=(cL (a:=az p 0) (f.kept.block p bO bO)).trans s.c0;obtain⟨c,N⟩:=bJ (((Uf.mo t)[m+x.1]?.getD (0,0)).1);obtain⟨le,z⟩:=bJ (((Uf.mo t)[m+x.1]?.getD (0,0)).2);rw[N] at v;rw[cY rfl,N] at d1;rw[cC bO,z] at d2;have HX:Hid ((Uf.mo t)[m+x.1]?.getD (0,0)=(c,(le:Int).toNat)):=by show _=_;rw[<-N,<-z];simp
  gi_wp2_with fail
  refine⟨trivial,(CallsIn.inRound l (gi.2 (Lt F d3 f1 hn f2 c v (le:Int)))).mono ?_⟩;rintro e W' ⟨rfl,⟨F',hR,hC⟩,y⟩
  gi_wp2
  exact⟨DF y bO,y.mono λk _ e=>cB e,UG O hn bO x f (le:Int) HX.out bO f3 hR hC y bO⟩
 case done=>
  rintro D ys W hD ⟨hd,C⟩ f L;have d0:cz W w.heap.size 0 (pz p):=f.box.cell bO;have RP:bE W p 148 2 (tM nb n (aj (ah (az jb 0)) (bB t) cap)):=s.ie.of_block (f.kept.block p bO bO);have d1:cz W p 1 (aj (ah (az jb 0)) (bB t) cap):=RP.cell (i:=1) bO;have d2:=RP.frozen 1;have an:(m:Int)<=cap:=bO
  have fin:=SE s K2 f hd C (m:=m) bO D hD
  gi_wp2_with fail
  refine wpIn_wide.2 ?_
  go_region
  gi_wp2
  have M:=(KeepsOthers.setCell W (az p 1) (aj (ah (az jb 0)) m cap)).same D _ L rfl;refine⟨by simp,.inl ⟨_,_,rfl,run_takeDeferred (w:=(aW W (az p 1) (aj (ah (az jb 0)) m cap)).drew) M,?_⟩⟩;exact⟨_,GX rfl _ _ _,rfl,fin.1,fin.2⟩
 case stop=>rintro D c pre W _ _ h _;exact h.elim
theorem Fe(b:jT W0 base p nb n g (aj ai 0 0) [])(d:bI (λ_=>False) w W0)(c:bI (λk=>W0.heap.size<=k) W0 W)(D)(x:W0.heap.size<=D):
  jT ((aW W (az p 1) (aj ai 0 0)).drew.putObj D (.deferred ai)) base p nb n g (aj ai 0 0) []∧
   bI (gE p nb (aj ai 0 0)) w ((aW W (az p 1) (aj ai 0 0)).drew.putObj D (.deferred ai)):=by
 have q:=b.ie.lt;have j:=b.nodes.lt;have f:=grownBy_putObj' (aW W (az p 1) (aj ai 0 0)).drew D (.deferred ai);have hz:(aW W (az p 1) (aj ai 0 0)).drew.heap.size=W.heap.size:=aeA
 have v:=c.size;have fY:∀k,k<W0.heap.size->((aW W (az p 1) (aj ai 0 0)).drew.putObj D (.deferred ai)).heap[k]?=(aW W (az p 1) (aj ai 0 0)).heap[k]?:=λk c=>f.block k (by rw[hz];omega) (λe=>by cases e;omega)
 have u:bE W p 148 2 (tM nb n (aj ai 0 0)):=b.ie.of_block (c.block p q bO);have s:bE W nb 150 (n*4) (lJ g):=b.nodes.of_block (c.block nb j bO);refine⟨⟨?_,(s.setOther (j5 b.ne) _).of_block (fY nb j),eR _ _ _ _,b.ne,b.jp,b.jn,b.bp,b.bn,b.small⟩,?_⟩
 .refine((u.set 1 _).of_block (fY p q)).congr ?_;grind[tM]
 refine⟨f.os.trans (c.os.trans d.os),f.tape.trans (c.tape.trans d.tape),f.output.trans (c.output.trans d.output),?_,?_⟩
 .have r:=f.size;rw[hz] at r;exact bZ d.size (bZ c.size r)
 intro k i hs;have h:k<W0.heap.size:=cQ i d.size;rw[fY k h];exact(cO _ _ _ _ λe=>hs (cB e)).trans ((c.block k h bO).trans (d.block k i λe=>e))
theorem WJ{w}{base p nb n}{g}(h:jT w base p nb n g (aj ai 0 0) []):
  bA .wide 6 prog 74 #[pz p,iz 0] w λe w'=>e=aw (.bool aK)∧
   jT w' base p nb n g (aj ai 0 0) []∧bI (gE p nb (aj ai 0 0)) w w':=by
 have c1:=h.c1;refine callsIn_of_wp_marks func74 rfl trivial ?_ rfl;simp only[ntmps74,fU,ed,dQ,Nat.reduceAdd,Nat.reduceSub,fP,fO,gr,fV,ff,eU];have J:=h.ie.lt
 gi_wp2_with fail
 refine⟨trivial,(gi.2 (AZ (h.alloc _))).mono ?_⟩;rintro e w' ⟨rfl,rfl⟩
 gi_wp2_with fail
 refine⟨trivial,(zX .wide _ trivial rfl _ _ _ _).mono ?_⟩;rintro e w' ⟨rfl,rfl⟩
 gi_wp2_with fail
 have q:=(h.alloc (aq #[pz p] 66)).alloc (aq #[aj ai 0 0] 146);have C:bI (λ_=>False) w (bC (bC w (aq #[pz p] 66)) (aq #[aj ai 0 0] 146)):=((bW _ w).alloc _).alloc _;have z:bE (bC (bC w (aq #[pz p] 66)) (aq #[aj ai 0 0] 146)) w.heap.size 66 1 (λ_=>pz p):=by
  refine((ey w #[pz p] 66).congr ?_).alloc _;intro i H;obtain rfl:i=0:=by simpa using H
  rfl
 have S2:aU (bC (bC w (aq #[pz p] 66)) (aq #[aj ai 0 0] 146)) ⟨w.heap.size+1,0,ai⟩=ah (aj ai 0 0):=aeA
 have L:(bC (bC w (aq #[pz p] 66)) (aq #[aj ai 0 0] 146)).heap.size=w.heap.size+2:=bQ
 have I:=h.nodes.lt;generalize(bC (bC w (aq #[pz p] 66)) (aq #[aj ai 0 0] 146))=W0 at *;refine wpIn_rangeFunc_ownH rfl bO (gf:=154) (lb:=#[ak (ah ⟨w.heap.size+1,0,ai⟩)]) rfl trivial (enters_of func154 bV rfl)
  (vf .wide 5 trivial rfl bO (w.heap.size+1) W0.heap.size nb _ 0 (λ_=>(0,0)) bO W0 bO bO (bT _) S2 (.inl ⟨rfl,rfl⟩))
  (λa b=>a.trans (b.mono λk _ d=>d)) (Oi (bT _)) (cW _ _) (λ_=>rfl)
  (λ_ W=>bE W w.heap.size 66 1 (λ_=>pz p)∧bI (λk=>W0.heap.size<=k) W0 W) (λ_ _ _=>False)
  (λ_ A B row hs u y=>⟨vA hs.1 u λr e=>(y r e).2,hs.2.grown u λk e=>(y k e).1⟩) (λ_ _ _ _ _ hs _ _=>hs)
  ⟨z,bW _ _⟩ (λ_ _ _=>False) (λ_ _ _ _ _ _ hs _ _=>hs) ?assign ?body ?done ?stop
 case assign=>rintro l pre x W K _ _;exact absurd x.2 (iR _)
 case body=>rintro l pre x M W hl _ _ _ j;exact absurd j (iR _)
 case done=>
  rintro D T W E ⟨S,v⟩ ⟨G,d⟩ F;have N:cz W w.heap.size 0 (pz p):=G.cell bO;have s:bE W p 148 2 (tM nb n (aj ai 0 0)):=q.ie.of_block (d.block p bO bO);have O:cz W p 1 (aj ai 0 0):=s.cell (i:=1) bO;have R:=s.frozen 1;have fin:=Fe q C d D E
  gi_wp2_with fail
  refine wpIn_wide.2 ?_
  go_region
  gi_wp2
  have f:=(KeepsOthers.setCell W (az p 1) (aj ai 0 0)).same D _ F rfl;refine⟨by simp,.inl ⟨_,_,rfl,run_takeDeferred (w:=(aW W (az p 1) (aj ai 0 0)).drew) f,?_⟩⟩;exact⟨_,GX rfl _ _ _,rfl,fin.1,fin.2⟩
 case stop=>rintro D c pre W _ _ h _;exact h.elim
theorem ZH{w}{base p nb n}{g}{jv}{c}(h:jT w base p nb n g jv c)(m)(q:m<0∨(bB c:Int)<m):
  aB prog 74 #[pz p,iz m] w λe w'=>e=aw (.bool aL)∧
   jT w' base p nb n g jv c∧bI (gE p nb jv) w w':=by
 have f:=h.alloc (aq #[pz p] 66);have i:bI (gE p nb jv) w (bC w (aq #[pz p] 66)):=(bW _ w).alloc _;have d:=AZ f;have b:Hid (_∧_):=⟨f,i⟩
 by_cases j:m<0
 .clear d;go_enter func74,ntmps74
  go_wp2;go_ret;exact⟨rfl,b.out.1,b.out.2⟩
 have k:(bB c:Int)<m:=bO
 go_enter func74,ntmps74
 go_wp2_with fail;refine d.mono ?_;rintro e w' ⟨rfl,rfl⟩
 go_wp2;go_ret;exact⟨rfl,b.out.1,b.out.2⟩
structure St(w:ay)(base p nb:Nat)(jv:aA)(n:Nat)(g:Uf.G)(t:List Uf.Rec):Prop where
 mu:jT w base p nb n g jv (Uf.mo t)
 Ag:Uf.DP n g t
 low:base<=w.heap.size
variable{jv:aA}
def St.ok(h:St w base p nb jv n g t):Uf.Ok n g (bB t):=Uf.xJ n t g h.Ag
def iA(n:Nat)(g:Uf.G)(a b:Int):Bool:=mD n a&&mD n b&&!(aM (g.rt a.toNat=g.rt b.toNat))
def mX(n:Nat)(g:Uf.G)(a b:Int):Uf.G:=if iA n g a b then Uf.lY g (Uf.pick g a.toNat b.toNat).1 (Uf.pick g a.toNat b.toNat).2 else g
def lz(n:Nat)(g:Uf.G)(t:List Uf.Rec)(a b:Int):List Uf.Rec:=if iA n g a b then⟨(Uf.pick g a.toNat b.toNat).1,(g.N (Uf.pick g a.toNat b.toNat).2).rz,g⟩::t else t
theorem OV{w}{base p nb}{jv}{n}{g}{t}(h:St w base p nb jv n g t)(a b):
  aB prog 71 #[pz p,iz a,iz b] w λe w'=>e=aw (.bool (iA n g a b))∧∃c,St w' base p nb c n (mX n g a b) (lz n g t a b)∧
   bI (gE p nb jv) w w'∧(aP c=aP jv∨∀k,aP c=ah k->w.heap.size<=k):=by
 have f:=h.ok;cases x:iA n g a b
 .have y:mD n a=aL∨mD n b=aL∨lW n g a b=aK:=by
   cases u:mD n a
   .exact cB rfl
   cases v:mD n b
   .exact cI (cB rfl)
   refine cI (cI ?_);simpa[iA,lW,u,v] using x
  refine(ZO h.mu _ f b y).mono ?_;grind[mX,lz,bI.refl]
 have D:mD n a=aK∧mD n b=aK∧g.rt a.toNat≠g.rt b.toNat:=by grind[iA]
 obtain⟨u,v,d⟩:=D;let⟨C,M⟩:=jR u;let⟨b1,b2⟩:=jR v;obtain⟨i,rfl⟩:=fg C;obtain⟨j,rfl⟩:=fg b1;have A:i<n:=bO
 have q:j<n:=bO
 rw[eS,eS] at d;have s:Uf.Ok n g (bB (Uf.mo t)):=by rw[Uf.jN];exact f
 refine(WU (Uf.mo t) h.mu s i j A q d h.low).mono ?_;rintro e w' ⟨F,c,E,z,r⟩;refine⟨F,c,⟨?_,?_,bZ h.low z.size⟩,z,r⟩
 .rw[mX,lz,x,cY rfl,cY rfl,Uf.PJ,eS,eS];exact E
 rw[mX,lz,x,cY rfl,cY rfl,eS,eS];let⟨G,H,I,J,L⟩:=f.pick i j A q d;exact⟨_,H,G,I,J,L,rfl,rfl,h.Ag⟩
def yA(t:List Uf.Rec)(m:Int):Bool:=aM (0<=m∧m<=bB t)
def qf(t:List Uf.Rec)(m:Int):Nat:=if yA t m then bB t-m.toNat else 0
theorem RA(g t):Uf.back g t 0=g:=by cases t<;>rfl
theorem ZG{w}{base p nb}{jv}{n}{g}{t}(h:St w base p nb jv n g t)(m):
  aB prog 74 #[pz p,iz m] w λe w'=>e=aw (.bool (yA t m))∧∃i,St w' base p nb i n (Uf.back g t (qf t m)) (t.drop (qf t m))∧
   bI (gE p nb jv) w w'∧aP i=aP jv:=by
 cases q:yA t m
 .have j:m<0∨(bB (Uf.mo t):Int)<m:=by
   rw[Uf.jN];have:=of_decide_eq_false q;omega
  refine(ZH h.mu m j).mono ?_;rintro e w' ⟨f,d,b⟩;have c:qf t m=0:=by rw[qf,q];rfl
  refine⟨f,jv,?_,b,rfl⟩;rw[c,RA];exact⟨d,h.Ag,bZ h.low b.size⟩
 obtain⟨v,x⟩:0<=m∧m<=bB t:=ft q;obtain⟨k,rfl⟩:=fg v;have s:k<=bB t:=bO
 have c:qf t k=bB t-k:=by grind[qf]
 rw[c];obtain⟨rfl,r⟩|⟨jb,cap,u,rfl,_⟩:=h.mu.iA.2
 .rw[Uf.jN] at r;obtain rfl:t=[]:=eE r;obtain rfl:k=0:=by simpa using s
  refine(gi.1 (WJ h.mu)).mono ?_;rintro e w' ⟨f,d,b⟩;exact⟨f,_,⟨d,h.Ag,bZ h.low b.size⟩,b,rfl⟩
 have hl:=h.mu;rw[Uf.jN] at hl;refine(gi.1 (ZI t cap hl h.Ag k s)).mono ?_;rintro e w' ⟨f,d,b⟩;refine⟨f,_,⟨d,Uf.yZ n _ t g h.Ag,bZ h.low b.size⟩,?_,rfl⟩;rw[Uf.jN];exact b
def WQ(w:ay)(n:Nat)(f:n<=100000):
  aB prog 32 #[iz n] w λe w'=>e=aw (ak (ah ⟨w.heap.size+1,0,ai⟩))∧St w' w.heap.size (w.heap.size+1) w.heap.size (aj ai 0 0) n Uf.g0 []∧aC w.heap.size w w':=
 (abI w n f).mono λ_ _ ⟨d,c,b⟩=>⟨d,⟨c,rfl,b.size⟩,b⟩
theorem St.other(h:St w base p nb jv n g t){S:Nat->Prop}(c:bI S w w')(hp:¬S p)(f:¬S nb)(r:∀k,aP jv=ah k->¬S k):St w' base p nb jv n g t:=by
 refine⟨⟨h.mu.ie.of_block (c.block p h.mu.ie.lt hp),h.mu.nodes.of_block (c.block nb h.mu.nodes.lt f),?_,h.mu.ne,h.mu.jp,h.mu.jn,h.mu.bp,h.mu.bn,h.mu.small⟩,h.Ag,bZ h.low c.size⟩;refine⟨h.mu.iA.1,?_⟩;obtain f|⟨b,cap,d,e,j,i,q⟩:=h.mu.iA.2
 .exact .inl f
 refine .inr ⟨b,cap,d,e,j,?_,q⟩;rw[c.block b (bY.1 i).1 (r b (by rw[e];rfl))];exact i
def GQ(tys:aE->Prop)(o:Obj):Prop:=∃c ty fz,o=Obj.cells c ty fz∧tys ty
structure Ow(ty:aE)(B:Nat)(W W':ay):Prop where
 os:W'.os=W.os
 tape:W'.tape=W.tape
 output:W'.output=W.output
 size:W.heap.size<=W'.heap.size
 same:∀(k:Nat)(o:Obj),W.heap[k]?=ah o->(k<B∨(o.isCells=aK∧¬GQ (λt=>t=ty) o))->W'.heap[k]?=ah o
structure Kr(tys:aE->Prop)(B:Nat)(W W':ay):Prop where
 size:W.heap.size<=W'.heap.size
 same:∀(k:Nat)(o:Obj),W.heap[k]?=ah o->((B<=k∧o.isCells=aL)∨GQ tys o)->W'.heap[k]?=ah o
variable{ty:aE}
def Ow.trans(h:Ow ty B X Y)(k:Ow ty B Y Z):Ow ty B X Z:=
 ⟨k.os.trans h.os,k.tape.trans h.tape,k.output.trans h.output,bZ h.size k.size,λi o c b=>k.same i o (h.same i o c b) b⟩
theorem Ow.mono(h:Ow ty B X Y)(d:B'<=B):Ow ty B' X Y:=
 ⟨h.os,h.tape,h.output,h.size,λi o b c=>h.same i o b (c.imp (λx=>by omega) id)⟩
theorem Kr.refl(tys:aE->Prop)(B W):Kr tys B W W:=⟨bT _,λ_ _ h _=>h⟩
variable{tys:aE->Prop}
def Kr.trans(h:Kr tys B X Y)(k:Kr tys B Y Z):Kr tys B X Z:=
 ⟨bZ h.size k.size,λi o c b=>k.same i o (h.same i o c b) b⟩
theorem Kr.mono(h:Kr tys B X Y)(d:B<=B'):Kr tys B' X Y:=
 ⟨h.size,λi o b c=>h.same i o b (c.imp (λx=>⟨by omega,x.2⟩) id)⟩
variable{o:Obj}
theorem GQ.isCells(h:GQ tys o):o.isCells=aK:=by obtain⟨c,ty,b,rfl,_⟩:=h;rfl
theorem Ow.putObj(b)(c:B<=l)(hl:W.heap[l]?=ah o)(e:o.isCells=aL):Ow ty B W (W.putObj l b):=by refine⟨rfl,rfl,rfl,by simp,λk x d f=>?_⟩;grind[World.putObj_heap_other]
def pS:=@Ow.putObj
theorem Kr.putObj(e)(f:l<B)(hl:W.heap[l]?=ah o)(d:o.isCells=aL):Kr tys B W (W.putObj l e):=by
 refine⟨by simp,λk x c b=>?_⟩;rw[World.putObj_heap_other]
 .exact c
 rintro rfl;obtain b|b:=b
 .omega
 rw[hl] at c;cases c
 rw[b.isCells] at d;cases d
def Xg:=@Kr.putObj
theorem Ow.alloc(W o):Ow ty B W (bC W o):=
 ⟨rfl,rfl,rfl,by simp,λk _ b _=>(dB W o k (bY.1 b).1).trans b⟩
def qy:=@Ow.alloc
theorem Kr.alloc(W o):Kr tys B W (bC W o):=
 ⟨by simp,λk _ b _=>(dB W o k (bY.1 b).1).trans b⟩
def WN{α:Type}(n:Nat)(P:Program)(tys:aE->Prop)(ty:aE)(g:Nat)(lb:Array aA)(encs:α->Array aA)(tr:List α)(w:ay):Prop:=
 ∀(l:Nat)(J:Nat->ay->Prop)(W:ay),aC w.heap.size w W->(∀i A B,J i A->Ow ty W.heap.size A B->J i B)->
  (∀i x W1,tr[i]?=ah x->J i W1->YieldAt Fence.wide (n-1) P l (encs x) W1 λe W'=>e=aw (.bool aK)∧J (i+1) W'∧Kr tys W.heap.size W1 W')->
  J 0 W->bA Fence.wide n P g (#[.func (.yield l) #[] #[]]++lb) W λe W'=>(∃v,e=aw v)∧J (bB tr) W'
def Vt(tys:aE->Prop)(B:Nat)(I:ay->Prop)(W:ay):Exit->Act->ay->Prop
 | .normal,_,W'=>Kr tys B W W'∧I W'
 |_,_,_=>False
variable{α:Type}{P:Program}{ps:Array Tmp}{assign body:Code}{Q:Exit->Act->ay->Prop}{a:Act}{lb:Array aA}
theorem FD{g:Operand}(h1:1<=n)(hg:a.eval g=.func (.func gf) #[] lb)(eg:∀args w,(callFunc gf args).run P w=.ok (.enter gf args) w){f:α->Array aA}{tr:List α}(J:WN (n-1) P tys ty gf lb f tr w0)(F:aC w0.heap.size w0 w)(ag:∀x,(f x).size=ps.size)(I:Nat->ay->Prop)(C:∀i A B,I i A->Ow ty w.heap.size A B->I i B)(h0:I 0 w)(a₁:α->Act)(h:∀(l:Nat)(x:α)(W:ay)(K:Act->ay->Prop),K (a₁ x) W->
   assign.wpIn (Fence.wide.inRound l) (n-1-1) P (Exit.then K λ_ _ _=>False) {tmps:=(ps.zip (f x)).foldl (λt (p,v)=>t.setIfInBounds p v) a.tmps,defers:=[]} W)(s:∀(l i:Nat)(x:α)(W:ay),tr[i]?=ah x->w.heap.size<=W.heap.size->I i W->body.wpIn (Fence.wide.inRound l) (n-1-1) P (Vt tys w.heap.size (I (i+1)) W) (a₁ x) W)(u:∀(D:Nat)(W:ay),w.heap.size<=D->I (bB tr) W->W.heap[D]?=ah (.deferred (ah []))->Q .normal {a with defers:={target:=.collected D,args:=#[]}::a.defers} W):
  (Code.rangeFunc g ps assign body).wpIn Fence.wide n P Q a w:=by
 refine wpIn_rangeFunc ?_;intro fn aa;show ∃_,_;rw[show Fence.wide.round=ai from rfl];obtain⟨d,b⟩:∃d:LoopState->Option Code->Loop,d=λst pe=>{state:=st,pending:=pe,fn,tmps:=a.tmps,params:=ps,assign,body,defers:=w.heap.size}:=⟨_,rfl⟩
 obtain⟨j,r⟩:=bJ (bC (bC w (.deferred (ah []))) (.loop (d .ready ai)));have al:j.heap.size=w.heap.size+2:=by rw[<-r];simp
 have R:j.heap[w.heap.size+1]?=ah (.loop (d .ready ai)):=by grind[World.alloc_heap_new,World.size_alloc]
 have N:j.heap[w.heap.size]?=ah (.deferred (ah [])):=by grind[Below.heap_alloc,World.alloc_heap_new]
 have S:Ow ty w.heap.size w j:=by rw[<-r];exact(Ow.alloc w _).trans (Ow.alloc _ _)
 have T:aC w0.heap.size w0 j:=by rw[<-r];exact F.trans ((((cW _ w).alloc (bT _) _).alloc bQ _).mono F.size)
 refine⟨w.heap.size+1,[{target:=.collected w.heap.size,args:=#[]}],j,{target:=.fn (.func gf) lb,args:=#[.func (.yield (w.heap.size+1)) #[] #[]]},j,gf,#[.func (.yield (w.heap.size+1)) #[] #[]]++lb,j,?_,?_,?_,?_,λ_=>h1,?_⟩
 .grind[run_enterLoop_outer]
 .simp only[resolve,hg];simp[go_sem]
 .intro f' _;trivial
 .simp[invoke,go_sem,eg]
 refine(J (w.heap.size+1) (λi W=>I i W∧W.heap[w.heap.size+1]?=ah (.loop (d .ready ai))∧W.heap[w.heap.size]?=ah (.deferred (ah []))∧w.heap.size<=W.heap.size) j T ?_ ?_ ⟨C 0 _ _ h0 S,R,N,by omega⟩).mono ?_
 .rintro i A B ⟨G,hl,M,hs⟩ L;exact⟨C i A B G (L.mono bO),L.same _ _ hl (cB bO),L.same _ _ M (cB bO),bZ hs L.size⟩
 .rintro i x W hx ⟨G,hl,M,hs⟩;have ad:w.heap.size+1<W.heap.size:=(bY.1 hl).1;have hy:=run_yield (P:=P) (args:=f x) hl (by rw[b];exact ag x);rw[b] at hy;refine⟨fn,_,assign,body,hy,roundIn_of_wpIn aa (h _ x W _ ?_)⟩;refine⟨_,run_beginRound hl (by rw[b]),?_⟩;obtain⟨z,k⟩:=bJ (W.putObj (w.heap.size+1) (.loop {d .ready ai with state:=.busy}));have ac:z.heap[w.heap.size+1]?=ah (.loop {d .ready ai with state:=.busy}):=by rw[<-k];exact World.putObj_heap_same ad
  have U:z.heap[w.heap.size]?=ah (.deferred (ah [])):=by grind[World.putObj_heap_other]
  have E:Ow ty w.heap.size W z:=by rw[<-k];exact pS _ bO hl rfl
  have O:Kr tys j.heap.size W z:=by rw[<-k];exact Xg _ bO hl rfl
  rw[k];refine wpIn_mono (s _ i x z hx (bZ hs E.size) (C i _ _ G E)) ?_;rintro e a3 W3 hp;cases e with
  |normal=>obtain⟨y,ab⟩:=hp;have q:=y.same _ _ ac (cB ⟨by omega,rfl⟩);have V:=y.same _ _ U (cB ⟨by omega,rfl⟩);have H:=(bY.1 q).1;have hr:=run_endRound (P:=P) ai q;refine⟨_,_,hr,rfl,⟨C _ _ _ ab (pS _ bO q rfl),?_,(World.putObj_heap_other bO).trans V,by simp;omega⟩,(O.trans (y.mono bO)).trans (Xg _ bO q rfl)⟩;rw[World.putObj_heap_same H,b];rfl
  |ret=>exact hp.elim
  |exit id=>exact hp.elim
  |goto t=>exact hp.elim
  |panic ch=>exact hp.elim
  |outgrown=>exact hp.elim
 rintro e z ⟨⟨v,rfl⟩,G,hl,M,hs⟩;exact⟨ai,_,by have:=run_endLoop (P:=P) hl (by rw[b];simp);rw[b] at this;exact this,u _ _ (bT _) (C _ _ _ G (pS _ bO hl rfl)) ((World.putObj_heap_other bO).trans M)⟩
theorem Ye{g:Operand}(h1:1<=n)(hg:a.eval g=.func (.func gf) #[] lb)(eg:∀args w,(callFunc gf args).run P w=.ok (.enter gf args) w){h:α->Array aA}{tr:List α}(R:WN (n-1) P tys ty gf lb h tr w0)(L:aC w0.heap.size w0 w)(a2:∀x,(h x).size=ps.size)(I:Nat->ay->Prop)(H:∀i A B,I i A->Ow ty w.heap.size A B->I i B)(h0:I 0 w)(a₁:α->Nat->Act)(C:α->Obj)(hC:∀x,(C x).isCells=aK∧¬GQ (λt=>t=ty) (C x))(j:∀(l:Nat)(x:α)(W:ay)(K:Act->ay->Prop),w.heap.size<=W.heap.size->(∀d,Ow ty w.heap.size W d->Kr tys w.heap.size W d->d.heap[W.heap.size]?=ah (C x)->K (a₁ x W.heap.size) d)->
   assign.wpIn (Fence.wide.inRound l) (n-1-1) P (Exit.then K λ_ _ _=>False) {tmps:=(ps.zip (h x)).foldl (λt (p,v)=>t.setIfInBounds p v) a.tmps,defers:=[]} W)(z:∀(l i s:Nat)(x:α)(W:ay),tr[i]?=ah x->w.heap.size<=s->W.heap[s]?=ah (C x)->I i W->body.wpIn (Fence.wide.inRound l) (n-1-1) P (Vt tys w.heap.size (I (i+1)) W) (a₁ x s) W)(E:∀(D:Nat)(W:ay),w.heap.size<=D->I (bB tr) W->W.heap[D]?=ah (.deferred (ah []))->Q .normal {a with defers:={target:=.collected D,args:=#[]}::a.defers} W):
  (Code.rangeFunc g ps assign body).wpIn Fence.wide n P Q a w:=by
 refine wpIn_rangeFunc ?_;intro fn ao;show ∃_,_;rw[show Fence.wide.round=ai from rfl];obtain⟨f,b⟩:∃f:LoopState->Option Code->Loop,f=λst pe=>{state:=st,pending:=pe,fn,tmps:=a.tmps,params:=ps,assign,body,defers:=w.heap.size}:=⟨_,rfl⟩
 obtain⟨d,y⟩:=bJ (bC (bC w (.deferred (ah []))) (.loop (f .ready ai)));have a5:d.heap.size=w.heap.size+2:=by rw[<-y];simp
 have ab:d.heap[w.heap.size+1]?=ah (.loop (f .ready ai)):=by grind[World.alloc_heap_new,World.size_alloc]
 have V:d.heap[w.heap.size]?=ah (.deferred (ah [])):=by grind[Below.heap_alloc,World.alloc_heap_new]
 have ac:Ow ty w.heap.size w d:=by rw[<-y];exact(qy w _).trans (qy _ _)
 have ag:aC w0.heap.size w0 d:=by rw[<-y];exact L.trans ((((cW _ w).alloc (bT _) _).alloc bQ _).mono L.size)
 refine⟨w.heap.size+1,[{target:=.collected w.heap.size,args:=#[]}],d,{target:=.fn (.func gf) lb,args:=#[.func (.yield (w.heap.size+1)) #[] #[]]},d,gf,#[.func (.yield (w.heap.size+1)) #[] #[]]++lb,d,?_,?_,?_,?_,λ_=>h1,?_⟩
 .grind[run_enterLoop_outer]
 .simp only[resolve,hg];simp[go_sem]
 .intro f' _;trivial
 .simp[invoke,go_sem,eg]
 refine(R (w.heap.size+1) (λi W=>I i W∧W.heap[w.heap.size+1]?=ah (.loop (f .ready ai))∧W.heap[w.heap.size]?=ah (.deferred (ah []))∧w.heap.size<=W.heap.size) d ag ?_ ?_ ⟨H 0 _ _ h0 ac,ab,V,by omega⟩).mono ?_
 .rintro i A B ⟨N,hl,M,hs⟩ T;exact⟨H i A B N (T.mono bO),T.same _ _ hl (cB bO),T.same _ _ M (cB bO),bZ hs T.size⟩
 .rintro i x W hx ⟨N,hl,M,hs⟩;have hy:=run_yield (P:=P) (args:=h x) hl (by rw[b];exact a2 x);rw[b] at hy;refine⟨fn,_,assign,body,hy,roundIn_of_wpIn ao (j _ x W _ hs ?_)⟩;intro S ad u U;have r:=u.same _ _ hl (cB ⟨by omega,rfl⟩);have a4:=u.same _ _ M (cB ⟨by omega,rfl⟩);have a1:w.heap.size+1<S.heap.size:=(bY.1 r).1;refine⟨_,run_beginRound r (by rw[b]),?_⟩;obtain⟨G,k⟩:=bJ (S.putObj (w.heap.size+1) (.loop {f .ready ai with state:=.busy}));have a0:G.heap[w.heap.size+1]?=ah (.loop {f .ready ai with state:=.busy}):=by rw[<-k];exact World.putObj_heap_same a1
  have al:G.heap[w.heap.size]?=ah (.deferred (ah [])):=by grind[World.putObj_heap_other]
  have J:Ow ty w.heap.size S G:=by rw[<-k];exact pS _ bO r rfl
  have aa:Kr tys d.heap.size S G:=by rw[<-k];exact Xg _ bO r rfl
  rw[k];refine wpIn_mono (z _ i W.heap.size x G hx hs (J.same _ _ U (cI (hC x))) (H i _ _ (H i _ _ N ad) J)) ?_;rintro e a3 W3 hp;cases e with
  |normal=>
   obtain⟨F,ap⟩:=hp;have q:=F.same _ _ a0 (cB ⟨by omega,rfl⟩);have an:=F.same _ _ al (cB ⟨by omega,rfl⟩);have O:=(bY.1 q).1;have hr:=run_endRound (P:=P) ai q;refine⟨_,_,hr,rfl,⟨H _ _ _ ap (pS _ bO q rfl),?_,(World.putObj_heap_other bO).trans an,?_⟩,(((u.mono bO).trans aa).trans (F.mono bO)).trans (Xg _ bO q rfl)⟩
   .rw[World.putObj_heap_same O,b];rfl
   .simp;omega
  |ret=>exact hp.elim
  |exit id=>exact hp.elim
  |goto t=>exact hp.elim
  |panic ch=>exact hp.elim
  |outgrown=>exact hp.elim
 rintro e G ⟨⟨v,rfl⟩,N,hl,M,hs⟩;exact⟨ai,_,by have:=run_endLoop (P:=P) hl (by rw[b];simp);rw[b] at this;exact this,E _ _ (bT _) (H _ _ _ N (pS _ bO hl rfl)) ((World.putObj_heap_other bO).trans M)⟩
