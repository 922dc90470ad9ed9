import Derived.Test.YtlehlgipbhfioaaGreatBn
import Derived.Test.YtlehlgipbhfioaaGreatBr
namespace Go.Proofs.YtlehlgipbhfioaaGreat
set_option maxHeartbeats 12000000
set_option maxRecDepth 100000
set_option linter.all false
open Go.RowKit Go.Maps Go.Shelf Go.Proofs.Tryz
open Go.Value renaming int->ae,slice->aj,pointer->ak,slice->aT,ownBlock->aP
open Go.IntKind renaming i64->af
open Go.Obj renaming cells->aq,cells->aR
open Go.Ending renaming returned->aw
open Option renaming some->ah,none->ai
open List renaming range->aO,length->bB
open Go.World renaming frozen?->bG,alloc->bC,cell?->aU,rowIs->bE,ownsRow->bD,setCell->aW,drewN->bF,grownBy->bH
open Go.RowKit renaming Below->aC,intOf->aG
open Go renaming CallsIn->bA,madeCells->aJ,Calls->aB,World->ay,Value->aA,undef->aF,TypeId->aE,maxLen->aY
open Go.Instr renaming makeSlice->aV
open Go.Act renaming eval->bq
open Bool renaming true->aK,false->aL
open Decidable renaming decide->aM
section
variable{w W w' w2:ay}{base n k i j tb rb:Nat}{l:List Tm}{z a b c:Zs}
theorem Cz.mark(h:Cz w base l z)(K:dG w W):
  aB prog 70 #[pz z.ps] W λe w'=>e=aw (iz (bB z.t))∧W=w':=by
 have:=AZ (h.dF K).ie.mu;rw[Uf.jN] at this;exact this
theorem qB(w A B):(bC (bC w A) B).drew.heap[w.heap.size]?=ah A∧(bC (bC w A) B).drew.heap[w.heap.size+1]?=ah B∧dG w (bC (bC w A) B).drew:=by
 refine⟨?_,?_,(((bW _ w).alloc A).alloc B).drew⟩
 .show(bC (bC w A) B).heap[hz w]?=ah A;grind[Below.heap_alloc,Deep.blk_alloc_new]
 have:=Deep.blk_alloc_new (bC w A) B;rw[show(bC w A).heap.size=hz w+1 by simp] at this;exact this
variable{S:Nat->Prop}
theorem bI.tz{T:Nat->Prop}{a b c:ay}(h:bI S a b)(k:bI T b c)(e:∀i,T i->S i∨a.heap.size<=i):bI S a c:=
 ⟨k.os.trans h.os,k.tape.trans h.tape,k.output.trans h.output,bZ h.size k.size,λi d hs=>(k.block i (cQ d h.size) λt=>(e i t).elim hs λx=>by omega).trans (h.block i d hs)⟩
def qK(bc bm bo bl:Nat):aA:=.func (.func 73) #[] #[ak (ah ⟨bc,0,ai⟩),ak (ah ⟨bm,0,ai⟩),ak (ah ⟨bo,0,ai⟩),ak (ah ⟨bl,0,ai⟩)]
def lV(z:Zs)(low:Nat)(bc bm bo bl:Nat):List (Nat×Obj):=[(bc,aq #[ak (ah ⟨z.pk,0,ai⟩)] 57),(bl,aq #[ae af low] 3),(bm,aq #[ae af (bB z.t)] 3),(bo,aq #[z.uv low] 110)]
def tQ(l:List Tm)(z:Zs)(low high bc bm bo bl:Nat)(jv':aA)(st2:List (Nat×Obj))(v' bv':aA):Zs:=
 {z with jv:=jv',g:=mX (bB l) z.g low high,t:=lz (bB l) z.g z.t low high,st:=z.st++lV z low bc bm bo bl++st2,uv:=λi=>if i=low then v' else z.uv i,us:=λi=>if i=low then z.us low++z.us high else z.us i,bv:=bv',bs:=z.bs++[qK bc bm bo bl]}
theorem Cz.Kj(h:Cz w base l z)(e:List (Nat×Obj))(p:Sat e w)(f:∀x∈e,base<=x.1∧¬z.gE x.1):Cz w base l {z with st:=z.st++e}:=by
 refine⟨h.cls,h.ie,h.kN,h.ld,h.known,h.back,?_,?_,λi t o=>(h.argsAt i t o).mono λy d=>dh _ d,λi m=>(h.ki i m).mono λy d=>dh _ d,h.bd,h.yr,h.len,h.bp,h.bt,h.bu,h.bm⟩
 .intro y d;obtain d|d:=cU.1 d
  .exact h.sat y d
  exact p y d
 intro y d;obtain d|d:=cU.1 d
 .exact h.ot y d
 exact f y d
theorem Cz.join(h:Cz w base l z)(a b):
  aB prog 71 #[pz z.ps,iz a,iz b] w λe w'=>e=aw (.bool (iA (bB l) z.g a b))∧∃f,Cz w' base l {z with jv:=f,g:=mX (bB l) z.g a b,t:=lz (bB l) z.g z.t a b}∧bI z.gE w w'∧oW w z {z with jv:=f,g:=mX (bB l) z.g a b,t:=lz (bB l) z.g z.t a b}:=by
 refine(OV h.ie a b).mono ?_;rintro e w' ⟨B,f,y,K,p⟩;have A:=h.apart;let⟨D,r,s,u⟩:=h.known;have d:∀k,Zs.gE {z with jv:=f,g:=mX (bB l) z.g a b,t:=lz (bB l) z.g z.t a b} k->z.gE k∨w.heap.size<=k:=by
  rintro k (e|(e|e|e)|e|e|e)
  .exact .inl (.inl e)
  .exact .inl (.inr (.inl (.inl e)))
  .exact .inl (.inr (.inl (.inr (.inl e))))
  .obtain q|q:=p
   .exact .inl (.inr (.inl (.inr (.inr (q▸e)))))
   exact .inr (q k e)
  .exact .inl (.inr (.inr (.inl e)))
  .exact .inl (.inr (.inr (.inr (.inl e))))
  exact .inl (.inr (.inr (.inr (.inr e))))
 refine⟨B,f,⟨h.cls.of_block (K.block _ h.cls.lt ?_),y,h.kN.of_block (K.block _ h.kN.lt ?_),h.ld.of_block (K.block _ h.ld.lt ?_),⟨D,oe r (K.block _ (gw r) ?_),s,u⟩,gh h.back λk o=>K.block k (h.back.lt k o).2 ?_,λx m=>(K.block x.1 (h.xx m) λe=>(h.ot x m).2 (.inr (.inl e))).trans (h.sat x m),λx m=>⟨(h.ot x m).1,λo=>?_⟩,h.argsAt,h.ki,h.bd,h.yr,h.len,h.bp,h.bt,h.bu,h.bm⟩,dW K λk _ e=>.inr (.inl e),⟨rfl,d,rfl,λ_ m=>.inl m⟩⟩
 .rintro(e|e|e)
  .exact A.kp e
  .exact A.kn e
  exact A.kj e
 .rintro(e|e|e)
  .exact A.pt e.symm
  .exact A.nt e.symm
  exact A.jt e
 .rintro(e|e|e)
  .exact A.pu e.symm
  .exact A.nu e.symm
  exact A.ju e
 .rintro(e|e|e)
  .exact A.pm e.symm
  .exact A.nm e.symm
  exact A.jm e
 .rintro(e|e|e)
  .exact A.pb (by rw[o,e])
  .exact A.nb (by rw[o,e])
  exact A.jb k e o
 obtain e|e:=d _ o
 .exact(h.ot x m).2 e
 have:=h.xx m;omega
theorem Cz.Tt(h:Cz w base l z)(low v m)(s:iB z.st v m):
  Cz (aW w (az z.ub low) v) base l {z with uv:=λi=>if i=low then v else z.uv i,us:=λi=>if i=low then m else z.us i}∧bI z.gE w (aW w (az z.ub low) v):=by
 have K:dV z.ub w (aW w (az z.ub low) v):=eH (bW _ w) low v;have A:=h.apart;let⟨D,o,p,q⟩:=h.known;refine⟨⟨h.cls.of_block (K.block _ h.cls.lt A.ku),h.ie.other K A.pu A.nu (λk d e=>A.ju (by rw[d,e])),h.kN.of_block (K.block _ h.kN.lt A.ut.symm),h.ld.set low v,⟨D,oe o (K.block _ (gw o) A.um.symm),p,q⟩,
  gh h.back (λk d=>K.block k (h.back.lt k d).2 λe=>A.ub (by rw[d,e])),λx f=>(K.block x.1 (h.xx f) λe=>(h.ot x f).2 (.inr (.inr (.inl e)))).trans (h.sat x f),h.ot,h.argsAt,λi r=>?_,h.bd,h.yr,h.len,h.bp,h.bt,h.bu,h.bm⟩,dW K λk _ e=>.inr (.inr (.inl e))⟩
 show iB z.st (if i=low then v else z.uv i) (if i=low then m else z.us i);by_cases e:i=low
 .grind
 rw[cC e,cC e];exact h.ki i r
theorem YP{w}{base}{l}{z}(h:Cz w base l z)(low d)(G:low<bB l)(C:d<bB l)(cj:bB z.bs<1000000)(be:low≠d)(bx:bB (z.us low)+bB (z.us d)<=1000000)(a8:base<=w.heap.size):
  aB prog 39 #[pz z.pk,iz low,iz d] w λe w'=>e=aw (.tuple #[])∧∃H bm bo bl y f s ao,w.heap.size<=H∧w.heap.size<=bm∧w.heap.size<=bo∧w.heap.size<=bl∧(∀x∈f,w.heap.size<=x.1)∧Cz w' base l (tQ l z low d H bm bo bl y f s ao)∧bI z.gE w w'∧oW w z (tQ l z low d H bm bo bl y f s ao):=by
 have K1:dG w (bC (bC w (aq #[pz z.pk] 57)) (aq #[iz low] 3)):=dD (dD (bW _ w) _) _;have R3:=kX (ey w #[pz z.pk] 57) (aq #[iz low] 3);have R4:=ey (bC w (aq #[pz z.pk] 57)) #[iz low] 3;have bi:(bC w (aq #[pz z.pk] 57)).heap.size=w.heap.size+1:=bQ
 rw[bi] at R4;let⟨V,uc,N⟩:=(h.ki low G).form;go_enter func39,ntmps39
 go_wp2;generalize bC (bC w (aq #[pz z.pk] 57)) (aq #[iz low] 3)=w1 at *;have H1:=h.dF K1;have x3:aU w1 (az w.heap.size 0)=ah (pz z.pk):=R3.cell (i:=0) bQ;have x4:aU w1 ⟨w.heap.size+1,0,ai⟩=ah (iz low):=R4.cell (i:=0) bQ;have k0:=H1.k0;have k2:=H1.k2;have ul:=H1.u G;rw[N] at ul;have ag:=λW K=>H1.mark (W:=W) K;have L:∀W,dG w1 W->(aU W (az w.heap.size 0)=ah (pz z.pk)∧aU W ⟨w.heap.size+1,0,ai⟩=ah (iz low)∧aU W (az z.pk 0)=ah (pz z.ps)∧aU W (az z.pk 2)=ah (aj (ah (az z.ub 0)) (bB l) (bB l))∧aU W (az z.ub low)=ah (.slice V (bB (z.us low)) uc)):=λW K=>by have hc:∀{b o:Nat}{u:aA},aU w1 (az b o)=ah u->aU W (az b o)=ah u:=λ{b o u} hu=>(cL (K.block b (cV w1 _ hu) λe=>e)).trans hu;grind
 go_cut[6,7] from 8 to 19 λv6 v7 X=>∃E q,v6=pz E∧v7=pz q∧w1.heap.size<=E∧w1.heap.size<=q∧X.heap[E]?=ah (aq #[iz (bB z.t)] 3)∧X.heap[q]?=ah (aq #[.slice V (bB (z.us low)) uc] 110)∧dG w1 X
 case first=>
  go_region_held3 (λW=>aU W (az w.heap.size 0)=ah (pz z.pk)∧aU W ⟨w.heap.size+1,0,ai⟩=ah (iz low)∧aU W (az z.pk 0)=ah (pz z.ps)∧aU W (az z.pk 2)=ah (aj (ah (az z.ub 0)) (bB l) (bB l))∧aU W (az z.ub low)=ah (.slice V (bB (z.us low)) uc)) (exact L _ (by repeat(first|exact bW _ _|apply Xh|apply dR|apply dD|refine jo ?_ bQ _))) (first|(go_at_call 70;refine(ag _ (by repeat(first|exact bW _ _|apply Xh|apply dR|apply dD))).mono ?_;rintro e w' ⟨rfl,rfl⟩))
  all_goals
   go_wp2;go_meet
   case rel=>
    first
    |exact⟨_,_,rfl,rfl,bT _,by omega,(qB w1 _ _).1,(qB w1 _ _).2.1,(qB w1 _ _).2.2⟩
    |exact⟨_,_,rfl,rfl,by omega,bT _,(qB w1 _ _).2.1,(qB w1 _ _).1,(qB w1 _ _).2.2⟩
 case rest=>
  obtain⟨E,q,rfl,rfl,l6,l7,O6,O7,K2⟩:=hcut;have l3:=R3.lt;have l4:=R4.lt;have K:=K1.trans K2;have O3:wc.heap[w.heap.size]?=ah (aq #[pz z.pk] 57):=(K2.block _ l3 λe=>e).trans (vB R3 _ rfl λi hi=>by grind)
  have O4:wc.heap[w.heap.size+1]?=ah (aq #[iz low] 3):=(K2.block _ l4 λe=>e).trans (vB R4 _ rfl λi hi=>by grind)
  have nf:∀k,w.heap.size<=k->¬z.gE k:=λk hk hf=>by have:=h.tA hf;omega
  have S2:Sat (lV z low w.heap.size E q (w.heap.size+1)) wc:=by
   intro x J;simp[lV] at J;obtain rfl|rfl|rfl|rfl:=J
   .exact O3
   .exact O4
   .exact O6
   rw[N];exact O7
  have H2:=(h.dF K).Kj (lV z low w.heap.size E q (w.heap.size+1)) S2 (by grind[lV])
  have k0:=H2.k0;have x3:aU wc (az w.heap.size 0)=ah (pz z.pk):=by simp[aU,O3]
  have x4:aU wc ⟨w.heap.size+1,0,ai⟩=ah (iz low):=by simp[aU,O4]
  have ab:=λm=>(H2.drewN m).join low d;have G2:oW w z {z with st:=z.st++lV z low w.heap.size E q (w.heap.size+1)}:=⟨rfl,λ_ hk=>.inl hk,rfl,λx J=>by grind[lV]⟩
  go_wp2
  go_cut[26] from 20 to 26 λv X=>v=.bool (iA (bB l) z.g low d)∧∃y,Cz X base l {z with st:=z.st++lV z low w.heap.size E q (w.heap.size+1),jv:=y,g:=mX (bB l) z.g low d,t:=lz (bB l) z.g z.t low d}∧bI z.gE w X∧oW w z {z with st:=z.st++lV z low w.heap.size E q (w.heap.size+1),jv:=y,g:=mX (bB l) z.g low d,t:=lz (bB l) z.g z.t low d}∧bI z.gE wc X
  case first=>
   go_region_with(go_at_call 71;refine(ab 1).mono ?_;rintro e w3 ⟨rfl,y,F,K3,G3⟩)
   all_goals
    go_wp2;go_meet
    case rel=>have ac:bI z.gE (bF wc 1) w3:=K3;exact⟨rfl,y,F,(dW (K.drewN 1) λ_ _ e=>e.elim).trans ac,G2.trans G3 K.size,(dR (bW _ wc) 1).trans ac⟩
  case rest=>
   obtain⟨rfl,y,F,K3,G3,cd⟩:=hcut;rename_i w2;let⟨ha,hc,Z⟩:=(h.ki d C).form;have U1:=F.ki low G;have U2:=F.ki d C;have nU:∀k,w.heap.size<=k->k≠z.ub:=λk hk e=>nf k hk (.inr (.inr (.inl e)));have q3:wc.heap[w.heap.size]?=ah (aq #[pz z.pk] 57):=F.sat (w.heap.size,aq #[pz z.pk] 57) (by simp[lV]);have q4:wc.heap[w.heap.size+1]?=ah (aq #[iz low] 3):=F.sat (w.heap.size+1,aq #[iz low] 3) (by simp[lV]);have q7:wc.heap[q]?=ah (aq #[z.uv low] 110):=F.sat (q,aq #[z.uv low] 110) (by simp[lV]);have c3:aU wc (az w.heap.size 0)=ah (pz z.pk):=by simp[aU,q3]
   have c4:aU wc ⟨w.heap.size+1,0,ai⟩=ah (iz low):=by simp[aU,q4]
   have c7:aU wc (az q 0)=ah (.slice V (bB (z.us low)) uc):=by rw[<-N];simp[aU,q7]
   have ck:aU wc (az z.pk 2)=ah (aj (ah (az z.ub 0)) (bB l) (bB l)):=F.k2;have cu:aU wc (az z.ub d)=ah (.slice ha (bB (z.us d)) hc):=by rw[<-Z];exact F.u C
   have cl:aU wc (az z.ub low)=ah (.slice V (bB (z.us low)) uc):=by rw[<-N];exact F.u G
   have a7:∀W,dG wc W->aB prog 72 #[.slice V (bB (z.us low)) uc,.slice ha (bB (z.us d)) hc] W λe w'=>∃s f,e=aw s∧dG W w'∧iB (z.st++lV z low w.heap.size E q (w.heap.size+1)++f) s (z.us low++z.us d)∧Sat f w'∧∀x∈f,W.heap.size<=x.1:=λW Y=>by rw[<-N,<-Z];exact Hy (F.dF Y).sat U1 U2 bx
   have L:∀W,dG wc W->(aU W (az w.heap.size 0)=ah (pz z.pk)∧aU W ⟨w.heap.size+1,0,ai⟩=ah (iz low)∧aU W (az q 0)=ah (.slice V (bB (z.us low)) uc)∧aU W (az z.pk 2)=ah (aj (ah (az z.ub 0)) (bB l) (bB l))∧aU W (az z.ub d)=ah (.slice ha (bB (z.us d)) hc)):=λW K=>by have R:∀{b o:Nat}{u:aA},aU wc (az b o)=ah u->aU W (az b o)=ah u:=λ{b o u} hu=>(cL (K.block b (cV wc _ hu) λe=>e)).trans hu;exact⟨R c3,R c4,R c7,R ck,R cu⟩
   have bb:=F.apart.ku;have aa:∀W v,dG wc W->(aU (aW W (az z.ub low) v) (az w.heap.size 0)=ah (pz z.pk)∧aU (aW W (az z.ub low) v) ⟨w.heap.size+1,0,ai⟩=ah (iz low)∧aU (aW W (az z.ub low) v) (az q 0)=ah (.slice V (bB (z.us low)) uc)∧aU (aW W (az z.ub low) v) (az z.pk 2)=ah (aj (ah (az z.ub 0)) (bB l) (bB l))∧aU (aW W (az z.ub low) v) (az z.ub d)=ah (.slice ha (bB (z.us d)) hc)):=λW v Y=>by let⟨s1,s2,s3,s4,s5⟩:=L W Y;have ho:∀{b o:Nat}{u:aA},b≠z.ub->aU W (az b o)=ah u->aU (aW W (az z.ub low) v) (az b o)=ah u:=λ{b o u} hb hu=>(cL (cO _ _ _ _ hb)).trans hu;refine⟨ho (nU _ (bT _)) s1,ho (nU _ (iD _)) s2,ho (nU q bO) s3,ho bb s4,?_⟩;have:=((F.dF Y).ld.set low v).cell (i:=d) C;rw[cC (j5 be)] at this;rw[<-Z];exact this
   have a3:∀W,dG wc W->bG W (az z.ub low)=aL∧aU W (az z.ub low)=ah (.slice V (bB (z.us low)) uc):=λW Y=>⟨(F.dF Y).ld.frozen low,by rw[<-N];exact(F.dF Y).u G⟩
   go_wp2
   go_cut[40] from 27 to 41 λv X=>∃f,iB (z.st++lV z low w.heap.size E q (w.heap.size+1)++f) v (z.us low++z.us d)∧(∀x∈f,w.heap.size<=x.1)∧∃T,dG wc T∧Sat f T∧(∀x∈f,wc.heap.size<=x.1)∧X=aW T (az z.ub low) v
   case first=>
    go_region_held3 (λW=>aU W (az w.heap.size 0)=ah (pz z.pk)∧aU W ⟨w.heap.size+1,0,ai⟩=ah (iz low)∧aU W (az q 0)=ah (.slice V (bB (z.us low)) uc)∧aU W (az z.pk 2)=ah (aj (ah (az z.ub 0)) (bB l) (bB l))∧aU W (az z.ub d)=ah (.slice ha (bB (z.us d)) hc)) (first|exact L _ aex|exact aa _ _ aex) (first|(go_at_call 72;refine(a7 _ aex).mono ?_;rintro e T ⟨s,f,rfl,K4,U4,S4,L4⟩;have KS:dG wc T:=gQ aex K4;let⟨va,vc,b8⟩:=abP U4;subst b8;let⟨ch,ce⟩:=a3 T KS))
    all_goals
     go_wp2;go_meet
     case rel=>have bj:w.heap.size<=wc.heap.size:=K3.size;have ad:∀x∈f,wc.heap.size<=x.1:=L4;exact⟨f,by simpa using U4,λx J=>bZ bj (ad x J),T,KS,S4,ad,rfl⟩
   case rest=>
    obtain⟨f,U4,L4,T,K4,S4,a5,rfl⟩:=hcut;have H4:=((F.dF K4).Kj f S4 λx J=>⟨by have:=L4 x J;omega,λhf=>by have:=F.tA hf;have:=a5 x J;omega⟩).Tt low u40 (z.us low++z.us d) U4;have KA:bI z.gE w (aW T (az z.ub low) u40):=(K3.trans (dW K4 λ_ _ e=>e.elim)).trans (eY (p:=az z.ub low) (bW _ T) (.inr (.inr (.inl rfl))) u40);obtain⟨H5,_⟩:=H4;have G4:oW w z {z with st:=z.st++lV z low w.heap.size E q (w.heap.size+1)++f,jv:=y,g:=mX (bB l) z.g low d,t:=lz (bB l) z.g z.t low d,uv:=λi=>if i=low then u40 else z.uv i,us:=λi=>if i=low then z.us low++z.us d else z.us i}:=⟨rfl,G3.Gg,rfl,λx J=>by
     obtain J|J:=cU.1 J
     .exact G3.st x J
     exact .inr (L4 x J)⟩
    generalize cm:aW T (az z.ub low) u40=D at *;have q3:D.heap[w.heap.size]?=ah (aq #[pz z.pk] 57):=H5.sat (w.heap.size,aq #[pz z.pk] 57) (by simp[lV]);have c3:aU D (az w.heap.size 0)=ah (pz z.pk):=by simp[aU,q3]
    have ci:base<=D.heap.size:=by have:=KA.size;omega
    let⟨i0,a9,bR,ca,cb⟩:=eB yY;obtain⟨U,H,M⟩:∃U H,z.bv=aj U (bB z.bs) H:=iQ h.back;have A4:∀O,aU (bC D O) (az z.pk 4)=ah (aj U (bB z.bs) H):=λO=>by rw[<-M];exact(kX H5.cls O).cell (i:=4) bO
    have a4:aU D (az z.pk 4)=ah (aj U (bB z.bs) H):=by rw[<-M];exact H5.k4
    have a6:∀O,(bC D O).drew.ownsRow base 1 1 (aj U (bB z.bs) H) (bB z.bs) z.bs:=λO=>by rw[<-M];exact fT H5.back O
    have al:=uH D 0 (qK w.heap.size E q (w.heap.size+1)) 1;have KD:∀O,dG D (bC D O).drew:=λO=>((bW _ D).alloc O).drew;have an:=λw1 O s=>H5.push (w1:=w1) (KD O) (qK w.heap.size E q (w.heap.size+1)) s;have ap:w.heap.size<D.heap.size:=(bY.1 q3).1;have a1:∀A,bI (λk=>aP z.bv=ah k) D A->aU A (az w.heap.size 0)=ah (pz z.pk):=λA K6=>(cL (K6.block w.heap.size ap λe=>nf _ (bT _) (.inr (.inr (.inr (.inr e)))))).trans c3;have Q:∀A O s,bD A base 1 1 s (bB z.bs+1) (z.bs++[qK w.heap.size E q (w.heap.size+1)])->(bC D O).drew.grownBy A (aP (aT U (bB z.bs) H))->(aP s=aP (aT U (bB z.bs) H)∨∀k,aP s=ah k->(bC D O).drew.heap.size<=k)->_:=λA O s h1 h2 h3=>an A O s h1 (by rw[<-M] at h2;exact h2) (by rw[<-M] at h3;exact h3);have a2:∀A O s,bD A base 1 1 s (bB z.bs+1) (z.bs++[.func (.func 73) #[] #[pz w.heap.size,pz E,pz q,ak (ah ⟨w.heap.size+1,0,ai⟩)]])->(bC D O).drew.grownBy A (aP (aT U (bB z.bs) H))->(aP s=aP (aT U (bB z.bs) H)∨∀k,aP s=ah k->(bC D O).drew.heap.size<=k)->
      aU A (az z.pk 4)=ah (aj U (bB z.bs) H)∧bG A (az z.pk 4)=aL∧aU A (az w.heap.size 0)=ah (pz z.pk):=λA O s h1 h2 h3=>by
     let⟨_,_,_,c1,c2,P6⟩:=Q A O s h1 h2 h3;exact⟨(by rw[<-M];exact c1),c2,a1 A P6⟩
    simp only[qK] at al;have cr:w.heap.size≠z.pk:=λe=>nf _ (bT _) (.inl e);have SA:∀O,(bC D O).drew.cell? (az w.heap.size 0)=ah (pz z.pk):=λO=>(cL (dB _ _ _ ap)).trans c3;have a0:Hid (_∧_∧_):=⟨Q,KA,G4⟩
    go_wp2;have A3:∀O,aU (bC D O) (az w.heap.size 0)=ah (pz z.pk):=SA;go_region_law(refine fe rfl (.tmp 46) (.tmp 48) 69 rfl base 1 i0 _ 1 8 underlying69 a9 bR ca cb rfl bS _ (bB z.bs) z.bs (by simp[bq];rfl) (by exact a6 _) (az D.heap.size 0) 1 1 [.func (.func 73) #[] #[pz w.heap.size,pz E,pz q,ak (ah ⟨w.heap.size+1,0,ai⟩)]] (by simp[bq]) rfl (by exact al) cM cJ bO bX ?_;intro s A r B I;let⟨cp,co,cn⟩:=a2 A _ s r B I;let⟨b1,cc,b0⟩:=ownsRow_succ r;subst b0;replace r:=bL r;replace B:=bL B;replace I:Hid _:=I);all_goals
     go_end0
     let⟨PU,KA,G4⟩:=a0.out;let⟨P1,P2,P3,_⟩:=PU A _ _ r.out B.out I.out;exact⟨rfl,w.heap.size,E,q,w.heap.size+1,y,f,u40,_,bT _,by omega,by omega,by omega,L4,P1,KA.tz P2 G4.Gg,G4.trans P3 KA.size⟩
def aeB{p:Prop}(h:p:=by simp[lV]):p:=h
inductive iF (l:List Tm):Zs->Zs->Prop
 |refl (z:Zs):iF l z z
 |Af {a b:Zs} (n:Nat) (s:Tm) (bc bx:Nat) (v:aA):iF l a b->b.kn s=ai->Sk s->iF l a (uN b n s bc bx v)
 |join {a b:Zs} (low high bc bm bo bl:Nat) (jv:aA) (st2:List (Nat×Obj)) (v bv:aA):iF l a b->iA (bB l) b.g low high=aK->low<bB l->iB b.st (b.uv low) (b.us low)->iF l a (tQ l b low high bc bm bo bl jv st2 v bv)
theorem iF.trans(h:iF l a b)(k:iF l b c):iF l a c:=by
 induction k with
 |refl=>exact h
 |Af n s d q v _ e f m=>exact .Af n s d q v m e f
 |join low high d bm p bl jv o v bv _ e f r m=>exact .join low high d bm p bl jv o v bv m e f r
structure Un(w:ay)(base:Nat)(l:List Tm)(z:Zs)(P todo:List (Nat×Nat))(pend:List Nat):Prop where
 cz:Cz w base l z
 inv:Cc.Inv l P z.g.lo z.us z.kn todo pend
 ms:z.ms+bB pend<=bB l+bB z.t*(4*bB l)
 bs:bB z.bs+bB pend<=bB z.t*(4*bB l+1)
 td:bB todo+bB pend<=1+bB z.t*(4*bB l)
 low:base<=w.heap.size
variable{P todo:List (Nat×Nat)}{pend:List Nat}
def Un.tle(h:Un w base l z P todo pend):bB z.t<=bB l:=h.cz.ok.FR
theorem Un.bound(h:Un w base l z P todo pend):bB z.t*(4*bB l)<=90000∧bB z.t*(4*bB l+1)<=90150:=by have d:=h.tle;have e:=h.cz.len;have f:bB z.t*(4*bB l)<=150*600:=sm bO bO;grind
def Un.keep(h:Un w base l z P todo pend)(K:bI S w w')(d:∀k,z.nO k->¬S k):Un w' base l z P todo pend:=
 ⟨h.cz.keep K d,h.inv,h.ms,h.bs,h.td,bZ h.low K.size⟩
def Un.dF(h:Un w base l z P todo pend)(K:dG w w'):Un w' base l z P todo pend:=h.keep K λ_ _ e=>e
structure qt(l:List Tm)(w w':ay)(z z':Zs):Prop where
 kept:bI z.gE w w'
 rV:oW w z z'
 chain:iF l z z'
theorem qt.refl(l)(z)(K:dG w w'):qt l w w' z z:=⟨dW K λ_ _ e=>e.elim,oW.refl w z,.refl z⟩
def W7:=@qt.refl
def qt.trans{d:ay}(h:qt l w w' a b)(k:qt l w' d b c):qt l w d a c:=
 ⟨h.kept.tz k.kept h.rV.Gg,h.rV.trans k.rV h.kept.size,h.chain.trans k.chain⟩
theorem Og{w}{base}{l}{z}{P todo}(n pend)(h:Un w base l z P todo (n::pend)):
  aB prog 40 #[pz z.pk,iz n] w λe w'=>∃(m:Nat)(o:Zs),e=aw (iz m)∧Un w' base l o P (todo++[(n,m)]) pend∧qt l w w' z o∧o.t=z.t∧o.uv=z.uv∧o.us=z.us:=by
 have A:n<bB l:=h.inv.pin n bQ;have d:l[n]?=ah l[n]:=cG
 let⟨b1,b2⟩:=h.bound;have q:=h.ms;have p:=h.bs;have r:=h.td;have u:=h.cz.len;simp only[ed] at q p r;cases f:z.kn (Cc.sg z.g.lo l[n]) with
 |some m=>refine(UQ h.cz n _ d m f h.inv.le).mono ?_;rintro e w' ⟨rfl,K⟩;refine⟨m,z,rfl,⟨h.cz.dF K,h.inv.yO h.cz.bd d f,by omega,by omega,by simp;omega,bZ h.low K.size⟩,qt.refl l z K,rfl,rfl,rfl⟩
 |none=>
  refine(UR h.cz n _ d f h.inv.le bO bO h.low).mono ?_;rintro e w' ⟨rfl,x,y,v,_,_,C,K,G⟩;refine⟨n,_,rfl,⟨C,h.inv.new h.cz.bd d f λs=>rfl,?_,?_,?_,bZ h.low K.size⟩,⟨K,G,.Af _ _ _ _ _ (.refl z) f (Nw h.cz.bd h.inv.le bO d (h.cz.yr _ (cH d)))⟩,rfl,rfl,rfl⟩
  .show z.ms+1+bB pend<=bB l+bB z.t*(4*bB l);omega
  .show bB (z.bs++[_])+bB pend<=bB z.t*(4*bB l+1);simp;omega
  show bB (todo++[(n,n)])+bB pend<=1+bB z.t*(4*bB l);simp;omega
variable{g:Uf.G}
theorem Iy(h:Uf.Ok n g k)(d:i<n)(f:j<n)(e:g.lo i=g.lo j):g.rt i=g.rt j:=by rw[<-h.Ql i d,e,h.Ql j f]
theorem Co(e:g.rt i=g.rt j):g.lo i=g.lo j:=by simp[Uf.G.lo,e]
theorem Vc(h:Uf.Ok n g k){low d:Nat}(hl:low<n)(q:d<n)(p:g.lo low=low)(o:g.lo d=d)(r:low<d):
  iA n g low d=aK∧∀i,i<n->(mX n g low d).lo i=if g.lo i=d then low else g.lo i:=by
 have f:g.rt low≠g.rt d:=λe=>by have:=Co e;omega
 have m:iA n g low d=aK:=by simp[iA,lN hl,lN q,f]
 refine⟨m,λi s=>?_⟩;have u:(g.N (g.rt low)).rz=low:=p;have x:(g.N (g.rt d)).rz=d:=o;rw[mX,m,cY rfl,eS,eS];grind[Uf.pick,Co,Iy,Uf.On,Nat.min_eq_left]
theorem Oj{w}{base}{l}{z}{P}(todo)(p:Nat×Nat)(h:Un w base l z P (todo++[p]) [])(a b low d)(hp:p=(a,b)∨p=(b,a))(D:z.g.lo a=low)(E:z.g.lo b=d)(m:low<d):
  aB prog 39 #[pz z.pk,iz low,iz d] w λe w'=>e=aw (.tuple #[])∧∃o:Zs,Un w' base l o P todo (z.us d)∧qt l w w' z o∧bB o.t=bB z.t+1∧o.uv d=z.uv d∧o.us d=z.us d:=by
 have I:=h.inv.inr p bQ;have f:a<bB l∧b<bB l:=cG
 have hl:low<bB l:=by have:=h.inv.le a f.1;omega
 have s:d<bB l:=by have:=h.inv.le b f.2;omega
 have B:z.g.lo low=low:=by rw[<-D];exact h.inv.idem a f.1
 have A:z.g.lo d=d:=by rw[<-E];exact h.inv.idem b f.2
 let⟨b1,b2⟩:=h.bound;have x:=h.ms;have q:=h.bs;have y:=h.td;simp only[dQ,cR,ed,fH] at x q y;have F:=h.cz.len;have R:=h.inv.Xy h.cz.bd hl B;have T:=h.inv.Xy h.cz.bd s A;let⟨J,u⟩:=Vc h.cz.ok hl s B A m;refine(YP h.cz low d hl s bO bO bO h.low).mono ?_;rintro e w' ⟨rfl,O,bm,Q,bl,M,N,U,H,_,_,_,_,_,C,K,G⟩;have L:bB (lz (bB l) z.g z.t low d)=bB z.t+1:=by grind[lz]
 refine⟨rfl,_,⟨C,h.inv.join h.cz.bd hp D E m u λr _=>rfl,?_,?_,?_,bZ h.low K.size⟩,⟨K,G,.join _ _ _ _ _ _ _ _ _ _ (.refl z) J hl (h.cz.ki low hl)⟩,L,cC bO,cC bO⟩
 .show z.ms+bB (z.us d)<=bB l+bB (lz (bB l) z.g z.t low d)*(4*bB l);grind[Nat.add_mul]
 .show bB (z.bs++[_])+bB (z.us d)<=bB (lz (bB l) z.g z.t low d)*(4*bB l+1);grind[Nat.add_mul]
 show bB todo+bB (z.us d)<=1+bB (lz (bB l) z.g z.t low d)*(4*bB l);grind[Nat.add_mul]
def Ju:(prog.info? 102).map (λi=>(i.zero,i.size,i.bytes))=ah (ah (.agg #[.string ⟨#[]⟩,aj ai 0 0]),2,40):=bV
variable{v:aA}
theorem iB.qO{xs:List Nat}(h:bD w base 3 1 v (bB xs) (gq xs)):
  ∃st:List (Nat×Obj),iB st v xs∧Sat st w∧∀x∈st,aP v=ah x.1:=by
 by_cases d:xs=[]
 .subst d;obtain⟨rfl,_⟩|⟨g,e,f,rfl,_⟩:=h.2
  .exact⟨[],⟨ai,0,rfl,by simp,.inl rfl⟩,λx d=>by simp at d,λx d=>by simp at d⟩
  exact⟨[],⟨_,e,rfl,by simp,.inl rfl⟩,λx d=>by simp at d,λx d=>by simp at d⟩
 let⟨x,m,p,q⟩:=iB.own h d;exact⟨[x],m,λy o=>by grind,λy o=>by grind⟩
structure Tf(w W:ay)(tb:Nat)(l:List Tm)(k:Nat)(av:Nat->aA)(st:List (Nat×Obj)):Prop where
 row:∃f,bE W tb 102 (bB l*2) f∧∀j,j<k*2->f j=vZ l av j
 sat:Sat st W
 ot:∀x∈st,w.heap.size<=x.1∧x.1≠tb
 args:∀(i:Nat)(t:Tm),i<k->l[i]?=ah t->iB st (av i) t.args
 kept:dG w W
 tb:w.heap.size<=tb
def uT(h:aC w.heap.size w w'):dG w w':=⟨h.os,h.tape,h.output,h.size,λk d _=>h.block k d⟩
variable{av:Nat->aA}{st:List (Nat×Obj)}{t:Tm}
theorem Tf.step{wr:ay}(T:Tf w wr tb l k av st)(J:l[k]?=ah t)(s:bD w2 wr.heap.size 3 1 v (bB t.args) (qZ t.args))(o:aC wr.heap.size wr w2):
  ∃r,Tf w (aW (aW w2 ⟨tb,k*2,ai⟩ (.string t.name)) ⟨tb,k*2+1,ai⟩ v) tb l (k+1) (λi=>if i=k then v else av i) r:=by
 let⟨m,L,E,F⟩:=iB.qO (xs:=t.args) s;let⟨f,R,G⟩:=T.row;have p:=R.lt;have B:bE w2 tb 102 (bB l*2) f:=R.of_block (o.block _ p);have h:∀x∈m,wr.heap.size<=x.1:=λx d=>(s.lt _ (F x d)).1;have fY:∀b,b≠tb->(aW (aW w2 ⟨tb,k*2,ai⟩ (.string t.name)) ⟨tb,k*2+1,ai⟩ v).heap[b]?=w2.heap[b]?:=λb A=>(cO _ _ _ _ A).trans (cO _ _ _ _ A);refine⟨st++m,⟨⟨_,(B.set (k*2) (.string t.name)).set (k*2+1) v,λj I=>?_⟩,λx d=>?_,λx d=>?_,λi u H C=>?_,?_,T.tb⟩⟩
 .grind[vZ]
 .obtain d|d:=cU.1 d
  .have q:x.1<wr.heap.size:=(bY.1 (T.sat x d)).1;exact(fY _ (T.ot x d).2).trans ((o.block _ q).trans (T.sat x d))
  have:=h x d;exact(fY _ bO).trans (E x d)
 .obtain d|d:=cU.1 d
  .exact T.ot x d
  have:=h x d;have:=T.kept.size;omega
 .by_cases e:i=k
  .grind[iB]
  show iB _ (if i=k then v else av i) u.args;rw[cC e];exact(T.args i u bO C).mono λy D=>dh _ D
 exact jo (jo (T.kept.trans (uT o)) T.tb _) T.tb _
theorem Lv{w}{base p}{ev}{nb J}{l}(h:Bk w base p ev nb J l):
  aB prog 16 #[pz p] w λe w'=>∃tb av st,e=aw (aj (ah (az tb 0)) (bB l) (bB l))∧Tf w w' tb l (bB l) av st:=by
 have H:=vx w h;have Q:=h.small;let⟨X,o,s,V,u⟩:=eB Ju;obtain⟨C,L,N⟩:∃C:Array aA,C.size=bB l*2∧(aV 59 (iz (bB l)) (iz (bB l))).run prog w=.ok (.slice (ah (az (hz w) 0)) (bB l) (bB l)) (bC w (.cells C 102)):=by have O:=oo (P:=prog) w 59 102 X _ underlying59 o s .i64 .i64 (bB l:Int) (bB l:Int) bO (kh _) (by rw[u];omega) bO;grind[Int.toNat_natCast,size_madeCells]
 have D:=ey w C 102;rw[L] at D;have G:dG w (bC w (.cells C 102)):=dD (bW _ w) _;go_enter func16,ntmps16
 go_wp2_with(go_at_call 35;refine H.mono ?_;rintro e w9 ⟨rfl,rfl⟩);generalize bC w (.cells C 102)=w1 at *
 go_loopw[10] (λd W=>∃(k:Nat)(av:Nat->aA)(st:List (Nat×Obj)),k<=bB l∧d=iz k∧Tf w W (hz w) l k av st) λd _=>bB l-(aG d).toNat
 case atStart=>exact⟨0,λ_=>aj ai 0 0,[],by omega,rfl,⟨⟨_,D,λj hj=>by omega⟩,λx r=>by simp at r,λx r=>by simp at r,λi t hi=>by omega,G,bT _⟩⟩
 case round=>
  obtain⟨k,av,st,hk,rfl,T⟩:=hrel;by_cases q:k<bB l
  .have I:=bM k (bB l);have E:l[k]?=ah l[k]:=bP q;have TS:=D7 (h.dF T.kept) k l[k] E;let⟨f,R,hf⟩:=T.row;have F:∀W,bz wr W->bE W (hz w) 102 (bB l*2) f:=λW B=>R.of_block (B.block _ R.lt);generalize M:l[k]=t at *
   go_wp2_with(go_at_call 36;refine TS.mono ?_;rintro e w2 ⟨v,rfl,A,y⟩;have m:=F w2 y;have y0:=m.cell (i:=k*2) bO;have y1:=m.cell (i:=k*2+1) bO;have f0:=m.frozen (k*2);have f1:=m.frozen (k*2+1);let⟨va,vc,U⟩:=iQ A;subst U);let⟨Y,Z⟩:=T.step E A y;grind[aG]
  have I:=bN k (bB l);obtain rfl:k=bB l:=bO
  go_wp2;go_ret;exact⟨_,av,st,rfl,T⟩
theorem yT(w:ay)(p:aE)(f:prog.underlying p=ah (.slice 3))(n:Nat)(r:n<=1000000):(aV p (iz n) (iz n)).run prog w=.ok (aj (ah (az w.heap.size 0)) n n) (bC w (aq (aJ #[iz 0] n) 3)):=by let⟨q,e,h,m,o⟩:=eB sN;have d:=oo (P:=prog) w p 3 q _ f e h .i64 .i64 (n:Int) (n:Int) bO (kh _) (by rw[o];omega) bO;rw[m] at d;simp[eS,iq] at d;exact d
def Vg:(prog.info? 110).map (λi=>(i.zero,i.size,i.bytes))=ah (ah (aj ai 0 0),1,24):=bV
theorem Qf(w:ay)(n:Nat)(p:n<=1000000):(aV 67 (iz n) (iz n)).run prog w=.ok (aj (ah (az w.heap.size 0)) n n) (bC w (aq (aJ #[aj ai 0 0] n) 110)):=by let⟨o,e,f,h,m⟩:=eB Vg;have d:=oo (P:=prog) w 67 110 o _ underlying67 e f .i64 .i64 (n:Int) (n:Int) bO (kh _) (by rw[m];omega) bO;rw[h] at d;simp[eS,iq] at d;exact d
def Rm(W:ay)(rb total N:Nat)(c:Nat->Nat)(d:List (Nat×Nat)):Prop:=∃g,bE W rb 3 total g∧∀i,i<N->∀j x:Nat,(Cc.Bi d i)[j]?=ah x->g (Cc.kf c i+j)=ae af x
theorem Rm.step{f N:Nat}{c:Nat->Nat}{d:List (Nat×Nat)}(h:Rm W rb f N c d){a:Nat}(r:Cc.jy d a<c a)(o:∀i,Cc.jy d i<=c i):
  Rm (aW W ⟨rb,Cc.kf c a+Cc.jy d a,ai⟩ (ae af n)) rb f N c (d++[(a,n)]):=by
 obtain⟨g,R,s⟩:=h;refine⟨_,R.set (Cc.kf c a+Cc.jy d a) (ae af n),λi u j x m=>?_⟩;rw[Cc.Ht] at m;show(if Cc.kf c i+j=Cc.kf c a+Cc.jy d a then Value.int .i64 n else g (Cc.kf c i+j))=_;by_cases e:i=a
 .grind[Cc.jy]
 rw[cC e] at m;have p:j<Cc.jy d i:=(bU.1 m).1;have q:=o i;have:¬Cc.kf c i+j=Cc.kf c a+Cc.jy d a:=by
  obtain e|e:=Nat.lt_or_gt_of_ne e
  .have:=Cc.sJ c e;omega
  have:=Cc.sJ c e;omega
 grind
def Nu(rb:Nat)(c:Nat->Nat)(d:List (Nat×Nat))(i:Nat):aA:=aj (ah ⟨rb,if c i=0 then 0 else Cc.kf c i,ai⟩) (Cc.jy d i) (c i)
structure Fu(w w':ay)(ub:Nat)(l:List Tm)(uv:Nat->aA)(st:List (Nat×Obj)):Prop where
 row:bE w' ub 110 (bB l) uv
 sat:Sat st w'
 ot:∀x∈st,w.heap.size<=x.1∧x.1≠ub
 ld:∀i,i<bB l->iB st (uv i) (Cc.Bi (Cc.nJ l 0) i)
 kept:dG w w'
 ub:w.heap.size<=ub
theorem Fu.made(h:bE w' (rb+1) 110 (bB l) (Nu rb (Cc.jy (Cc.nJ l 0)) (Cc.nJ l 0)))(m:Rm w' rb (bB (Cc.nJ l 0)) (bB l) (Cc.jy (Cc.nJ l 0)) (Cc.nJ l 0))(f:Cc.kf (Cc.jy (Cc.nJ l 0)) (bB l)=bB (Cc.nJ l 0))(K:dG w w')(u:w.heap.size<=rb):
  ∃uv d,Fu w w' (rb+1) l uv d:=by
 obtain⟨g,⟨C,A,B,D⟩,y⟩:=m;refine⟨_,[(rb,.cells C 3 (0,0))],⟨h,λx s=>by grind,λx s=>by grind,λi p=>?_,K,by omega⟩⟩;refine⟨_,Cc.jy (Cc.nJ l 0) i,rfl,bT _,?_⟩;by_cases e:Cc.Bi (Cc.nJ l 0) i=[]
 .exact .inl e
 have o:Cc.jy (Cc.nJ l 0) i≠0:=λx=>e (eE x);refine .inr ⟨rb,Cc.kf (Cc.jy (Cc.nJ l 0)) i,C,(0,0),by rw[cC o],by simp,λj x q=>?_⟩;have r:j<Cc.jy (Cc.nJ l 0) i:=(bU.1 q).1;have:=Cc.sJ (Cc.jy (Cc.nJ l 0)) p;grind
theorem VG(w l tb av)(st:List (Nat×Obj))(hR:bE w tb 102 (bB l*2) (vZ l av))(hS:Sat st w)(hA:∀(i:Nat)(t:Tm),l[i]?=ah t->iB st (av i) t.args)(hb:Cc.Bd l)(hl:bB l<=150):
  aB prog 33 #[aj (ah (az tb 0)) (bB l) (bB l)] w λe w'=>∃ub uv ap,e=aw (aj (ah (az ub 0)) (bB l) (bB l))∧Fu w w' ub l uv ap:=by
 have M1:=yT w 39 underlying39 (bB l) bO;have R1:=Am w (iz 0) (bB l) 3;have K1:dG w (bC w (aq (aJ #[iz 0] (bB l)) 3)):=dD (bW _ w) _;go_enter func33,ntmps33
 go_wp2;clear M1;generalize bC w (aq (aJ #[iz 0] (bB l)) 3)=w1 at *;have Z:=hb.four;have ao:=hR.lt;generalize u:w.heap.size=N at *;have T0:∀W,dG w W->∀(n:Nat)(t:Tm),l[n]?=ah t->aU W ⟨tb,n*2,ai⟩=ah (.string t.name)∧aU W ⟨tb,n*2+1,ai⟩=ah (av n):=λW K n t h=>by
  have hn:=(bU.1 h).1;have R:=du hR (K.block tb bO λe=>e);refine⟨?_,?_⟩
  .rw[R.cell (i:=n*2) bO];simp[vZ,h]
  rw[R.cell (i:=n*2+1) bO];grind[vZ]
 have C:=bL T0;clear T0;have SS:∀W,dG w W->Sat st W:=λW K x hx=>(K.block x.1 (bY.1 (hS x hx)).1 λe=>e).trans (hS x hx)
 go_loopw[4,23] (λt4 a0 W=>∃n:Nat,n<=bB l∧a0=iz n∧t4=iz (bB (Cc.nJ (l.take n) 0):Int)∧bE W N 3 (bB l) (λi=>iz (Cc.jy (Cc.nJ (l.take n) 0) i:Int))∧dG w W) λ_ a0 _=>bB l-(aG a0).toNat
 case atStart=>exact⟨0,by omega,rfl,rfl,R1,K1⟩
 case round=>
  clear R1 K1;obtain⟨n,hn,rfl,rfl,R,K⟩:=hrel;by_cases r:n<bB l
  .have dn:=bM n (bB l);have h:l[n]?=ah l[n]:=bP r;generalize ag:l[n]=t at h;let⟨t0,t1⟩:=C.out wr K n t h;let⟨L,M,A⟩:=(hA n t h).form;rw[A] at t1;have Q:=hA n t h;rw[A] at Q;have K2:dG w (bC wr (aq #[.string t.name,aj L (bB t.args) M] 102)):=K.alloc _;have X:=R.alloc (aq #[.string t.name,aj L (bB t.args) M] 102);rw[<-Cc.BV l n t] at X;have e0:bB (Cc.nJ (l.take n) 0)=bB (Cc.pre l n t 0):=by rw[Cc.BV]
   go_wp2;rw[e0];generalize bC wr (aq #[.string t.name,aj L (bB t.args) M] 102)=w2 at *;clear t0 t1 R K
   go_loopw[4,30] (λt4 a1 W=>∃k:Nat,k<=bB t.args∧a1=iz k∧t4=iz (bB (Cc.pre l n t k):Int)∧bE W N 3 (bB l) (λi=>iz (Cc.jy (Cc.pre l n t k) i:Int))∧dG w W) λ_ a1 _=>bB t.args-(aG a1).toNat
   case atStart=>exact⟨0,by omega,rfl,rfl,X,K2⟩
   case round=>
    clear X K2;obtain⟨k,hk,rfl,rfl,R,K⟩:=hrel;by_cases s:k<bB t.args
    .have dk:=bM k (bB t.args);have f:t.args[k]?=ah t.args[k]:=bP s;let⟨b,off,bj,J,_,hc⟩:=Q.cell (SS wr K) f;injection J with e1 G e3;clear G;subst e1 e3;have ck:=hc k _ f;clear hc;have D:=hb.args n t h _ (dw s);have cj:=Cc.Yi Z h k;have ci:=Cc.abx (Cc.pre l n t k) t.args[k];have R':=eO (R.set t.args[k] (iz ((Cc.jy (Cc.pre l n t k) t.args[k]:Int)+1))) (g:=λi=>iz (Cc.jy (Cc.pre l n t (k+1)) i:Int)) (λi hi=>by
      rw[Cc.qM f,Cc.uR];by_cases e:i=t.args[k]
      .rw[cY e,cY e,e];simp
      rw[cC e,cC e])
     have cc:=R.cell (i:=t.args[k]) D;have fc:=R.frozen t.args[k];have y:bB (Cc.pre l n t (k+1))=bB (Cc.pre l n t k)+1:=by rw[Cc.qM f];simp
     generalize t.args[k]=d at *;generalize Cc.jy (Cc.pre l n t k) d=cn at *;generalize bB (Cc.pre l n t k)=pn at *;have bx:bB t.args<=4:=Z t (cH h);have HF:Hid (_∧_∧_):=⟨R',y,jo (off:=d) K (Nat.le_of_eq u) (iz ((cn:Int)+1))⟩
     clear R R' y K Q f A hA hR hS C SS hb Z ag h e0 ao u
     go_wp2;let⟨R',y,K'⟩:=HF.out;refine⟨⟨k+1,s,?_,?_,R',K'⟩,?_⟩
     .simp
     .rw[y];simp
     simp[aG];omega
    have dk:=bN k (bB t.args);obtain rfl:k=bB t.args:=bO
    rw[Cc.NL h] at R⊢
    go_wp2;exact⟨⟨n+1,by omega,by simp,rfl,R,K⟩,by simp[aG];omega⟩
  have dn:=bN n (bB l);obtain rfl:n=bB l:=bO
  rw[Cc.Oy] at R⊢;have ch:bB (Cc.nJ l 0)<=4*bB l:=Cc.Ov Z 0;have p:Cc.kf (Cc.jy (Cc.nJ l 0)) (bB l)=bB (Cc.nJ l 0):=Cc.Uu _ _ (Cc.abj (λt h a ha=>by obtain⟨n,hn,rfl⟩:=gF.1 h;exact hb.args n _ (bP hn) a ha) 0)
  have M2:=yT wr 110 underlying110 (bB (Cc.nJ l 0)) bO;have M3:=Qf (bC wr (aq (aJ #[iz 0] (bB (Cc.nJ l 0))) 3)) (bB l) bO;have Rr:=kX (Am wr (iz 0) (bB (Cc.nJ l 0)) 3) (aq (aJ #[aj ai 0 0] (bB l)) 110);have m:=Am (bC wr (aq (aJ #[iz 0] (bB (Cc.nJ l 0))) 3)) (aj ai 0 0) (bB l) 110;have bc:(bC wr (aq (aJ #[iz 0] (bB (Cc.nJ l 0))) 3)).heap.size=wr.heap.size+1:=bQ
  rw[bc] at M3 m;have B:=(R.alloc (aq (aJ #[iz 0] (bB (Cc.nJ l 0))) 3)).alloc (aq (aJ #[aj ai 0 0] (bB l)) 110);have K5:=(K.alloc (aq (aJ #[iz 0] (bB (Cc.nJ l 0))) 3)).alloc (aq (aJ #[aj ai 0 0] (bB l)) 110);have bb:N<wr.heap.size:=R.lt
  go_wp2;clear M2 M3 R K bc;generalize bC (bC wr (aq (aJ #[iz 0] (bB (Cc.nJ l 0))) 3)) (aq (aJ #[aj ai 0 0] (bB l)) 110)=w5 at *;generalize wr.heap.size=rb at *;generalize hE:Cc.nJ l 0=E at *;have ab:Hid (Cc.nJ l 0=E):=hE;clear hE
  go_loopw[11,51] (λce a2 W=>∃n:Nat,n<=bB l∧a2=iz n∧ce=iz (Cc.kf (Cc.jy E) n:Int)∧bE W (rb+1) 110 (bB l) (λi=>if i<n then Nu rb (Cc.jy E) [] i else aj ai 0 0)∧bE W N 3 (bB l) (λi=>iz (Cc.jy E i:Int))∧bE W rb 3 (bB E) (λ_=>iz 0)∧dG w W) λ_ a2 _=>bB l-(aG a2).toNat
  case atStart=>exact⟨0,by omega,rfl,rfl,m.congr (λi _=>by simp),B,Rr,K5⟩
  case round=>
   clear m B Rr K5;obtain⟨n,hn,rfl,rfl,m,B,Rr,K⟩:=hrel;by_cases r:n<bB l
   .have dn:=bM n (bB l);have cc:=B.cell (i:=n) r;have ca:=m.cell (i:=n) r;rw[cC (tT n)] at ca;have fa:=m.frozen n;have al:=Cc.sJ (Cc.jy E) r;rw[p] at al;have U:Cc.kf (Cc.jy E) (n+1)=Cc.kf (Cc.jy E) n+Cc.jy E n:=rfl;have a8:Hid (Nu rb (Cc.jy E) [] n=aj (ah ⟨rb,if Cc.jy E n=0 then 0 else Cc.kf (Cc.jy E) n,ai⟩) 0 (Cc.jy E n)):=rfl;generalize H:Cc.jy E n=cn at *;generalize I:Cc.kf (Cc.jy E) n=on at *;clear hA hR hS C SS hb Z p ao;have HH:Hid (_∧_∧_∧_∧_∧_):=⟨H,I,m,B,Rr,K⟩
    clear H I m B Rr K;by_cases ba:cn=0
    .subst ba
     go_wp2;let⟨H,I,m,B,Rr,K⟩:=HH.out;have J:=a8.out;rw[cY rfl] at J;refine⟨⟨n+1,r,by simp,by rw[U];rfl,(m.set n _).congr λi hi=>?_,B.setOther (show N≠rb+1 by omega) _,Rr.setOther (show rb≠rb+1 by omega) _,jo K bO _⟩,by simp[aG];omega⟩;by_cases e:i=n
     .rw[cY e,e,cY (jG n),J]
     rw[cC e];by_cases G:i<n
     .rw[cY G,cY bO]
     rw[cC G,cC bO]
    go_wp2;let⟨H,I,m,B,Rr,K⟩:=HH.out;have J:=a8.out;rw[cC ba] at J;refine⟨⟨n+1,r,by simp,by rw[U];simp,(m.set n _).congr λi hi=>?_,B.setOther (show N≠rb+1 by omega) _,Rr.setOther (show rb≠rb+1 by omega) _,jo K bO _⟩,by simp[aG];omega⟩;by_cases e:i=n
    .rw[cY e,e,cY (jG n),J]
    rw[cC e];by_cases G:i<n
    .rw[cY G,cY bO]
    rw[cC G,cC bO]
   have dn:=bN n (bB l);obtain rfl:n=bB l:=bO
   have a5:bE wr (rb+1) 110 (bB l) (Nu rb (Cc.jy E) (Cc.nJ (l.take 0) 0)):=m.congr (λi hi=>by rw[cY hi];rfl);have a6:Rm wr rb (bB E) (bB l) (Cc.jy E) (Cc.nJ (l.take 0) 0):=⟨_,Rr,λi _ j x hj=>by simp[Cc.nJ,Cc.Bi] at hj⟩
   have HC:Hid (N<rb∧w.heap.size=N):=⟨bb,u⟩
   clear bb u ao
   go_wp2;clear m B Rr
   go_loopw[72] (λa3 W=>∃n:Nat,n<=bB l∧a3=iz n∧bE W (rb+1) 110 (bB l) (Nu rb (Cc.jy E) (Cc.nJ (l.take n) 0))∧Rm W rb (bB E) (bB l) (Cc.jy E) (Cc.nJ (l.take n) 0)∧dG w W) λa3 _=>bB l-(aG a3).toNat
   case atStart=>exact⟨0,by omega,rfl,a5,a6,K⟩
   case round=>
    clear a5 a6 K;obtain⟨n,hn,rfl,m,o,K⟩:=hrel;by_cases r:n<bB l
    .have dn:=bM n (bB l);have h:l[n]?=ah l[n]:=bP r;generalize ag:l[n]=t at h;clear ag;let⟨t0,t1⟩:=C.out wr K n t h;have Q:=hA n t h;let⟨L,M,A⟩:=Q.form;rw[A] at t1 Q;have K2:dG w (bC wr (aq #[.string t.name,aj L (bB t.args) M] 102)):=K.alloc _;have X:=m.alloc (aq #[.string t.name,aj L (bB t.args) M] 102);have Y:Rm (bC wr (aq #[.string t.name,aj L (bB t.args) M] 102)) rb (bB E) (bB l) (Cc.jy E) (Cc.nJ (l.take n) 0):=by
      obtain⟨g,q1,q2⟩:=o;exact⟨g,q1.alloc _,q2⟩
     rw[<-Cc.BV l n t] at X Y;have HT:Hid (l[n]?=ah t):=h;clear h
     go_wp2;have h:=HT.out;clear HT;generalize bC wr (aq #[.string t.name,aj L (bB t.args) M] 102)=w6 at *;clear t0 t1 m o K A
     go_loopw[80] (λa4 W=>∃k:Nat,k<=bB t.args∧a4=iz k∧bE W (rb+1) 110 (bB l) (Nu rb (Cc.jy E) (Cc.pre l n t k))∧Rm W rb (bB E) (bB l) (Cc.jy E) (Cc.pre l n t k)∧dG w W) λa4 _=>bB t.args-(aG a4).toNat
     case atStart=>exact⟨0,by omega,rfl,X,Y,K2⟩
     case round=>
      clear X Y K2;obtain⟨k,hk,rfl,m,o,K⟩:=hrel;by_cases s:k<bB t.args
      .have dk:=bM k (bB t.args);have f:t.args[k]?=ah t.args[k]:=bP s;let⟨b,off,bj,J,_,hc⟩:=Q.cell (SS wr K) f;injection J with e1 G e3;clear G;subst e1 e3;have ck:=hc k _ f;clear hc;have D:=hb.args n t h _ (dw s);have bx:bB t.args<=4:=Z t (cH h);generalize t.args[k]=d at *;have ad:∀i,Cc.jy (Cc.pre l n t k) i<=Cc.jy E i:=λi=>by rw[<-ab.out];exact Cc.NK h k i
       have T:Cc.jy (Cc.pre l n t k) d<Cc.jy E d:=by have:=Cc.NK h (k+1) d;rw[Cc.qM f,Cc.uR,cY rfl,ab.out] at this;omega
       have al:=Cc.sJ (Cc.jy E) D;rw[p] at al;have a7:=o.step (n:=n) T ad;rw[<-Cc.qM f] at a7;have ca:=m.cell (i:=d) D;have fa:=m.frozen d;have an:Nu rb (Cc.jy E) (Cc.pre l n t k) d=.slice (ah ⟨rb,Cc.kf (Cc.jy E) d,ai⟩) (Cc.jy (Cc.pre l n t k) d) (Cc.jy E d):=by unfold Nu;rw[cC bO]
       have V:Nu rb (Cc.jy E) (Cc.pre l n t (k+1)) d=.slice (ah ⟨rb,Cc.kf (Cc.jy E) d,ai⟩) (Cc.jy (Cc.pre l n t k) d+1) (Cc.jy E d):=by unfold Nu;rw[cC bO,Cc.qM f,Cc.uR,cY rfl]
       have be:∀i,i≠d->Nu rb (Cc.jy E) (Cc.pre l n t (k+1)) i=Nu rb (Cc.jy E) (Cc.pre l n t k) i:=λi hi=>by unfold Nu;rw[Cc.qM f,Cc.uR,cC hi]
       rw[an] at ca;obtain⟨g,Rg,hg⟩:=o;have b6:Cc.kf (Cc.jy E) d+Cc.jy (Cc.pre l n t k) d<bB E:=bO
       have cr:∀O,aU (bC wr O) ⟨rb,Cc.kf (Cc.jy E) d+Cc.jy (Cc.pre l n t k) d,ai⟩=ah (g (Cc.kf (Cc.jy E) d+Cc.jy (Cc.pre l n t k) d))∧bG (bC wr O) ⟨rb,Cc.kf (Cc.jy E) d+Cc.jy (Cc.pre l n t k) d,ai⟩=aL:=λO=>by have:=Rg.alloc O;exact⟨this.cell b6,this.frozen _⟩
       have bi:Hid (∀O,(bE (aW (aW (bC wr O) ⟨rb,Cc.kf (Cc.jy E) d+Cc.jy (Cc.pre l n t k) d,ai⟩ (iz n)) ⟨rb+1,d,ai⟩ (.slice (ah ⟨rb,Cc.kf (Cc.jy E) d,ai⟩) (Cc.jy (Cc.pre l n t k) d+1) (Cc.jy E d))) (rb+1) 110 (bB l) (Nu rb (Cc.jy E) (Cc.pre l n t (k+1))))∧Rm (aW (aW (bC wr O) ⟨rb,Cc.kf (Cc.jy E) d+Cc.jy (Cc.pre l n t k) d,ai⟩ (iz n)) ⟨rb+1,d,ai⟩ (.slice (ah ⟨rb,Cc.kf (Cc.jy E) d,ai⟩) (Cc.jy (Cc.pre l n t k) d+1) (Cc.jy E d))) rb (bB E) (bB l) (Cc.jy E) (Cc.pre l n t (k+1))∧dG w (aW (aW (bC wr O) ⟨rb,Cc.kf (Cc.jy E) d+Cc.jy (Cc.pre l n t k) d,ai⟩ (iz n)) ⟨rb+1,d,ai⟩ (.slice (ah ⟨rb,Cc.kf (Cc.jy E) d,ai⟩) (Cc.jy (Cc.pre l n t k) d+1) (Cc.jy E d)))):=λO=>by
        let⟨h1,h2⟩:=HC.out;refine⟨?_,?_,?_⟩
        .refine(((m.alloc O).setOther (a:=⟨rb,Cc.kf (Cc.jy E) d+Cc.jy (Cc.pre l n t k) d,ai⟩) (show rb+1≠rb by omega) (iz n)).set d _).congr λi hi=>?_;by_cases e:i=d
         .rw[cY e,e,V]
         rw[cC e,be i e]
        .have:=Rm.step (W:=bC wr O) (n:=n) (⟨g,Rg.alloc O,hg⟩:Rm (bC wr O) rb (bB E) (bB l) (Cc.jy E) (Cc.pre l n t k)) T ad;rw[<-Cc.qM f] at this;obtain⟨g',q1,q2⟩:=this;exact⟨g',q1.setOther (a:=⟨rb+1,d,ai⟩) (show rb≠rb+1 by omega) _,q2⟩
        exact jo (jo (K.alloc O) bO _) bO _
       have a9:∀O,aU (aW (bC wr O) ⟨rb,Cc.kf (Cc.jy E) d+Cc.jy (Cc.pre l n t k) d,ai⟩ (iz n)) ⟨rb+1,d,ai⟩=ah (.slice (ah ⟨rb,Cc.kf (Cc.jy E) d,ai⟩) (Cc.jy (Cc.pre l n t k) d) (Cc.jy E d))∧bG (aW (bC wr O) ⟨rb,Cc.kf (Cc.jy E) d+Cc.jy (Cc.pre l n t k) d,ai⟩ (iz n)) ⟨rb+1,d,ai⟩=aL:=λO=>by have q:=(m.alloc O).setOther (a:=⟨rb,Cc.kf (Cc.jy E) d+Cc.jy (Cc.pre l n t k) d,ai⟩) (show rb+1≠rb by omega) (iz n);exact⟨by rw[q.cell D,an],q.frozen _⟩
       have HT:Hid (l[n]?=ah t∧t.args[k]?=ah d):=⟨h,f⟩
       let⟨i0,bo,b7,b8,bR⟩:=eB sN;clear h f m Rg hg an V be K a7 ad Q hA hS SS hR C hb p Z;generalize Cc.jy E d=cE at *;generalize Cc.kf (Cc.jy E) d=oE at *;generalize Cc.jy (Cc.pre l n t k) d=cd at *;let⟨q1,q2⟩:=a9 (aq #[iz n] 3);let⟨q3,q4⟩:=cr (aq #[iz n] 3);have b0:cd+1<=cE:=bO
       clear cr a9 bo b7 b8 bR
       go_wp2;let⟨f1,f2,f3⟩:=bi.out (aq #[iz n] 3);exact⟨⟨k+1,s,by simp,f1,f2,f3⟩,by simp[aG];omega⟩
      have dk:=bN k (bB t.args);obtain rfl:k=bB t.args:=bO
      rw[Cc.NL h] at m o;have HT:Hid (l[n]?=ah t):=h;clear h
      go_wp2;exact⟨⟨n+1,by omega,by simp,m,o,K⟩,by simp[aG];omega⟩
    have dn:=bN n (bB l);obtain rfl:n=bB l:=bO
    rw[Cc.Oy] at m o
    go_wp2;go_ret;let⟨h1,h2⟩:=HC.out;have hE:=ab.out;rw[hE] at m o;rw[<-hE] at m o p;let⟨uv,ap,F⟩:=Fu.made m o p K bO;exact⟨_,uv,ap,rfl,F⟩
def acA:Uf.g0.lo=id:=rfl
def Kn(l:List Tm)(k:Nat)(kn:Tm->Option Nat):Prop:=∀(s:Tm)(m:Nat),kn s=ah m↔m<k∧∃t,l[m]?=ah t∧Cc.sg id t=s
theorem Kn.step{kn:Tm->Option Nat}(h:Kn l k kn)(d:Cc.Bd l)(f:l[k]?=ah t):Kn l (k+1) (λu=>if u=Cc.sg id t then ah k else kn u):=by
 intro s m;by_cases e:s=Cc.sg id t
 .subst e;simp only[iX];grind[Cc.aaM]
 simp only[e,jF];rw[h s m];grind
def z0(l:List Tm)(pk ps nb tb ub mb:Nat)(av uv:Nat->aA)(st:List (Nat×Obj))(kn:Tm->Option Nat)(ms:Nat):Zs:=
 {pk:=pk,ps:=ps,nb:=nb,tb:=tb,ub:=ub,mb:=mb,jv:=aj ai 0 0,bv:=aj ai 0 0,av:=av,uv:=uv,g:=Uf.g0,t:=[],bs:=[],st:=st,us:=λi=>Cc.Bi (Cc.nJ l 0) i,kn:=kn,ms:=ms}
theorem Cz.made{q:ay}(E:bE w tb 102 (bB l*2) (vZ l av))(M:Sat st w)(J:∀(i:Nat)(t:Tm),l[i]?=ah t->iB st (av i) t.args)(N:Cc.Bd l)(y:∀t∈l,t.ok)(hl:bB l<=150)(h:base<=w.heap.size)(B:base<=tb)(A:∀x∈st,base<=x.1)(o:∀x∈st,x.1<w.heap.size)(S1:St q w.heap.size (w.heap.size+1) w.heap.size (aj ai 0 0) (bB l) Uf.g0 [])(D:aC w.heap.size w q){ub:Nat}{uv:Nat->aA}{p:List (Nat×Obj)}(F:Fu q w2 ub l uv p):
  Cz (bC (bC w2 (.map #[] 0)) (aq #[ak (ah ⟨w.heap.size+1,0,ai⟩),aj (ah (az tb 0)) (bB l) (bB l),aj (ah (az ub 0)) (bB l) (bB l),.map (ah w2.heap.size),aj ai 0 0] 71)) base l
   (z0 l (w2.heap.size+1) (w.heap.size+1) w.heap.size tb ub w2.heap.size av uv (st++p) (λ_=>ai) 0):=by
 have k2:=F.kept;have Y:=k2.size;have G:w.heap.size+1<q.heap.size:=S1.mu.ie.lt;have hs:(bC w2 (.map #[] 0)).heap.size=w2.heap.size+1:=bQ
 have m:dG w2 (bC (bC w2 (.map #[] 0)) (aq #[ak (ah ⟨w.heap.size+1,0,ai⟩),aj (ah (az tb 0)) (bB l) (bB l),aj (ah (az ub 0)) (bB l) (bB l),.map (ah w2.heap.size),aj ai 0 0] 71)):=dD (dD (bW _ w2) _) _;have u:tb<w.heap.size:=E.lt;have U:=F.ub;have C:=F.row.lt;refine⟨?_,?_,?_,F.row.of_block (m.block _ C λe=>e),?_,eR _ _ _ _,?_,?_,λi t T=>(J i t T).mono λx d=>dh _ d,λi O=>(F.ld i O).mono λx d=>gm _ d,N,y,hl,?_,B,?_,?_⟩
 .have r:=ey (bC w2 (.map #[] 0)) #[ak (ah ⟨w.heap.size+1,0,ai⟩),aj (ah (az tb 0)) (bB l) (bB l),aj (ah (az ub 0)) (bB l) (bB l),.map (ah w2.heap.size),aj ai 0 0] 71;rw[hs] at r;refine r.congr λj Q=>?_;have R:j<5:=Q;obtain rfl|rfl|rfl|rfl|rfl:=(by omega:j=0∨j=1∨j=2∨j=3∨j=4)<;>rfl
 .have S2:=(S1.other F.kept (λe=>e) (λe=>e) λ_ _ e=>e).other m (λe=>e) (λe=>e) λ_ _ e=>e;have L:=S2.mu;exact⟨⟨L.ie,L.nodes,eR _ _ _ _,L.ne,L.jp,L.jn,by show base<=w.heap.size+1;omega,h,L.small⟩,S2.Ag,by have:=m.size;omega⟩
 .exact((E.of_block (D.block _ u)).of_block (k2.block _ bO λe=>e)).of_block (m.block _ bO λe=>e)
 .have V:=jC (H:=Unit) w2 prog 98 (plainElem prog 3);exact⟨.map [],jP (V.alloc _),dt _,λs _=>⟨rfl,rfl⟩⟩
 .intro x d;obtain d|d:=cU.1 d
  .have:=o x d;exact(m.block _ bO λe=>e).trans ((k2.block _ bO λe=>e).trans ((D.block _ this).trans (M x d)))
  have:=(bY.1 (F.sat x d)).1;exact(m.block _ this λe=>e).trans (F.sat x d)
 .intro x d;obtain d|d:=cU.1 d
  .have:=o x d;refine⟨A x d,?_⟩;rintro(e|(e|e|e)|e|e|e)
   .have f:x.1=w2.heap.size+1:=e;omega
   .have f:x.1=w.heap.size+1:=e;omega
   .have f:x.1=w.heap.size:=e;omega
   .simp[z0,aP] at e
   .have f:x.1=ub:=e;omega
   .have f:x.1=w2.heap.size:=e;omega
   simp[z0,aP] at e
  have I:=F.ot x d;have X:=(bY.1 (F.sat x d)).1;refine⟨by omega,?_⟩;rintro(e|(e|e|e)|e|e|e)
  .have f:x.1=w2.heap.size+1:=e;omega
  .have f:x.1=w.heap.size+1:=e;omega
  .have f:x.1=w.heap.size:=e;omega
  .simp[z0,aP] at e
  .exact I.2 e
  .have f:x.1=w2.heap.size:=e;omega
  simp[z0,aP] at e
 .show base<=w2.heap.size+1;omega
 .show base<=ub;omega
 show base<=w2.heap.size;omega
end
section
theorem Yy{w}(base l tb av){st:List (Nat×Obj)}(Q:bE w tb 102 (bB l*2) (vZ l av))(R:Sat st w)(hA:∀(i:Nat)(t:Tm),l[i]?=ah t->iB st (av i) t.args)(D:Cc.Bd l)(H:∀t∈l,t.ok)(hl:bB l<=150)(a:base<=w.heap.size)(X:base<=tb)(V:∀x∈st,base<=x.1):
  aB prog 15 #[aj (ah (az tb 0)) (bB l) (bB l)] w λe w'=>∃z:Zs,e=aw (pz z.pk)∧Un w' base l z [] [] []∧dG w w'∧w.heap.size<=z.pk∧(∀k,z.nO k->base<=k):=by
 have I:∀x∈st,x.1<w.heap.size:=λx J=>(bY.1 (R x J)).1;have N:=WQ w (bB l) bO;have L:∀o,aC w.heap.size w o->aB prog 33 #[aj (ah (az tb 0)) (bB l) (bB l)] o λe w'=>∃ub uv d,e=aw (aj (ah (az ub 0)) (bB l) (bB l))∧Fu o w' ub l uv d:=λo g=>VG o l tb av st (Q.of_block (g.block _ Q.lt)) (λx J=>(g.block _ (I x J)).trans (R x J)) hA D hl
 have ac:=@rA prog;go_enter func15,ntmps15
 go_wp2_with(first|(go_at_call 32;refine N.mono ?_;rintro e o ⟨rfl,S1,g⟩;have FI:=L o g)|(go_at_call 33;refine FI.mono ?_;rintro e y ⟨ub,uv,d,rfl,F⟩));have C0:=Cz.made Q R hA D H hl a X V I S1 g F;have K0:dG w (bC (bC y (.map #[] 0)) (aq #[ak (ah ⟨w.heap.size+1,0,ai⟩),aj (ah (az tb 0)) (bB l) (bB l),aj (ah (az ub 0)) (bB l) (bB l),.map (ah y.heap.size),aj ai 0 0] 71)):=dD (dD ((uT g).trans F.kept) _) _;have ag:w.heap.size<=y.heap.size:=((uT g).trans F.kept).size;generalize bC (bC y (.map #[] 0)) (aq #[ak (ah ⟨w.heap.size+1,0,ai⟩),aj (ah (az tb 0)) (bB l) (bB l),aj (ah (az ub 0)) (bB l) (bB l),.map (ah y.heap.size),aj ai 0 0] 71)=w4 at *;generalize y.heap.size=mb at *
 go_loopw[16] (λj W=>∃(k:Nat)(kn:Tm->Option Nat),k<=bB l∧j=iz k∧Cz W base l (z0 l (mb+1) (w.heap.size+1) w.heap.size tb ub mb av uv (st++d) kn k)∧Hid (Kn l k kn)∧dG w W) λj _=>bB l-(aG j).toNat
 case atStart=>exact⟨0,λ_=>ai,by omega,rfl,C0,λs m=>by simp,K0⟩
 case round=>
  obtain⟨k,kn,hk,rfl,C,G,K⟩:=hrel;by_cases E:k<bB l
  .have dk:=bM k (bB l);have h:l[k]?=ah l[k]:=bP E;generalize ab:l[k]=t at h;have U:Sk (Cc.sg Uf.g0.lo t):=Nw D (lo:=Uf.g0.lo) (λi _=>bT _) bO h (H t (cH h));have c3:aU wr ⟨mb+1,3,ai⟩=ah (.map (ah mb)):=C.k3;have aa:∀W,dG wr W->aU W ⟨mb+1,3,ai⟩=ah (.map (ah mb)):=λW A=>(C.dF A).k3;have SG:∀W,dG wr W->aB prog 34 #[ak (ah ⟨mb+1,0,ai⟩),iz k] W λe w'=>e=aw (.agg #[.string (Cc.sg Uf.g0.lo t).name,iz ((Cc.sg Uf.g0.lo t).arg 0:Int),iz ((Cc.sg Uf.g0.lo t).arg 1:Int),iz ((Cc.sg Uf.g0.lo t).arg 2:Int),iz ((Cc.sg Uf.g0.lo t).arg 3:Int)])∧dG W w':=λW A=>LJ (C.dF A) k t h;have O:∀W,dG wr W->∃w',(Instr.mapUpdate 68 (.map (ah mb)) (.agg #[.string (Cc.sg Uf.g0.lo t).name,iz ((Cc.sg Uf.g0.lo t).arg 0:Int),iz ((Cc.sg Uf.g0.lo t).arg 1:Int),iz ((Cc.sg Uf.g0.lo t).arg 2:Int),iz ((Cc.sg Uf.g0.lo t).arg 3:Int)]) (iz k)).run prog W=.ok () w'∧Cz w' base l (z0 l (mb+1) (w.heap.size+1) w.heap.size tb ub mb av uv (st++d) (λu=>if u=Cc.sg Uf.g0.lo t then ah k else kn u) (k+1))∧dV mb W w':=λW A=>(C.dF A).store U (n:=k) bO (show k<1000000 by omega);have HH:Hid (_∧_∧_):=⟨h,C,K⟩
   generalize T:Cc.sg Uf.g0.lo t=s at *;have M:Hid (Cc.sg Uf.g0.lo t=s):=T
   go_wp2
   go_region_held3 (λW=>aU W ⟨mb+1,3,ai⟩=ah (.map (ah mb))) (first|assumption|grind) (first|(go_at_call 34;refine(SG _ aex).mono ?_;rintro e w5 ⟨rfl,K5⟩;have Z:dG wr w5:=gQ aex K5;let⟨w6,ad,Y,K6⟩:=O w5 Z;have s6:aU w6 ⟨mb+1,3,ai⟩=ah (.map (ah mb)):=Y.k3))
   all_goals
    go_wp2;let⟨h,_,K⟩:=HH.out;have f:=Kn.step G.out D h;rw[<-acA,M.out] at f;exact⟨⟨k+1,_,E,by simp,Y,f,(K.trans Z).tz K6 λi hi=>.inr bO⟩,by simp[aG];omega⟩
  have dk:=bN k (bB l);obtain rfl:k=bB l:=bO
  go_wp2;go_ret;refine⟨_,rfl,⟨C,?_,by simp[z0],by simp[z0],by simp,bZ a K.size⟩,K,by show w.heap.size<=mb+1;omega,λk hk=>C.wX hk⟩;have hI:Cc.Inv l [] id (λi=>Cc.Bi (Cc.nJ l 0) i) kn [] []:=Cc.Inv.start D (λr _ n=>Cc.aaz l r n) (λs m=>by rw[G.out s m];grind)
  exact hI
def Jv:(prog.info? 34).map (λi=>(i.zero,i.size,i.bytes))=ah (ah (.agg #[iz 0,iz 0]),2,16):=bV
theorem yW(a):bB (kZ a)=bB a*2:=by
 induction a with
 |nil=>rfl
 |cons x a d=>simp[kZ] at d⊢;omega
theorem Qw(a b):kZ (a++b)=kZ a++kZ b:=by simp[kZ]
structure Td(W:ay)(B:Nat)(z:Zs)(v:aA)(todo:List (Nat×Nat)):Prop where
 row:bD W B 34 2 v (bB todo) (kZ todo)
 ot:∀k,aP v=ah k->¬z.nO k
variable{l:List Tm}{W W' w w':ay}{B p b n k i nb fb q base':Nat}{z z':Zs}{v v' ev av:aA}{todo P:List (Nat×Nat)}
theorem Td.Xv(h:Td W B z v todo)(g:qt l W W' z z'):Td W' B z' v todo:=by
 refine⟨gh h.row λk a=>g.kept.block k (h.row.lt k a).2 λe=>h.ot k a (.inl e),λk a d=>?_⟩;obtain e|e:=g.rV.all d
 .exact h.ot k a e
 have:=(h.row.lt k a).2;omega
def Td.dF(h:Td W B z v todo)(K:dG W W'):Td W' B z v todo:=
 ⟨h.row.kept K.grownBy (j8 _),h.ot⟩
theorem Td.last{a:List (Nat×Nat)}{p:Nat×Nat}(h:Td W B z v (a++[p])):
  ∃g d,v=aj (ah (az g 0)) (bB a+1) d∧bB a+1<=d∧aU W ⟨g,bB a*2,ai⟩=ah (iz p.1)∧aU W ⟨g,bB a*2+1,ai⟩=ah (iz p.2)∧Td W B z (aj (ah (az g 0)) (bB a) d) a:=by
 have f:=h.row;rw[cR,eD,Qw] at f;let⟨g,d,t⟩:=ownsRow_succ f;subst t;have j:bB a+1<=d:=by
  obtain⟨e,_⟩|⟨u,o,r,e,_,_,m,_⟩:=f.2
  .cases e
  cases e;exact m
 have c0:=f.cellAt (bB a*2) bO;have c1:=f.cellAt (bB a*2+1) bO;rw[dr (by rw[yW];omega),yW] at c0 c1;refine⟨g,d,rfl,j,by simpa[kZ] using c0,by simpa[kZ] using c1,⟨ownsRow_pop (yW a) f,λk s=>h.ot k (by simpa[aP] using s)⟩⟩
theorem iF.st{a b:Zs}(h:iF l a b):∀x∈a.st,x∈b.st:=by
 induction h with
 |refl=>exact λx d=>d
 |Af n s f m v _ _ _ e=>exact λx d=>dh _ (e x d)
 |join low high f bm j bl jv g v bv _ _ _ _ e=>exact λx d=>dh _ (dh _ (e x d))
variable{S:Nat->Prop}
def qt.keep(h:qt l w W z z')(K:bI S W W')(a:∀k,S k->w.heap.size<=k):qt l w W' z z':=
 ⟨h.kept.tz K λk d=>.inr (a k d),h.rV,h.chain⟩
variable{pend:List Nat}
theorem Td.push{base:Nat}{td:List (Nat×Nat)}{m:Nat}(h:Td W w.heap.size z' v td)(U:Un W base l z' P (td++[(n,m)]) pend)(G:qt l w W z z')(O)(f:bD W' w.heap.size 34 2 v' (bB td+1) (kZ td++[iz n,iz m]))(a:bH (bC W O) W' (aP v))(d:aP v'=aP v∨∀k,aP v'=ah k->(bC W O).heap.size<=k):
  Td W' w.heap.size z' v' (td++[(n,m)])∧Un W' base l z' P (td++[(n,m)]) pend∧qt l w W' z z':=by
 have K:bI (λk=>aP v=ah k) W W':=gA ((bW _ W).alloc O) a λ_ e=>e;refine⟨⟨?_,λk j g=>?_⟩,U.keep K λk g e=>h.ot k e g,G.keep K λk j=>(h.row.lt k j).1⟩
 .rw[Ct,cR];exact f
 obtain e|e:=d
 .exact h.ot k (e▸j) g
 have o:=e k j;have r:=U.cz.pj g;simp at o;omega
theorem SD{w}{base}{l}{z}(P a b)(h:Un w base l z P [(a,b)] []):
  aB prog 19 #[pz z.pk,.agg #[iz a,iz b]] w λe w'=>e=aw (.tuple #[])∧∃z':Zs,Un w' base l z' P [] []∧qt l w w' z z':=by
 have K1:dG w (bC (bC w (aq #[iz a,iz b] 34)) (aq #[iz a,iz b] 34)):=dD (dD (bW _ w) _) _;have a3:(bC w (aq #[iz a,iz b] 34)).heap.size=w.heap.size+1:=bQ
 have T1:Td (bC (bC w (aq #[iz a,iz b] 34)) (aq #[iz a,iz b] 34)) w.heap.size z (aj (ah ⟨w.heap.size+1,0,ai⟩) 1 1) [(a,b)]:=by
  refine⟨?_,λk hk hA=>?_⟩
  .rw[<-a3];exact World.ownsRow_lit _ #[iz a,iz b] 1 (by rw[a3];omega) bS rfl
  simp[aP] at hk;have:=h.cz.pj hA;omega
 have b0:=h.cz.len;go_enter func19,ntmps19
 go_wp2;generalize bC (bC w (aq #[iz a,iz b] 34)) (aq #[iz a,iz b] 34)=w1 at *;have U1:=h.dF K1;have W1:qt l w w1 z z:=W7 l z K1
 go_loopg[4] ((bB l-bB z.t)*(4*bB l+1)+1) λk v W=>∃(z':Zs)(todo:List (Nat×Nat)),Hid (k=(bB l-bB z'.t)*(4*bB l+1)+bB todo)∧Td W w.heap.size z' v todo∧Un W base l z' P todo []∧qt l w W z z'
 case atStart=>exact⟨z,[(a,b)],rfl,T1,U1,W1⟩
 case round=>
  obtain⟨z',todo,hk,T,U,G⟩:=hrel;obtain rfl|⟨d,p,rfl⟩:=List.eq_nil_or_concat todo
  .let⟨va,vc,hv⟩:=iQ T.row;subst hv
   go_wp2
   go_end0
   exact⟨rfl,z',U,G⟩
  rw[List.concat_eq_append] at hk T U;let⟨g,b7,hv,bx,c0,c1,T2⟩:=T.last;subst hv;have M:z'.pk=z.pk:=G.rV.pk;have H:=U.inv.inr p bQ;have be:=U.td;let⟨b1,b2⟩:=U.bound;simp only[cR,ed,dQ] at be;have K2:dG wr (bC wr (aq #[iz p.1,iz p.2] 34)):=dD (bW _ wr) _;have R2:=ey wr #[iz p.1,iz p.2] 34
  go_wp2;have T3:=T2.dF K2;have U3:=U.dF K2;have G3:=G.trans (W7 l z' K2);generalize bC wr (aq #[iz p.1,iz p.2] 34)=w3 at *;generalize wr.heap.size=b6 at *;have x0:cz w3 b6 0 (iz p.1):=R2.cell (i:=0) bQ;have x1:cz w3 b6 1 (iz p.2):=R2.cell (i:=1) bQ;have k0:=U3.cz.k0;rw[M] at k0;have LX:=λ(m:Nat)(x:Nat)(hx:x<bB l)=>(U3.cz.drewN m).least hx;go_quiet((go_at_call 38;exact Calls.quiet_of (LX _ _ (by first|exact H.1|exact H.2))));have K4:dG w3 (bF w3 nq):=(bW _ w3).drewN nq;have T4:=T3.dF K4;have u:=U3.dF K4;have G4:=G3.trans (W7 l z' K4);generalize bF w3 nq=w4 at *;by_cases hs:z'.g.lo p.1=z'.g.lo p.2
  .have ds:((z'.g.lo p.1:Int)==(z'.g.lo p.2:Int))=aK:=by rw[hs];simp
   have y:Un w4 base l z' P d []:=by have hI:Cc.Inv l P z'.g.lo z'.us z'.kn (d++[(p.1,p.2)]) []:=u.inv;exact⟨u.cz,hI.drop hs,u.ms,u.bs,by simp only[dQ];omega,u.low⟩
   go_wp2
   go_roundg ((bB l-bB z'.t)*(4*bB l+1)+bB d)
   case measure=>rw[hk.out];simp
   case rel=>exact⟨z',d,rfl,T4,y,G4⟩
  have ds:((z'.g.lo p.1:Int)==(z'.g.lo p.2:Int))=aL:=gB.2 bO;by_cases ba:z'.g.lo p.2<z'.g.lo p.1
  .have JN:=Oj d p u p.2 p.1 _ _ (.inr rfl) rfl rfl ba;have s:z'.g.lo p.1<bB l:=by have:=u.inv.le p.1 H.1;omega
   rw[M] at JN
   go_wp2_with(go_at_call 39;refine JN.mono ?_;rintro e w5 ⟨rfl,I,y,Y,bc,a6,R⟩;have a0:=y.cz.k2;rw[Y.rV.pk,M] at a0;have a1:=y.cz.u s;let⟨ua,uc,Q⟩:=abP (y.cz.ki _ s);rw[Q] at a1);have X5:iB I.st (.slice ua (bB (z'.us (z'.g.lo p.1))) uc) (z'.us (z'.g.lo p.1)):=by have:=y.cz.ki _ s;rw[Q,R] at this;exact this
   have T5:=T4.Xv Y;have F:=G4.trans Y;have D:Hid ((bB l-bB I.t)*(4*bB l+1)+(4*bB l+1)=(bB l-bB z'.t)*(4*bB l+1)):=by
    have h1:=y.tle;have h2:bB l-bB z'.t=(bB l-bB I.t)+1:=bO
    show _=_;rw[h2,rB,Nat.one_mul]
   have bi:bB (z'.us (z'.g.lo p.1))<=4*bB l:=by have:=u.inv.Xy u.cz.bd s (u.inv.idem _ H.1);exact this
   have aa:Hid (_=_):=hk.out;generalize z'.us (z'.g.lo p.1)=f at *
   go_loopw[4,60] (λv E W=>∃(j:Nat)(t:Zs)(td:List (Nat×Nat)),j<=bB f∧E=iz j∧Td W w.heap.size t v td∧Un W base l t P td (f.drop j)∧qt l w W z t∧Hid (bB t.t=bB I.t)∧Hid (bB td=bB d+j)∧iB t.st (aj ua (bB f) uc) f) λ_ E _=>bB f-(aG E).toNat
   case atStart=>exact⟨0,I,d,by omega,rfl,T5,by simpa using y,F,rfl,rfl,X5⟩
   case round=>
    obtain⟨j,t,td,hj,rfl,Z,A,F,O,L,X6⟩:=hrel;let⟨va,vc,hv⟩:=iQ Z.row;subst hv;by_cases J:j<bB f
    .have dj:=bM j (bB f);have V:f[j]?=ah f[j]:=bP J;let⟨bb,bo,a2,al,_,ab⟩:=X6.cell A.cz.sat V;injection al with e1 _ e3;subst e1 e3;have cj:=ab j _ V;have N:t.pk=z.pk:=F.rV.pk;rw[dP J] at A;have LK:=Og f[j] (f.drop (j+1)) A;rw[N] at LK;have a8:=A.bound;have a4:=A.td;let⟨i0,ad,an,ao,ap⟩:=eB Jv;generalize bj:f[j]=xn at *
     go_wp2_with(first|(go_at_call 40;refine LK.mono ?_;rintro e w7 ⟨m7,z7,rfl,U7,X,ag,a7,a5⟩;have T7:=Z.Xv X;have a9:w.heap.size<=w7.heap.size:=bZ F.kept.size X.kept.size)|(at_builtin;refine gK rfl _ _ 109 rfl w.heap.size 34 i0 _ 2 16 underlying109 ad an ao ap rfl bS _ (bB td) (kZ td) rfl (T7.row.alloc _) (az w7.heap.size 0) 1 1 [iz xn,iz m7] rfl rfl (pE w7 0 _ _ _) cM cJ bO bX ?_;intro v8 w8 o r C;let⟨ga,gc,ac⟩:=iQ o;subst ac));let⟨T8,U8,G8⟩:=T7.push U7 (F.trans X) _ o r C;refine⟨⟨j+1,z7,td++[(xn,m7)],by omega,by simp,T8,U8,G8,?_,?_,X6.mono X.chain.st⟩,by simp[aG];omega⟩
     .show bB z7.t=bB I.t;rw[ag];exact O.out
     show bB (td++[(xn,m7)])=bB d+(j+1)
     have:=L.out;simp;omega
    have dj:=bN j (bB f);obtain rfl:j=bB f:=bO
    rw[nz] at A
    go_wp2
    go_roundg ((bB l-bB t.t)*(4*bB l+1)+bB td)
    case measure=>have h1:=aa.out;have h2:=D.out;have h3:=L.out;have h4:=O.out;rw[h1,h4,h3,<-h2];simp;omega
    case rel=>exact⟨t,td,rfl,Z,A,F⟩
  have JN:=Oj d p u p.1 p.2 _ _ (.inl rfl) rfl rfl bO;have s:z'.g.lo p.2<bB l:=by have:=u.inv.le p.2 H.2;omega
  rw[M] at JN
  go_wp2_with(go_at_call 39;refine JN.mono ?_;rintro e w5 ⟨rfl,I,y,Y,bc,a6,R⟩;have a0:=y.cz.k2;rw[Y.rV.pk,M] at a0;have a1:=y.cz.u s;let⟨ua,uc,Q⟩:=abP (y.cz.ki _ s);rw[Q] at a1);have X5:iB I.st (.slice ua (bB (z'.us (z'.g.lo p.2))) uc) (z'.us (z'.g.lo p.2)):=by have:=y.cz.ki _ s;rw[Q,R] at this;exact this
  have T5:=T4.Xv Y;have F:=G4.trans Y;have D:Hid ((bB l-bB I.t)*(4*bB l+1)+(4*bB l+1)=(bB l-bB z'.t)*(4*bB l+1)):=by
   have h1:=y.tle;have h2:bB l-bB z'.t=(bB l-bB I.t)+1:=bO
   show _=_;rw[h2,rB,Nat.one_mul]
  have bi:bB (z'.us (z'.g.lo p.2))<=4*bB l:=by have:=u.inv.Xy u.cz.bd s (u.inv.idem _ H.2);exact this
  have aa:Hid (_=_):=hk.out;generalize z'.us (z'.g.lo p.2)=f at *
  go_loopw[4,60] (λv E W=>∃(j:Nat)(t:Zs)(td:List (Nat×Nat)),j<=bB f∧E=iz j∧Td W w.heap.size t v td∧Un W base l t P td (f.drop j)∧qt l w W z t∧Hid (bB t.t=bB I.t)∧Hid (bB td=bB d+j)∧iB t.st (aj ua (bB f) uc) f) λ_ E _=>bB f-(aG E).toNat
  case atStart=>exact⟨0,I,d,by omega,rfl,T5,by simpa using y,F,rfl,rfl,X5⟩
  case round=>
   obtain⟨j,t,td,hj,rfl,Z,A,F,O,L,X6⟩:=hrel;let⟨va,vc,hv⟩:=iQ Z.row;subst hv;by_cases J:j<bB f
   .have dj:=bM j (bB f);have V:f[j]?=ah f[j]:=bP J;let⟨bb,bo,a2,al,_,ab⟩:=X6.cell A.cz.sat V;injection al with e1 _ e3;subst e1 e3;have cj:=ab j _ V;have N:t.pk=z.pk:=F.rV.pk;rw[dP J] at A;have LK:=Og f[j] (f.drop (j+1)) A;rw[N] at LK;have a8:=A.bound;have a4:=A.td;let⟨i0,ad,an,ao,ap⟩:=eB Jv;generalize bj:f[j]=xn at *
    go_wp2_with(first|(go_at_call 40;refine LK.mono ?_;rintro e w7 ⟨m7,z7,rfl,U7,X,ag,a7,a5⟩;have T7:=Z.Xv X;have a9:w.heap.size<=w7.heap.size:=bZ F.kept.size X.kept.size)|(at_builtin;refine gK rfl _ _ 109 rfl w.heap.size 34 i0 _ 2 16 underlying109 ad an ao ap rfl bS _ (bB td) (kZ td) rfl (T7.row.alloc _) (az w7.heap.size 0) 1 1 [iz xn,iz m7] rfl rfl (pE w7 0 _ _ _) cM cJ bO bX ?_;intro v8 w8 o r C;let⟨ga,gc,ac⟩:=iQ o;subst ac));let⟨T8,U8,G8⟩:=T7.push U7 (F.trans X) _ o r C;refine⟨⟨j+1,z7,td++[(xn,m7)],by omega,by simp,T8,U8,G8,?_,?_,X6.mono X.chain.st⟩,by simp[aG];omega⟩
    .show bB z7.t=bB I.t;rw[ag];exact O.out
    show bB (td++[(xn,m7)])=bB d+(j+1)
    have:=L.out;simp;omega
   have dj:=bN j (bB f);obtain rfl:j=bB f:=bO
   rw[nz] at A
   go_wp2
   go_roundg ((bB l-bB t.t)*(4*bB l+1)+bB td)
   case measure=>have h1:=aa.out;have h2:=D.out;have h3:=L.out;have h4:=O.out;rw[h1,h4,h3,<-h2];simp;omega
   case rel=>exact⟨t,td,rfl,Z,A,F⟩
structure Ks where
 pc:Nat
 tv:aA
 told:List Nat
 z:Zs
def Ks.gE(k:Ks)(i:Nat):Prop:=i=k.pc∨aP k.tv=ah i∨k.z.gE i
def Ks.nO(k:Ks)(i:Nat):Prop:=i=k.pc∨aP k.tv=ah i∨k.z.nO i
def Ks.gE.all{k:Ks}(h:k.gE i):k.nO i:=h.imp id λh=>h.imp id .inl
def Gy(pk:Nat)(tv:aA)(j:Nat):aA:=if j=0 then ak (ah ⟨pk,0,ai⟩) else tv
structure Cl(w:ay)(base:Nat)(l:List Tm)(c:Ks)(P:List (Nat×Nat)):Prop where
 uS:bE w c.pc 62 2 (Gy c.z.pk c.tv)
 told:bD w base 3 1 c.tv (bB c.told) (gq c.told)
 un:Un w base l c.z P [] []
 JK:¬c.z.nO c.pc
 QU:∀k,aP c.tv=ah k->¬c.z.nO k
 bp:base<=c.pc
 num:bB c.told=bB P
variable{c:Ks}
theorem Cl.pj{base:Nat}(h:Cl w base l c P)(a:c.nO k):k<w.heap.size:=by
 obtain e|e|e:=a
 .rw[e];exact h.uS.lt
 .exact(h.told.lt k e).2
 exact h.un.cz.pj e
theorem Cl.wX{base:Nat}(h:Cl w base l c P)(a:c.nO k):base<=k:=by
 obtain e|e|e:=a
 .rw[e];exact h.bp
 .exact(h.told.lt k e).1
 exact h.un.cz.wX e
def Cl.keep{base:Nat}(h:Cl w base l c P)(K:bI S w w')(d:∀k,c.nO k->¬S k):Cl w' base l c P:=
 ⟨h.uS.of_block (K.block _ h.uS.lt (d _ (.inl rfl))),gh h.told λk a=>K.block k (h.told.lt k a).2 (d k (.inr (.inl a))),h.un.keep K λk a=>d k (.inr (.inr a)),h.JK,h.QU,h.bp,h.num⟩
def Cl.dF{base:Nat}(h:Cl w base l c P)(K:dG w w'):Cl w' base l c P:=h.keep K λ_ _ e=>e
def Cl.c0{base:Nat}(h:Cl w base l c P):cz w c.pc 0 (pz c.z.pk):=h.uS.cell (i:=0) bO
def Cl.c1{base:Nat}(h:Cl w base l c P):cz w c.pc 1 c.tv:=h.uS.cell (i:=1) bO
theorem AO{w}{base}{l}{c}{P}(h:Cl w base l c P)(a):
  aB prog 18 #[pz c.pc,iz a] w λe w'=>e=aw (.bool (mD (bB l) a))∧w=w':=by
 have c0:=h.c0;have k1:=h.un.cz.k1;go_enter func18,ntmps18
 go_wp2
 .go_ret;exact⟨fr (MB ‹_›),rfl⟩
 go_ret;exact⟨fr (Mz ‹_›),rfl⟩
theorem Jn{w}{base}{l}{c}{P}(h:Cl w base l c P)(a b):
  aB prog 11 #[pz c.pc,iz a,iz b] w λe w'=>e=aw (.bool (lW (bB l) c.z.g a b))∧∃m,w'=bF w m:=by
 have c0:=h.c0;have k0:=h.un.cz.k0;have d:=ZK h.un.cz.ie.mu _ h.un.cz.ok a b;go_enter func11,ntmps11
 go_wp2_with(go_at_call 26;refine d.mono ?_;rintro e f ⟨rfl,m,rfl⟩);go_ret;exact⟨rfl,m,rfl⟩
theorem Va{w}{base}{l}{c}{P}(h:Cl w base l c P):
  aB prog 224 #[pz c.pc] w λe w'=>e=aw (iz (bB P))∧w=w':=by
 have c1:=h.c1;let⟨f,g,a⟩:=iQ h.told;rw[a] at c1;have d:=h.num;rw[<-d];clear h d;go_enter func224,ntmps224
 go_wp2;go_ret;exact⟨rfl,rfl⟩
theorem Jo{w}(base){l}{c}{P}(h:Cl w base l c P):
  aB prog 90 #[pz c.pc] w λe w'=>e=aw (aj (ah (az w.heap.size 0)) (bB l) (bB l))∧bE w' w.heap.size 3 (bB l) (λi=>iz (c.z.g.lo i:Int))∧dG w w':=by
 have g:=h.un.cz.len;have t:=yT w 39 underlying39 (bB l) bO;have u:=Am w (iz 0) (bB l) 3;have s:dG w (bC w (aq (aJ #[iz 0] (bB l)) 3)):=dD (bW _ w) _;have c0:=h.c0;have k1:=h.un.cz.k1;go_enter func90,ntmps90
 go_wp2;generalize bC w (aq (aJ #[iz 0] (bB l)) 3)=A at *
 go_loopw[16] (λd W=>∃k:Nat,k<=bB l∧d=iz k∧bE W (hz w) 3 (bB l) (λi=>iz (if i<k then(c.z.g.lo i:Int) else 0))∧dG w W) λd _=>bB l-(aG d).toNat
 case atStart=>grind
 case round=>
  obtain⟨k,y,rfl,R,K⟩:=hrel;by_cases a:k<bB l
  .have o:=bM k (bB l);have H:=h.dF K;have c0:=H.c0;have k0:=H.un.cz.k0;have m:=H.un.cz.least a;have x:=R.cell (i:=k) a;have fk:=R.frozen k;have j:Hid (_∧_):=⟨R,K⟩
   go_wp2_with(go_at_call 38;refine m.mono ?_;rintro e C ⟨rfl,r,rfl⟩);let⟨R,K⟩:=j.out;refine⟨⟨k+1,a,by simp,?_,jo (K.drewN _) (bT _) _⟩,by simp[aG];omega⟩;refine eO (jf (du R rfl:bE (bF wr r) (hz w) 3 (bB l) _) k _) λi f=>?_;by_cases e:i=k
   .rw[cY e,e,cY (jG k)]
   grind
  have o:=bN k (bB l);obtain rfl:k=bB l:=bO
  go_wp2;go_ret;exact⟨rfl,R.congr (λi f=>by rw[cY f]),K⟩
theorem AQ{w}{base p}{ev}{nb fb}{l}(h:Bk w base p ev nb fb l)(C:Cc.Bd l)(hl:bB l<=150):
  aB prog 5 #[pz p] w λe w'=>∃c:Ks,e=aw (pz c.pc)∧Cl w' w.heap.size l c []∧dG w w':=by
 have A:=Lv h;have y:∀a tb av st,Tf w a tb l (bB l) av st->aB prog 15 #[aj (ah (az tb 0)) (bB l) (bB l)] a λe w'=>∃z:Zs,e=aw (pz z.pk)∧Un w' w.heap.size l z [] [] []∧dG a w'∧a.heap.size<=z.pk∧(∀k,z.nO k->w.heap.size<=k):=λa tb av st T=>by let⟨f,R,D⟩:=T.row;exact Yy w.heap.size l tb av (R.congr λj E=>D j E) T.sat (λi t u=>T.args i t (bU.1 u).1 u) C h.yr hl T.kept.size T.tb λx G=>(T.ot x G).1
 go_enter func5,ntmps5
 go_wp2_with(first|(go_at_call 16;refine A.mono ?_;rintro e a ⟨tb,av,st,rfl,T⟩;have g:=y a tb av st T)|(go_at_call 15;refine g.mono ?_;rintro e d ⟨z,rfl,U,r,hz,H⟩));go_ret;have s:dG d (bC d (aq #[pz z.pk,aj ai 0 0] 62)):=dD (bW _ d) _;have o:w.heap.size<=d.heap.size:=bZ T.kept.size r.size;refine⟨⟨d.heap.size,aj ai 0 0,[],z⟩,rfl,⟨?_,eR _ _ _ _,U.dF s,λm=>?_,λk F=>by simp[aP] at F,o,rfl⟩,(T.kept.trans r).trans s⟩
 .exact(AW d (pz z.pk) (aj ai 0 0) 62)
 have:=U.cz.pj m;exact tT _ this
theorem yV{w}{base}{l}{c}{P}(h:Cl w base l c P)(a b)(g:(mD (bB l) a&&mD (bB l) b)=aL):
  aB prog 7 #[pz c.pc,iz a,iz b] w λe w'=>e=aw (iz 7)∧w=w':=by
 have d:=AO h a;have j:=AO h b;cases f:mD (bB l) a
 .rw[f] at d;go_enter func7,ntmps7
  go_wp2_with(go_at_call 18;refine d.mono ?_;rintro e w' ⟨rfl,rfl⟩);go_ret;exact⟨rfl,rfl⟩
 have m:mD (bB l) b=aL:=by simpa[f] using g
 rw[f] at d;rw[m] at j;go_enter func7,ntmps7
 go_wp2_with fail;refine d.mono ?_;rintro e w' ⟨rfl,rfl⟩
 go_wp2_with fail;refine j.mono ?_;rintro e w' ⟨rfl,rfl⟩
 go_wp2;go_ret;exact⟨rfl,rfl⟩
theorem Cl.aco{r w1:ay}{base:Nat}(h:Cl w base l c P)(s:dG w r)(v')(d:bD w1 base 3 1 v' (bB c.told+1) (gq c.told++[iz (bB c.z.bs)]))(f:bH r w1 (aP c.tv))(j:aP v'=aP c.tv∨∀k,aP v'=ah k->r.heap.size<=k):
  cz w1 c.pc 1 c.tv∧bG w1 (az c.pc 1)=aL∧cz w1 c.pc 0 (pz c.z.pk)∧bI (λk=>aP c.tv=ah k) w w1∧
  bE (aW w1 (az c.pc 1) v') c.pc 62 2 (Gy c.z.pk v')∧bD (aW w1 (az c.pc 1) v') base 3 1 v' (bB (c.told++[bB c.z.bs])) (gq (c.told++[bB c.z.bs]))∧Un (aW w1 (az c.pc 1) v') base l c.z P [] []∧bI c.gE w (aW w1 (az c.pc 1) v')∧(∀k,aP v'=ah k->¬c.z.nO k)∧(∀k,aP v'=ah k->aP c.tv=ah k∨w.heap.size<=k):=by
 have m:bI (λk=>aP c.tv=ah k) w w1:=gA (dW s λ_ _ e=>e.elim) f λ_ e=>e;have t:bI (λk=>k=c.pc∨aP c.tv=ah k) w (aW w1 (az c.pc 1) v'):=eY (p:=az c.pc 1) (dW m λ_ _ e=>.inr e) (.inl rfl) _;have o:=dY h.uS bS h.told;have hp:bE w1 c.pc 62 2 (Gy c.z.pk c.tv):=h.uS.of_block (m.block _ h.uS.lt o);have np:=dY hp bS d;have a:∀k,aP v'=ah k->aP c.tv=ah k∨w.heap.size<=k:=λk g=>by
  obtain e|e:=j
  .exact .inl (e▸g)
  exact .inr (bZ s.size (e k g))
 refine⟨hp.cell (i:=1) bO,hp.frozen 1,hp.cell (i:=0) bO,m,(hp.set 1 v').congr λi x=>?_,?_,h.un.keep t ?_,dW t ?_,λk g u=>?_,a⟩
 .grind[Gy]
 .rw[cR,<-xP];exact fR d np _
 .rintro k g (e|e)
  .exact h.JK (e▸g)
  exact h.QU k e g
 .rintro k _ (e|e)
  .exact .inl e
  exact .inr (.inl e)
 obtain e|e:=a k g
 .exact h.QU k e u
 have:=h.un.cz.pj u;omega
theorem Cl.merged{m j:ay}{base:Nat}(h:Cl w base l c P){a:Nat}(r:bE m c.pc 62 2 (Gy c.z.pk v'))(o:bD m base 3 1 v' (bB (c.told++[bB c.z.bs])) (gq (c.told++[bB c.z.bs])))(y:bI c.gE w m)(u:∀k,aP v'=ah k->¬c.z.nO k)(A:∀k,aP v'=ah k->aP c.tv=ah k∨w.heap.size<=k)(C:Un j base l z' (P++[(a,b)]) [] [])(d:qt l m j c.z z'):
  ∃g:Ks,Cl j base l g (P++[(a,b)])∧bI c.gE w j∧g.pc=c.pc∧(∀k,g.nO k->c.nO k∨w.heap.size<=k)∧iF l c.z g.z∧g.told=c.told++[bB c.z.bs]:=by
 have t:¬c.z.gE c.pc:=λe=>h.JK (.inl e);refine⟨⟨c.pc,v',c.told++[bB c.z.bs],z'⟩,⟨?_,gh o λk f=>d.kept.block k (o.lt k f).2 λe=>u k f (.inl e),C,λs=>?_,λk f s=>?_,h.bp,by simp[h.num]⟩,y.trans (dW d.kept λk _ e=>.inr (.inr e)),rfl,λk f=>?_,d.chain,rfl⟩
 .have:=r.of_block (d.kept.block _ r.lt t);show bE j c.pc 62 2 (Gy z'.pk v');rw[d.rV.pk];exact this
 .obtain e|e:=d.rV.all s
  .exact h.JK e
  have D:=r.lt;grind
 .obtain e|e:=d.rV.all s
  .exact u k f e
  have:=(o.lt k f).2;omega
 obtain e|e|e:=f
 .exact .inl (.inl e)
 .exact(A k e).imp (λx=>.inr (.inl x)) id
 obtain e|e:=d.rV.all e
 .exact .inl (.inr (.inr e))
 exact .inr (bZ y.size e)
theorem wP{w}(base){l}{c}(P)(h:Cl w base l c P)(a b)(ha:a<bB l)(hb:b<bB l)(hn:(bB P+1)*8<=140737488355328):
  aB prog 7 #[pz c.pc,iz a,iz b] w λe w'=>e=aw (iz 0)∧∃y:Ks,Cl w' base l y (P++[(a,b)])∧bI c.gE w w'∧y.pc=c.pc∧(∀k,y.nO k->c.nO k∨w.heap.size<=k)∧iF l c.z y.z∧y.told=c.told++[bB c.z.bs]:=by
 have Z:=AO h a;have HB:=AO h b;rw[lN ha] at Z;rw[lN hb] at HB;let⟨t,u,m⟩:=iQ h.told;let⟨ba,bc,r⟩:=iQ h.un.cz.back;have aa:bB c.z.bs<=90150:=by have A:=h.un.bs;have:=h.un.bound.2;simp only[dQ] at A;omega
 have s:bB c.told=bB P:=h.num;have c0:=h.c0;have c1:=h.c1;have k4:=h.un.cz.k4;rw[m] at c1;rw[r] at k4;have A1:∀O,aU (bC w O) (az c.pc 1)=ah (aj t (bB c.told) u):=λO=>by rw[<-m];exact(h.dF ((bW _ w).alloc O)).c1
 have A4:∀O,aU (bC w O) (az c.z.pk 4)=ah (aj ba (bB c.z.bs) bc):=λO=>by rw[<-r];exact(h.dF ((bW _ w).alloc O)).un.cz.k4
 have N:∀O,(bC w O).drew.ownsRow base 3 1 (aj t (bB c.told) u) (bB c.told) (gq c.told):=λO=>by rw[<-m];exact fT h.told O
 have L:=uH w 0 (iz (bB c.z.bs)) 3;have g:∀w1 O v',bD w1 base 3 1 v' (bB c.told+1) (gq c.told++[iz (bB c.z.bs)])->(bC w O).drew.grownBy w1 (aP (aT t (bB c.told) u))->(aP v'=aP (aT t (bB c.told) u)∨∀k,aP v'=ah k->(bC w O).drew.heap.size<=k)->_:=λw1 O v' A D E=>h.aco (w1:=w1) (((bW _ w).alloc O).drew) v' A (by rw[<-m] at D;exact D) (by rw[<-m] at E;exact E);have G:∀w1 O v',bD w1 base 3 1 v' (bB c.told+1) (gq c.told++[iz (bB c.z.bs)])->(bC w O).drew.grownBy w1 (aP (aT t (bB c.told) u))->(aP v'=aP (aT t (bB c.told) u)∨∀k,aP v'=ah k->(bC w O).drew.heap.size<=k)->
   aU w1 (az c.pc 1)=ah (aj t (bB c.told) u)∧bG w1 (az c.pc 1)=aL∧aU w1 (az c.pc 0)=ah (pz c.z.pk):=λw1 O v' A D E=>by
  let⟨q1,q2,q3,_⟩:=g w1 O v' A D E;simp_all
 have R:=h.un.low;let⟨i0,T,V,X,Y⟩:=eB sN;have HH:Hid (_∧_∧_):=⟨h,g,s⟩
 rw[<-s] at hn;clear h g m r s;go_enter func7,ntmps7
 go_wp2_with fail;refine Z.mono ?_;rintro e w' ⟨rfl,rfl⟩
 go_wp2_with fail;refine HB.mono ?_;rintro e w' ⟨rfl,rfl⟩
 go_wp2_with fail;go_region_law(refine fe rfl (.tmp 21) (.tmp 30) 39 rfl base 3 i0 _ 1 8 underlying39 T V X Y rfl bS _ (bB c.told) (gq c.told) (by simp[bq];rfl) (by exact N _) (az w.heap.size 0) 1 1 [iz (bB c.z.bs)] (by simp[bq]) rfl (by exact L) cM cJ bO bX ?_;intro v' w1 d f j;let⟨ad,ac,ab⟩:=G w1 _ v' d f j;let⟨b1,o,U⟩:=ownsRow_succ d;subst U;replace d:=bL d;replace f:=bL f;replace j:Hid _:=j);all_goals
  let⟨h,g,_⟩:=HH.out;let⟨_,_,_,_,C,M,x,I,H,J⟩:=g w1 _ _ d.out f.out j.out;have Q:Un (aW w1 (az c.pc 1) (aj (ah (az b1 0)) (bB c.told+1) o)) base l c.z (P++[(a,b)]) [(a,b)] []:=⟨x.cz,x.inv.tell ha hb,x.ms,x.bs,by simp,x.low⟩
  have UN:=SD (P++[(a,b)]) a b Q;have d0:aU (aW w1 (az c.pc 1) (aj (ah (az b1 0)) (bB c.told+1) o)) (az c.pc 0)=ah (pz c.z.pk):=C.cell (i:=0) bO;have F:Hid (_∧_∧_∧_∧_∧_):=⟨h,C,M,I,H,J⟩
  generalize aW w1 (az c.pc 1) (aj (ah (az b1 0)) (bB c.told+1) o)=w2 at *
  go_wp2_with(go_at_call 19;refine UN.mono ?_;rintro e w3 ⟨rfl,z',U3,G3⟩);go_ret;let⟨h,C,M,I,H,J⟩:=F.out;exact⟨rfl,h.merged C M I H J U3 G3⟩
def qP(l:List Tm)(P:List (Nat×Nat))(a b:Int):List (Nat×Nat):=if mD (bB l) a&&mD (bB l) b then P++[(a.toNat,b.toNat)] else P
def tt(l:List Tm)(a b:Int):Int:=if mD (bB l) a&&mD (bB l) b then 0 else 7
theorem Qs{w}(base){l}{c}{P}(h:Cl w base l c P)(a b)(m:(bB P+1)*8<=140737488355328):
  aB prog 7 #[pz c.pc,iz a,iz b] w λe w'=>e=aw (iz (tt l a b))∧∃f:Ks,Cl w' base l f (qP l P a b)∧bI c.gE w w'∧f.pc=c.pc∧(∀k,f.nO k->c.nO k∨w.heap.size<=k):=by
 cases d:mD (bB l) a&&mD (bB l) b
 .refine(yV h a b d).mono ?_;rintro e w' ⟨rfl,rfl⟩;refine⟨by simp[tt,d],c,?_,bW _ _,rfl,λk j=>.inl j⟩;grind[qP]
 rw[nA] at d;let⟨g,o⟩:=jR d.1;let⟨b1,b2⟩:=jR d.2;obtain⟨x,rfl⟩:=fg g;obtain⟨y,rfl⟩:=fg b1;refine(wP base P h x y bO bO m).mono ?_;grind[tt,qP]
variable{vs:List aA}
theorem RY.bd(h:RY w W p ev nb fb l q av vs):Cc.Bd l:=
 ⟨λn t e a d=>by have f:=h.nq.ahd n t e a d;grind,h.kl.CF.four,h.kl.CF.one,h.b.nodup⟩
def RY.dF(h:RY w W p ev nb fb l q av vs)(K:dG W W'):RY w W' p ev nb fb l q av vs:=
 ⟨h.b.dF K,h.r.kept K λ_ _ _ _ _ _ _ e=>e,h.kl,h.nq,h.kB.trans (pA K h.kB.size λ_ e=>e.elim),h.rq⟩
theorem YI{w}{a}(E){d}(G:WK w a d)(I:bB d<=aY):
  aB prog 4 #[aj a (bB d) E] w λe w'=>∃p ev nb fb l q av vs,e=aw (.tuple #[pz p,av])∧RY w w' p ev nb fb l q av vs:=by
 unfold aY at I;have g:=Ig w;go_enter func4,ntmps4
 go_wp2_with(go_at_call 12;refine g.mono ?_;rintro e t ⟨p,nb,fb,rfl,A,y⟩;have u:=RY.start w t p nb fb A y);generalize bC t (aq #[aj ai 0 0] 52)=R at u⊢;generalize t.heap.size=q at u⊢
 go_loopw[6] (λr W=>∃k:Nat,k<=bB d∧r=iz k∧∃ev l av vs,RY w W p ev nb fb l q av vs) λr _=>bB d-(aG r).toNat
 case atStart=>grind
 case round=>
  obtain⟨k,O,rfl,ev,l,av,vs,T⟩:=hrel;by_cases f:k<bB d
  .obtain e|⟨b,j,rfl,x,H⟩:=G
   .rw[e] at f;simp at f
   have hs:d[k]?=ah d[k]:=bP f;have m:=H k _ hs;generalize d[k]=s at m hs;have c1:=(T.kB.cell (p:=⟨b,j+k,ai⟩) x).trans m;have RB:=T.read s
   go_wp2_with(first|(go_at_call 13;refine RB.mono ?_;rintro e U ⟨rfl,F,C,h⟩;have c5:=(h.cell (p:=⟨b,j+k,ai⟩) x).trans m)|(go_at_call 14;refine C.mono ?_;rintro e V ⟨rfl,D,J,L⟩));grind[aG]
  have Q:cz wr q 0 av:=T.r.row.cell bO;let⟨M,N,o⟩:=T.r.ls.form;subst o
  go_wp2;go_quiet(fail)
  go_wp2;go_ret2
  exact⟨p,ev,nb,fb,l,q,_,vs,rfl,T.dF ((bW _ wr).drewN nq)⟩
theorem yI{f:Nat}{e:aE}{g:List aA}(h:bD w B e k v n g)(r:f<=B):bD w f e k v n g:=by
 refine⟨h.1,?_⟩;obtain x|⟨b,a,d,j,m,o⟩:=h.2
 .exact cB x
 exact cI ⟨b,a,d,j,bZ r m,o⟩
theorem Un.same{base:Nat}(h:Un w base l z P [] []){j:Nat}(a:i<bB l)(d:j<bB l):(lW (bB l) z.g (i:Int) (j:Int)=aK)↔Cc.Cg l P i j:=by rw[<-h.inv.fin a d];simp only[lW,lN a,lN d,Bool.true_and,eS,jl];exact⟨Co,Iy h.cz.ok a d⟩
theorem Un.base{base:Nat}(h:Un w base l z P todo pend)(a:base'<=base):Un w base' l z P todo pend:=by have C:=h.cz;have L:=C.ie.mu;exact⟨⟨C.cls,⟨⟨L.ie,L.nodes,yI L.iA a,L.ne,L.jp,L.jn,bZ a L.bp,bZ a L.bn,L.small⟩,C.ie.Ag,bZ a C.ie.low⟩,C.kN,C.ld,C.known,yI C.back a,C.sat,λx d=>⟨bZ a (C.ot x d).1,(C.ot x d).2⟩,C.argsAt,C.ki,C.bd,C.yr,C.len,bZ a C.bp,bZ a C.bt,bZ a C.bu,bZ a C.bm⟩,h.inv,h.ms,h.bs,h.td,bZ a h.low⟩
def Cl.base{base:Nat}(h:Cl w base l c P)(a:base'<=base):Cl w base' l c P:=
 ⟨h.uS,yI h.told a,h.un.base a,h.JK,h.QU,bZ a h.bp,h.num⟩
def Cl.tB{base:Nat}(h:Cl w base l c P)(a:c.gE k):base<=k:=h.wX a.all
theorem oB{st:List (Nat×Obj)}(hs:Sat st w){c:Array aA}{t:aE}(a:(b,aR c t)∈st)(j):aU w (az b j)=c[j]?:=by have:=hs _ a;simp[aU,this]
theorem Cz.drop{base:Nat}(h:Cz w base l z){s:Tm}(hs:Sk s)(o:aE):
  ∃w',(Builtin.delete_ #[68,98] o #[.map (ah z.mb),oR s]).run prog w=.ok (.tuple #[]) w'∧Cz w' base l {z with kn:=λu=>if u=s then ai else z.kn u,ms:=z.ms-(if(z.kn s).isSome then 1 else 0)}∧dV z.mb w w':=by
 let⟨D,g,y,j⟩:=h.known;let⟨w',t,r,a⟩:=Nj g MF underlying68 (vH hs.ok) o;have K:dV z.mb w w':=jw a.grown;have A:=h.apart;refine⟨w',t,⟨h.cls.of_block (K.block _ h.cls.lt A.km),h.ie.other K A.pm A.nm (λk d e=>A.jm (by rw[d,e])),h.kN.of_block (K.block _ h.kN.lt A.mt.symm),h.ld.of_block (K.block _ h.ld.lt A.um),⟨_,jP r,?_,?_⟩,
  gh h.back (λk d=>K.block k (h.back.lt k d).2 λe=>A.mb (by rw[d,e])),λx f=>(K.block x.1 (h.xx f) λe=>(h.ot x f).2 (.inr (.inr (.inr (.inl e))))).trans (h.sat x f),h.ot,h.argsAt,h.ki,h.bd,h.yr,h.len,h.bp,h.bt,h.bu,h.bm⟩,K⟩
 .have:=size_del (k:=DG s) (gT g MF);show _<=z.ms-(if(z.kn s).isSome then 1 else 0);by_cases e:(z.kn s).isSome=aK
  .rw[(j s hs).1,e,cY rfl] at this;rw[cY e];omega
  rw[cC e];omega
 intro u m;show kP _ (DG u) (if u=s then ai else z.kn u);by_cases e:u=s
 .subst e;rw[cY rfl];exact Lc
 rw[cC e];exact(j u m).ze λx=>e (JC m hs x)
theorem abv{w}{base}{l}(z)(h:Cz w base l z){s}(hs:Sk s)(f a)(o:(f,aR #[pz z.pk] 57)∈z.st)(d:(a,aR (nC s).toArray 98)∈z.st):
  aB prog 75 #[pz f,pz a] w λe w'=>e=aw (.tuple #[])∧Cz w' base l {z with kn:=λu=>if u=s then ai else z.kn u,ms:=z.ms-(if(z.kn s).isSome then 1 else 0)}∧dV z.mb w w':=by
 have t:cz w f 0 (pz z.pk):=oB h.sat o 0;have x:cz w a 0 (.string s.name):=oB h.sat d 0;have y:cz w a 1 (iz (s.arg 0:Int)):=oB h.sat d 1;have A:cz w a 2 (iz (s.arg 1:Int)):=oB h.sat d 2;have C:cz w a 3 (iz (s.arg 2:Int)):=oB h.sat d 3;have D:cz w a 4 (iz (s.arg 3:Int)):=oB h.sat d 4;have k3:=h.k3;let⟨w',r,g,j⟩:=h.drew.drop hs 0;have m:oR s=.agg #[.string s.name,iz (s.arg 0:Int),iz (s.arg 1:Int),iz (s.arg 2:Int),iz (s.arg 3:Int)]:=rfl;rw[m] at r;go_enter func75,ntmps75
 go_wp2
 go_region
 all_goals
  go_end0
  exact⟨rfl,g,(bW _ w).drew.trans j⟩
theorem Cz.Ff{base:Nat}(h:Cz w base l z)(m):
  aB prog 74 #[pz z.ps,iz m] w λe w'=>e=aw (.bool (yA z.t m))∧∃a,aP a=aP z.jv∧Cz w' base l {z with jv:=a,g:=Uf.back z.g z.t (qf z.t m),t:=z.t.drop (qf z.t m)}∧bI (gE z.ps z.nb z.jv) w w':=by
 refine(ZG h.ie m).mono ?_;rintro e w' ⟨y,a,u,K,d⟩;have A:=h.apart;let⟨D,o,r,s⟩:=h.known;refine⟨y,a,d,⟨h.cls.of_block (K.block _ h.cls.lt ?_),u,h.kN.of_block (K.block _ h.kN.lt ?_),h.ld.of_block (K.block _ h.ld.lt ?_),⟨D,oe o (K.block _ (gw o) ?_),r,s⟩,gh h.back λk f=>K.block k (h.back.lt k f).2 ?_,λx j=>(K.block x.1 (h.xx j) λe=>(h.ot x j).2 (.inr (.inl e))).trans (h.sat x j),λx j=>⟨(h.ot x j).1,λf=>?_⟩,h.argsAt,h.ki,h.bd,h.yr,h.len,h.bp,h.bt,h.bu,h.bm⟩,K⟩
 .rintro(e|e|e)
  .exact A.kp e
  .exact A.kn e
  exact A.kj e
 .rintro(e|e|e)
  .exact A.pt e.symm
  .exact A.nt e.symm
  exact A.jt e
 .rintro(e|e|e)
  .exact A.pu e.symm
  .exact A.nu e.symm
  exact A.ju e
 .rintro(e|e|e)
  .exact A.pm e.symm
  .exact A.nm e.symm
  exact A.jm e
 .rintro(e|e|e)
  .exact A.pb (by rw[f,e])
  .exact A.nb (by rw[f,e])
  exact A.jb k e f
 refine(h.ot x j).2 ?_;obtain e|(e|e|e)|e|e|e:=f
 .exact .inl e
 .exact .inr (.inl (.inl e))
 .exact .inr (.inl (.inr (.inl e)))
 .exact .inr (.inl (.inr (.inr (by rw[<-d];exact e))))
 .exact .inr (.inr (.inl e))
 .exact .inr (.inr (.inr (.inl e)))
 exact .inr (.inr (.inr (.inr e)))
theorem Xx{w}{base}{l}(z)(h:Cz w base l z)(low mark){yO}{f}(j:low<bB l)(hold:iB z.st yO f)(o bm u bl)(D:(o,aR #[pz z.pk] 57)∈z.st)(H:(bm,aR #[iz mark] 3)∈z.st)(I:(u,aR #[yO] 110)∈z.st)(hl:(bl,aR #[iz low] 3)∈z.st):
  aB prog 73 #[pz o,pz bm,pz u,pz bl] w λe w'=>e=aw (.tuple #[])∧∃a,aP a=aP z.jv∧Cz w' base l {z with jv:=a,g:=Uf.back z.g z.t (qf z.t mark),t:=z.t.drop (qf z.t mark),uv:=λi=>if i=low then yO else z.uv i,us:=λi=>if i=low then f else z.us i}∧bI (λk=>gE z.ps z.nb z.jv k∨k=z.ub) w w':=by
 have N:cz w o 0 (pz z.pk):=oB h.sat D 0;have x1:cz w bm 0 (iz mark):=oB h.sat H 0;have k0:=h.k0;have G:=λm=>(h.drewN m).Ff (mark:Int);go_enter func73,ntmps73
 go_wp2
 go_cut[9] from 4 to 9 λv E=>v=.bool (yA z.t mark)∧∃a,aP a=aP z.jv∧Cz E base l {z with jv:=a,g:=Uf.back z.g z.t (qf z.t mark),t:=z.t.drop (qf z.t mark)}∧bI (gE z.ps z.nb z.jv) w E
 case first=>
  go_region_with(go_at_call 74;refine(G 1).mono ?_;rintro e J ⟨rfl,a,x,d,r⟩)
  all_goals
   go_wp2;go_meet
   case rel=>have s:bI (gE z.ps z.nb z.jv) (bF w 1) J:=r;exact⟨rfl,a,x,d,((bW _ w).drewN 1).trans s⟩
 case rest=>
  obtain⟨rfl,a,x,d,r⟩:=hcut;let⟨A,C,y⟩:=hold.form;subst y;have O:cz wc o 0 (pz z.pk):=oB d.sat D 0;have Q:cz wc bl 0 (iz low):=oB d.sat hl 0;have R:cz wc u 0 (aj A (bB f) C):=oB d.sat I 0;have k2:cz wc z.pk 2 (aj (ah (az z.ub 0)) (bB l) (bB l)):=d.k2;have M:=d.u j;have L:=d.ld.frozen low;have F:=eY (S:=λk=>gE z.ps z.nb z.jv k∨k=z.ub) (p:=az z.ub low) (dW r λ_ _ e=>.inl e) (.inr rfl) (aj A (bB f) C)
  go_wp2
  go_region
  all_goals
   go_end0
   exact⟨rfl,a,x,((d.Tt low (aj A (bB f) C) f hold).1).drew,F.drew⟩
attribute [local go_sem] ij
theorem Vb(F:Fence)(n)(g:F.fn 255)(f:F.round=ai)(a len d w):
  bA F n prog 255 #[aj a len d] w λe w'=>e=aw (.func (.func 258) #[] #[pz w.heap.size])∧w'=bC w (aq #[aj a len d] 69):=by
 refine qw func255 rfl g ?_ f;simp[ntmps255,fU,ed,dQ,Nat.reduceAdd,Nat.reduceSub,fP,fO,gr,fV,ff,eU]
 gi_wp2
 go_ret;exact⟨rfl,rfl⟩
abbrev Di(S:Nat->Prop)(n₀:Nat)(w w':ay):Prop:=bI (λk=>S k∨n₀<=k) w w'
def Zj(fs:Nat->aA)(x:Nat):Array aA:=#[ae af x,fs x]
theorem Qt(F:Fence)(n)(h7:F.fn 258)(M:F.round=ai)(hn:1<=n)(l){g}(s S){b}(d){len}(m t)(H:∀j,j<len->∃fn Z,t j=.func fn #[] Z)(u:len<=100000)(hb:b<s)(hB:g<s)(E:¬S b)(A:¬S g)(J Q:List {i:Nat // i<len}->ay->Prop)(hY:∀pre x W,J pre W->bB pre<len->YieldAt F (n-1) prog l (Zj t x.1) W λe W'=>
   (e=aw (.bool aK)∧J (pre++[x]) W'∧Di S s W W')∨(e=aw (.bool aL)∧Q (pre++[x]) W')){W}(ac:s<=W.heap.size)(C:cz W g 0 (aj (ah (az b d)) len m))(hc:∀j,j<len->aU W ⟨b,d+j,ai⟩=ah (t j))(h0:J [] W):
  bA F n prog 258 #[.func (.yield l) #[] #[],pz g] W λe W'=>(∃v,e=aw v)∧
   ((∃N,(Down len N∧bB N=len)∧J N W')∨(∃pre,True∧Q pre W')):=by
 refine qw func258 rfl h7 ?_ M;simp only[ntmps258,fU,ed,dQ,Nat.reduceAdd,Nat.reduceSub,fP,fO,gr,fV,ff,eU]
 gi_wp2
 gi_loopw [3] (λi wr=>∃pre:List {i:Nat // i<len},bB pre<=len∧Down len pre∧i=iz ((len:Int)-1-bB pre)∧J pre wr∧Di S s W wr)
  (λi _=>(aG i+1).toNat)
 case atStart=>exact⟨[],dt _,abT _,by simp,h0,bW _ _⟩
 case round=>
  obtain⟨pre,hp,U,rfl,o,h⟩:=hrel;have T:cz wr g 0 (aj (ah (az b d)) len m):=(cL (a:=az g 0) (h.block g bO λe=>e.elim A λx=>by omega)).trans C;by_cases L:bB pre<len
  .obtain⟨k,hk⟩:∃k:Nat,k+bB pre+1=len:=⟨len-1-bB pre,by omega⟩
   have f:k<len:=bO
   let⟨fn,X,assign,R,V,hR⟩:=hY pre ⟨k,f⟩ wr o L;have y:((len:Int)-1-bB pre)=(k:Int):=bO
   rw[y];have c1:aU wr ⟨b,d+k,ai⟩=ah (t k):=(cL (a:=⟨b,d+k,ai⟩) (h.block b bO λe=>e.elim E λx=>by omega)).trans (hc k f);let⟨ab,aa,G⟩:=H k f;have O:Hid (k+bB pre+1=len):=hk;unfold Zj at V;rw[G] at V c1
   gi_wp2
   refine hR.mono ?_;rintro e W3 (⟨rfl,D,I⟩|⟨rfl,r⟩)
   .gi_wp2
    go_roundw
    case rel=>exact⟨pre++[⟨k,f⟩],by simp;omega,U.snoc _ O.out,by have:=O.out;simp;omega,D,h.trans (I.mono λx _ hx=>hx)⟩
    case measure=>simp[aG]
   gi_wp2
   refine bodyPost_ret (vX rfl _ _ _) rfl ?_;exact⟨⟨_,rfl⟩,.inr ⟨_,trivial,r⟩⟩
  have y:((len:Int)-1-bB pre)=-1:=bO
  rw[y];have Y:Hid (bB pre=len):=by show bB pre=len;omega
  gi_wp2
  go_end0
  exact⟨⟨_,rfl⟩,.inl ⟨_,⟨U,Y.out⟩,o⟩⟩
theorem Mu(F:Fence)(n)(h:F.fn 258)(d:F.round=ai)(l){f}(J:List {i:Nat // i<0}->ay->Prop){W}(j:cz W f 0 (aj ai 0 0))(g:J [] W):
  bA F n prog 258 #[.func (.yield l) #[] #[],pz f] W λe W'=>(∃v,e=aw v)∧J [] W':=by
 refine qw func258 rfl h ?_ d;simp[ntmps258,fU,ed,dQ,Nat.reduceAdd,Nat.reduceSub,fP,fO,gr,fV,ff,eU]
 gi_wp2
 gi_loopw [3] (λi wr=>i=iz (-1)∧J [] wr) λ_ _=>0
 case atStart=>exact⟨rfl,g⟩
 case round=>
  obtain⟨rfl,a⟩:=hrel
  gi_wp2
  go_end0
  exact⟨⟨_,rfl⟩,a⟩
def vQ(n₀:Nat)(S:Nat->Prop)(W:ay)(sv:aA)(len:Nat)(fs:Nat->aA):Prop:=
 (sv=aj ai 0 0∧len=0)∨∃b off cap,sv=aj (ah ⟨b,off,ai⟩) len cap∧b<n₀∧¬S b∧(∀j,j<len->∃fn ca,fs j=.func fn #[] ca)∧
  ∀j,j<len->aU W ⟨b,off+j,ai⟩=ah (fs j)
theorem vQ.below{a:Nat}{A B:ay}(h:aC a A B){g:aA}{len:Nat}{d:Nat->aA}:vQ a S A g len d->vQ a S B g len d
 | .inl e=>.inl e
 | .inr ⟨b,off,cap,e,f,s,o,m⟩=>.inr ⟨b,off,cap,e,f,s,o,λj r=>(h.cell (p:=⟨b,off+j,ai⟩) f).trans (m j r)⟩
theorem Ew(F:Fence)(n)(D:F.fn 258)(h:F.round=ai)(T:1<=n)(d j S E len o)(a:len<=100000)(w)(s:d<j)(r:¬S d)(g:j<=w.heap.size)(N:cz w d 0 E)(I:vQ j S w E len o):
  SeqStopsK F n prog 258 #[pz d] (λx:{i:Nat // i<len}=>Zj o x.1) (Di S j) (λG=>Down len G∧bB G=len) (λ_=>True) len w:=λl J H W t _ _ L C=>by
 have f:=(t.cell (p:=az d 0) (by show d<_;omega)).trans N;obtain⟨rfl,rfl⟩|⟨b,A,m,rfl,M,u,Q,y⟩:=I.below (t.mono g)
 .exact(Mu F n D h l J f C).mono λe W' ⟨O,R⟩=>⟨O,.inl ⟨[],⟨abT _,rfl⟩,R⟩⟩
 exact Qt F n D h T l j S A m o Q a M s u r J H L (bZ g t.size) f y C
end
section
variable{l:List Tm}{a b z y z0:Zs}
theorem iF.bs(h:iF l a b):∃r,b.bs=a.bs++r:=by
 induction h with
 |refl=>exact⟨[],by simp⟩
 |Af n s d j v _ _ _ g=>obtain⟨r,e⟩:=g;exact⟨r++[wU d j],by show _++_=_;rw[e,fW]⟩
 |join low high d bm i bl jv o v bv _ _ _ _ g=>obtain⟨r,e⟩:=g;exact⟨r++[qK d bm i bl],by show _++_=_;rw[e,fW]⟩
theorem iF.same(h:iF l a b):b.pk=a.pk∧b.ps=a.ps∧b.nb=a.nb∧b.tb=a.tb∧b.ub=a.ub∧b.mb=a.mb∧b.av=a.av:=by
 induction h with
 |refl=>grind
 |Af n s e j v _ _ _ d=>exact d
 |join low high e bm i bl jv g v bv _ _ _ _ d=>exact d
def Zs.with(z y:Zs)(jv:aA):Zs:={z with jv:=jv,uv:=y.uv,g:=y.g,t:=y.t,us:=y.us,kn:=y.kn,ms:=y.ms}
inductive rm (l:List Tm) (z:Zs):aA->Prop
 |del (bc bx:Nat) (s:Tm):Sk s->(bc,aR #[ak (ah ⟨z.pk,0,ai⟩)] 57)∈z.st->(bx,aR (nC s).toArray 98)∈z.st->rm l z (wU bc bx)
 |Ff (bc bm bo bl low mark:Nat) (yO:aA) (ys:List Nat):low<bB l->iB z.st yO ys->(bc,aR #[ak (ah ⟨z.pk,0,ai⟩)] 57)∈z.st->(bm,aR #[ae af mark] 3)∈z.st->(bo,aR #[yO] 110)∈z.st->(bl,aR #[ae af low] 3)∈z.st->rm l z (qK bc bm bo bl)
theorem iF.steps(h:iF l a b):∀f,f∈b.bs.drop (bB a.bs)->rm l b f:=by
 induction h with
 |refl=>intro f d;simp at d
 |@Af b n s i t v C M B G=>
  intro f d;have E:∀f,rm l b f->rm l (uN b n s i t v) f:=λf d=>by
   cases d with
   |del g p J k1 k2 k3=>exact .del g p J k1 (dh _ k2) (dh _ k3)
   |Ff g bm j bl low mark yO L k1 k2 k3 k4 H I=>exact .Ff g bm j bl low mark yO L k1 (k2.mono λx u=>dh _ u) (dh _ k3) (dh _ k4) (dh _ H) (dh _ I)
  let⟨r,O⟩:=C.bs;have D:(uN b n s i t v).bs.drop (bB a.bs)=b.bs.drop (bB a.bs)++[wU i t]:=by show(b.bs++[wU i t]).drop (bB a.bs)=_;grind
  rw[D] at d;obtain d|d:=cU.1 d
  .exact E f (G f d)
  .simp at d;subst d;exact .del i t s B (gm _ (by simp[JW,uN])) (gm _ (by simp[JW]))
 |@join b low high i bm j bl jv o v bv C M B N G=>
  intro f d;have e:∀x∈b.st,x∈(tQ l b low high i bm j bl jv o v bv).st:=λx u=>dh _ (dh _ u);have E:∀f,rm l b f->rm l (tQ l b low high i bm j bl jv o v bv) f:=λf d=>by
   cases d with
   |del g p J k1 k2 k3=>exact .del g p J k1 (e _ k2) (e _ k3)
   |Ff g bm j bl low mark yO L k1 k2 k3 k4 H I=>exact .Ff g bm j bl low mark yO L k1 (k2.mono e) (e _ k3) (e _ k4) (e _ H) (e _ I)
  let⟨r,O⟩:=C.bs;have D:(tQ l b low high i bm j bl jv o v bv).bs.drop (bB a.bs)=b.bs.drop (bB a.bs)++[qK i bm j bl]:=by show(b.bs++[qK i bm j bl]).drop (bB a.bs)=_;grind
  rw[D] at d;obtain d|d:=cU.1 d
  .exact E f (G f d)
  simp at d;subst d;have A:∀x∈lV b low i bm j bl,x∈(tQ l b low high i bm j bl jv o v bv).st:=λx u=>dh _ (gm _ u);exact .Ff i bm j bl low (bB b.t) (b.uv low) (b.us low) B (N.mono e) (A _ (by simp[lV,tQ])) (A _ aeB) (A _ aeB) (A _ aeB)
variable{w W w1:ay}
theorem iB.inj{st:List (Nat×Obj)}(n:Sat st w){v:aA}{d e:List Nat}(h:iB st v d)(k:iB st v e):d=e:=by
 let⟨A,c1,p⟩:=h.form;let⟨B,c2,j⟩:=k.form;have hl:bB d=bB e:=by rw[p] at j;injection j
 apply Xf hl;intro i r s;have u:d[i]?=ah d[i]:=bP r;have x:e[i]?=ah e[i]:=bP s;let⟨b,t,cap,D,_,G⟩:=h.cell n u;let⟨C,o,g,E,_,H⟩:=k.cell n x;grind
theorem iF.last(h:iF l a z)(hl:bB a.bs<bB z.bs):
  ∃b,iF l a b∧iF l b z∧bB z.bs=bB b.bs+1∧((∃n s e p v,z=uN b n s e p v∧b.kn s=ai∧Sk s)∨(∃low d e bm o bl jv g v bv,z=tQ l b low d e bm o bl jv g v bv∧iA (bB l) b.g low d=aK∧low<bB l∧iB b.st (b.uv low) (b.us low))):=by
 cases h with
 |refl=>omega
 |@Af b n s e p v r i j=>exact⟨b,r,.Af n s e p v (.refl b) i j,by show bB (b.bs++[_])=_;simp,.inl ⟨n,s,e,p,v,rfl,i,j⟩⟩
 |@join b low d e bm o bl jv g v bv r i j t=>exact⟨b,r,.join low d e bm o bl jv g v bv (.refl b) i j t,by show bB (b.bs++[_])=_;simp,.inr ⟨low,d,e,bm,o,bl,jv,g,v,bv,rfl,i,j,t⟩⟩
theorem Qn(b n s d g v)(h:b.kn s=ai):(λu=>if u=s then ai else(uN b n s d g v).kn u)=b.kn:=by
 funext u;by_cases e:u=s
 .rw[cY e,e,h]
 rw[cC e];show(if u=s then ah n else b.kn u)=b.kn u;rw[cC e]
theorem Qu(l:List Tm)(b:Zs){low:Nat}(d:Nat)(h:iA (bB l) b.g low d=aK):
  qf (lz (bB l) b.g b.t low d) (bB b.t:Int)=1∧Uf.back (mX (bB l) b.g low d) (lz (bB l) b.g b.t low d) 1=b.g∧(lz (bB l) b.g b.t low d).drop 1=b.t:=by
 grind[lz,Uf.pick,yA,qf,Uf.back]
attribute [local go_sem] ij
variable{jv f bv:aA}{k base cap m:Nat}
theorem Bc(d:aP jv=aP z.jv)(h:(z.with y jv).nO k):z.nO k:=by
 obtain(e|(e|e|e)|e|e|e)|e|e:=h
 .exact .inl (.inl e)
 .exact .inl (.inr (.inl (.inl e)))
 .exact .inl (.inr (.inl (.inr (.inl e))))
 .exact .inl (.inr (.inl (.inr (.inr (by rw[<-d];exact e)))))
 .exact .inl (.inr (.inr (.inl e)))
 .exact .inl (.inr (.inr (.inr (.inl e))))
 .exact .inl (.inr (.inr (.inr (.inr e))))
 .exact .inr (.inl e)
 exact .inr (.inr e)
theorem yx(d:aP jv=aP z.jv)(h:(z.with y jv).gE k):z.gE k:=by
 obtain e|(e|e|e)|e|e|e:=h
 .exact .inl e
 .exact .inr (.inl (.inl e))
 .exact .inr (.inl (.inr (.inl e)))
 .exact .inr (.inl (.inr (.inr (by rw[<-d];exact e))))
 .exact .inr (.inr (.inl e))
 .exact .inr (.inr (.inr (.inl e)))
 exact .inr (.inr (.inr (.inr e)))
def Zs.Wr(z:Zs)(k:Nat):Prop:=z.gE k∧aP z.bv≠ah k
structure ZM(W0:ay)(base:Nat)(l:List Tm)(z z0:Zs)(len:Nat)(pre:List {i:Nat // i<len})(W:ay):Prop where
 st:∃(y:Zs)(jv:aA),aP jv=aP z.jv∧Cz W base l (z.with y jv)∧(Down len pre->∃zk,iF l z0 zk∧iF l zk z∧bB zk.bs+bB pre=bB z.bs∧y.uv=zk.uv∧y.g=zk.g∧y.t=zk.t∧y.us=zk.us∧y.kn=zk.kn∧y.ms=zk.ms)
 kept:Di z.Wr W0.heap.size W0 W
theorem Ja{g}{base}{l}{z}(z0 len)(h:Cz g base l z):OwnFrom g.heap.size (ZM g base l z z0 len):=by
 intro pre A B row hs d r;let⟨y,jv,n,o,p⟩:=hs.st;have K:bI (λk=>ah k=row) A B:=⟨d.os,d.tape,d.output,d.size,λk i j=>d.block k i j⟩
 refine⟨⟨y,jv,n,o.keep K λk i e=>?_,p⟩,hs.kept.grown d λk e=>cI (r k e).1⟩;have s:=h.pj (Bc n i);grind
theorem Pj(hj:aP jv=aP z.jv)(C:Cz W base l (z.with y jv))(hf:rm l z f):
  ∃fn T,f=.func (.func fn) #[] T∧((fn=75∧∃p q,T=#[p,q])∨(fn=73∧∃p q r s,T=#[p,q,r,s]))∧aB prog fn T W λe S=>e=aw (.tuple #[])∧∃N M,aP M=aP z.jv∧Cz S base l (z.with N M)∧bI z.Wr W S∧
   (∀J,iF l J z->iF l z0 J->bB z0.bs<bB J.bs->z.bs[bB J.bs-1]?=ah f->y.uv=J.uv->y.g=J.g->y.t=J.t->y.us=J.us->y.kn=J.kn->y.ms=J.ms->∃b,iF l z0 b∧iF l b z∧bB b.bs+1=bB J.bs∧N.uv=b.uv∧N.g=b.g∧N.t=b.t∧N.us=b.us∧N.kn=b.kn∧N.ms=b.ms):=by
 have A:=C.apart;have inv:∀{b:Nat}{o o':Obj},(b,o)∈z.st->(b,o')∈z.st->o=o':=λh1 h2=>by have U:=C.sat _ h1;have V:=C.sat _ h2;grind
 cases hf with
 |del O bx s k1 k2 k3=>
  refine⟨75,#[pz O,pz bx],rfl,.inl ⟨rfl,_,_,rfl⟩,(abv (z.with y jv) C k1 O bx k2 k3).mono ?_⟩;rintro e S ⟨he,Z,K'⟩;refine⟨he,{y with kn:=λu=>if u=s then ai else y.kn u,ms:=y.ms-(if(y.kn s).isSome then 1 else 0)},jv,hj,Z,dW K' (λk _ e=>⟨.inr (.inr (.inr (.inl e))),λh=>A.mb (by rw[<-e];exact h)⟩),?_⟩;intro J c1 c2 hl L U V e3 e4 e5 e6;let⟨b,b1,b2,b3,hb⟩:=c2.last hl;let⟨r,hr⟩:=c1.bs;obtain⟨n,Y,d,I,v,rfl,X,q2⟩|⟨low,j,d,bm,bo,bl,Q,R,v,bv,rfl,X,q2,q3⟩:=hb
  .have D:z.bs[(uN b n Y d I v).bs.length-1]?=ah (wU d I):=by
    rw[hr];show((b.bs++[wU d I])++r)[bB (b.bs++[wU d I])-1]?=_;simp
   rw[D] at L;simp[wU] at L;obtain⟨rfl,rfl⟩:=L;have aa:(I,aR (nC Y).toArray 98)∈z.st:=c1.st _ (gm _ (by simp[JW]));have ac:=inv k3 aa;simp only[Obj.cells.injEq,sk] at ac;have ad:s=Y:=by grind[oR,BD]
   subst ad;refine⟨b,b1,b2.trans c1,b3.symm,U,V,e3,e4,?_,?_⟩
   .simp_all[Qn]
   show y.ms-(if(y.kn s).isSome then 1 else 0)=b.ms;have e7:y.kn s=ah n:=by rw[e5];exact cY rfl
   rw[e6,e7];rfl
  grind[tQ,qK,wU]
 |Ff O bm bo bl low mark yO ys k1 k2 k3 k4 k5 k6=>
  refine⟨73,#[pz O,pz bm,pz bo,pz bl],rfl,.inr ⟨rfl,_,_,_,_,rfl⟩,(Xx (z.with y jv) C low mark k1 k2 O bm bo bl k3 k4 k5 k6).mono ?_⟩;rintro e S ⟨he,M,ab,Z,K'⟩;refine⟨he,{y with g:=Uf.back y.g y.t (qf y.t mark),t:=y.t.drop (qf y.t mark),uv:=λi=>if i=low then yO else y.uv i,us:=λi=>if i=low then ys else y.us i},M,ab.trans hj,Z,dW K' ?_,?_⟩
  .rintro k _ (e|e)
   .refine⟨yx (y:=y) hj (.inr (.inl e)),λh=>?_⟩;obtain e|e|e:=e
    .exact A.pb (by rw[<-e];exact h)
    .exact A.nb (by rw[<-e];exact h)
    exact A.jb k e h
   exact⟨.inr (.inr (.inl e)),λh=>A.ub (by rw[<-e];exact h)⟩
  intro J c1 c2 hl L U V e3 e4 e5 e6;let⟨b,b1,b2,b3,hb⟩:=c2.last hl;let⟨r,hr⟩:=c1.bs;obtain⟨n,Y,d,I,v,rfl,X,q2⟩|⟨B,j,d,G,H,E,Q,R,v,bv,rfl,X,q2,q3⟩:=hb
  .grind[uN,wU,qK]
  have D:z.bs[(tQ l b B j d G H E Q R v bv).bs.length-1]?=ah (qK d G H E):=by
   rw[hr];show((b.bs++[qK d G H E])++r)[bB (b.bs++[qK d G H E])-1]?=_;simp
  rw[D] at L;simp[qK] at L;obtain⟨rfl,rfl,rfl,rfl⟩:=L;have su:∀x∈lV b B d G H E,x∈z.st:=λx L=>c1.st _ (dh _ (gm _ L));have i1:=inv k4 (su (G,aq #[iz (bB b.t)] 3) aeB);have i2:=inv k5 (su (H,aq #[b.uv B] 110) aeB);have i3:=inv k6 (su (E,aq #[iz B] 3) aeB);simp at i1 i2 i3;have al:mark=bB b.t:=bO
  have an:low=B:=bO
  subst al i2 an;have ag:ys=b.us low:=iB.inj C.sat k2 (q3.mono λx L=>c1.st _ (dh _ (dh _ L)));subst ag;let⟨j1,j2,j3⟩:=Qu l b j X;have ht:y.t=lz (bB l) b.g b.t low j:=e3;have hg:y.g=mX (bB l) b.g low j:=V;refine⟨b,b1,b2.trans c1,b3.symm,?_,?_,?_,?_,e5,e6⟩
  .funext i;show(if i=low then b.uv low else y.uv i)=b.uv i;rw[U];show(if i=low then b.uv low else if i=low then v else b.uv i)=b.uv i;grind
  .grind
  .grind
  funext i;show(if i=low then b.us low else y.us i)=b.us i;rw[e4];show(if i=low then b.us low else if i=low then b.us low++b.us j else b.us i)=b.us i;grind
attribute [local go_sem] ij
theorem Oh{S:Nat->Prop}{d:Nat}(h:d<=w.heap.size)(W:ay)(l:Nat)(o g:Obj)(hl:w.heap.size<=l)(_:W.heap[l]?=ah o)(_:o.isCells=aL)(_:o.isWalk=aL):Di S d W (W.putObj l g):=
 (bW _ W).grown (grownBy_putObj' W l g) λk e=>by grind
theorem DA{e:aE}{g:Nat}{j:List aA}(h:bD W base e 1 (aj (ah (az g 0)) m cap) m j){o:Nat}(A:m<=o)(v):bD (aW W (az g o) v) base e 1 (aj (ah (az g 0)) m cap) m j:=by
 refine⟨h.1,?_⟩;obtain⟨d,_⟩|⟨u,c,i,d,n,x,p,r,s,t⟩:=h.2
 .cases d
 simp[fL,fw,oy,sk,mC] at d;obtain⟨rfl,rfl⟩:=d;refine .inr ⟨g,cap,i.setIfInBounds o v,rfl,n,?_,p,r,by simpa using s,?_⟩
 .grind[aW]
 rw[<-t,abV,KH bO]
theorem qN{base:Nat}{e:aE}{g cap m:Nat}{i:List aA}:∀(d:List aA)(o:Nat)(W:ay),m<=o->bD W base e 1 (aj (ah (az g 0)) m cap) m i->(W.setCells g o d).ownsRow base e 1 (aj (ah (az g 0)) m cap) m i∧dV g W (W.setCells g o d)
 | [],_,W,_,h=>⟨h,bW _ W⟩
 |v::d,o,W,p,h=>by let⟨j,n⟩:=qN d (o+1) (aW W (az g o) v) bO (DA h p v);exact⟨j,(eH (bW _ W) o v).trans n⟩
def Sq(w):(zeroValue 1).run prog w=.ok .nilFunc w:=bV
theorem MP{d n i:Nat}{s:List aA}(h:bD W base 1 1 (aj (ah (az d 0)) n cap) n s)(v:m<=n)(g:m<n->i=m)(r:aE):
  ∃o,(Builtin.clear_ #[69] r #[aj (ah (az d i)) (n-m) (cap-m)]).run prog W=.ok (.tuple #[]) o∧bD o base 1 1 (aj (ah (az d 0)) m cap) m (s.take m)∧dV d W o:=by
 have p:=pJ h rfl v;rw[iq] at p;by_cases e:m<n
 .rw[g e];have fS:∀j,j<n-m->(aU W ⟨d,m+j,ai⟩).isSome=aK:=λj A=>by
   rw[h.cellAt (m+j) bO,bP (by rw[h.1];omega)];rfl
  have x:=Lib.run_clear_slice (P:=prog) W 69 1 r .nilFunc underlying69 Sq rfl rfl d m (n-m) (cap-m) bO fS λj _=>h.frozenAt (m+j);let⟨t,u⟩:=qN (List.replicate (n-m) .nilFunc) m W (bT _) p;exact⟨_,x,t,u⟩
 obtain rfl:m=n:=bO
 refine⟨W,?_,p,bW _ W⟩;simp_all[Builtin.clear_]
theorem Cz.TK(h:Cz w base l z)(t:bI (λk=>aP z.bv=ah k) w w1)(g s)(d:bD w1 base 1 1 g (bB s) s)(C:aP g=aP z.bv):
  Cz (aW w1 (az z.pk 4) g) base l {z with bv:=g,bs:=s}∧bI z.gE w (aW w1 (az z.pk 4) g)∧cz w1 z.pk 4 z.bv∧bG w1 (az z.pk 4)=aL:=by
 have o:bI (λk=>k=z.pk∨aP z.bv=ah k) w (aW w1 (az z.pk 4) g):=eY (p:=az z.pk 4) (dW t λ_ _ e=>.inr e) (.inl rfl) _;have A:=h.apart;have hp:bE w1 z.pk 71 5 (Wh z (bB l)):=h.cls.of_block (t.block _ h.cls.lt A.kb);have np:=dY hp bS d;let⟨D,u,v,B⟩:=h.known;have j:∀k,Zs.gE {z with bv:=g,bs:=s} k->z.gE k:=by
  rintro k (e|e|e|e|e)
  .exact .inl e
  .exact .inr (.inl e)
  .exact .inr (.inr (.inl e))
  .exact .inr (.inr (.inr (.inl e)))
  exact .inr (.inr (.inr (.inr (C▸e))))
 refine⟨⟨(hp.set 4 g).congr ?_,h.ie.other o ?_ ?_ ?_,h.kN.of_block (o.block _ h.kN.lt ?_),h.ld.of_block (o.block _ h.ld.lt ?_),⟨D,oe u (o.block _ (gw u) ?_),v,B⟩,?_,?_,?_,h.argsAt,h.ki,h.bd,h.yr,h.len,h.bp,h.bt,h.bu,h.bm⟩,?_,hp.cell (i:=4) bO,hp.frozen 4⟩
 .grind[Wh]
 .rintro(e|e)
  .exact A.kp e.symm
  exact A.pb e
 .rintro(e|e)
  .exact A.kn e.symm
  exact A.nb e
 .rintro k r (e|e)
  .exact A.kj (by rw[r,e])
  exact A.jb k r e
 .rintro(e|e)
  .exact A.kt e.symm
  exact A.bt e
 .rintro(e|e)
  .exact A.ku e.symm
  exact A.ub e
 .rintro(e|e)
  .exact A.km e.symm
  exact A.mb e
 .exact fR d np _
 .intro x n;refine(o.block x.1 (h.xx n) ?_).trans (h.sat x n);rintro(e|e)
  .exact(h.ot x n).2 (.inl e)
  exact(h.ot x n).2 (.inr (.inr (.inr (.inr e))))
 .intro x n;refine⟨(h.ot x n).1,λr=>?_⟩;exact(h.ot x n).2 (j _ r)
 refine dW o ?_;rintro k _ (e|e)
 .exact .inl e
 exact .inr (.inr (.inr (.inr e)))
theorem iF.zd(h:iF l a b)(hl:bB b.bs=bB a.bs):b=a:=by
 by_cases e:bB a.bs<bB b.bs
 .omega
 cases h with
 |refl=>rfl
 |@Af b n s g u v d i j=>let⟨r,o⟩:=d.bs;grind[uN]
 |@join b low high g bm t bl jv p v bv d i j x=>let⟨r,o⟩:=d.bs;grind[tQ]
theorem rm.form(h:rm l z f):∃fn e,f=.func fn #[] e:=by
 cases h with
 |del d i s=>exact⟨_,_,rfl⟩
 |Ff d bm g bl=>exact⟨_,_,rfl⟩
theorem Ib{w}{base}{l}{z z0}(h:Cz w base l z)(X:iF l z0 z)(b0:bB z.bs<=100000)(g cap)(u:z.bv=aj (ah (az g 0)) (bB z.bs) cap):
  bA .wide 6 prog 249 #[pz z.pk,iz (bB z0.bs)] w λe w'=>e=aw (.tuple #[])∧∃jv,aP jv=aP z.jv∧Cz w' base l {z.with z0 jv with bv:=aj (ah (az g 0)) (bB z0.bs) cap,bs:=z0.bs}∧bI z.gE w w':=by
 have a4:bB z0.bs<=bB z.bs:=by let⟨r,hr⟩:=X.bs;rw[hr];simp
 generalize hm:bB z0.bs=m at *;have k4:=h.k4;rw[u] at k4;have R:bB z.bs<=cap∧cap<=aY:=by
  have hb:=h.back;rw[u] at hb;obtain⟨e,_⟩|⟨b,c,bj,e,_,_,h1,h2,_⟩:=hb.2
  .cases e
  grind
 unfold aY at R;obtain⟨b6,b7⟩:=R;obtain⟨n,ag,cc⟩:∃n,(m<bB z.bs->n=m)∧∀W,(Instr.slice 69 (aj (ah (az g 0)) (bB z.bs) cap) (ah (iz m)) ai ai).run prog W=.ok (aj (ah (az g n)) (bB z.bs-m) (cap-m)) W:=by
  refine⟨if cap=m then 0 else m,λI=>cC bO,λW=>?_⟩;have a6:(sizeOf 1).run prog W=.ok 1 W:=by let⟨i0,a3,_,a9,_⟩:=eB yY;simp[sizeOf,typeInfo,a3,a9]
  rw[run_slice_l W 69 _ _ _ bV .i64 (m:Int) bO bO];rw[show prog.elem 69=1 from by kernel_rfl,a6];grind[Result.andThen,sliced,Addr.add]
 have O:Hid (m<bB z.bs->n=m):=ag;have HM:Hid (bB z0.bs=m):=hm;refine callsIn_of_wp_marks func249 rfl trivial ?_ rfl;simp only[ntmps249,fU,ed,dQ,Nat.reduceAdd,Nat.reduceSub,fP,fO,gr,fV,ff,eU]
 gi_wp2_with fail
 refine⟨trivial,(Vb .wide _ trivial rfl _ _ _ _).mono ?_⟩;rintro e w' ⟨rfl,rfl⟩
 gi_wp2_with fail
 have K2:dG w (bC w (aq #[aj (ah (az g n)) (bB z.bs-m) (cap-m)] 69)):=(bW _ w).alloc _;have S2:aU (bC w (aq #[aj (ah (az g n)) (bB z.bs-m) (cap-m)] 69)) (az w.heap.size 0)=ah (aj (ah (az g n)) (bB z.bs-m) (cap-m)):=(ey w #[aj (ah (az g n)) (bB z.bs-m) (cap-m)] 69).cell (i:=0) bQ;have Z2:(bC w (aq #[aj (ah (az g n)) (bB z.bs-m) (cap-m)] 69)).heap.size=w.heap.size+1:=bQ
 generalize(bC w (aq #[aj (ah (az g n)) (bB z.bs-m) (cap-m)] 69))=L at *;have V:=h.dF K2;have bx:g<w.heap.size:=(h.back.lt g (by rw[u];rfl)).2;have ba:¬z.Wr g:=λe=>e.2 (by rw[u];rfl);have bc:¬z.Wr w.heap.size:=λe=>tT _ (h.tA e.1);have M:∀j,j<bB z.bs-m->rm l z (z.bs[m+j]?.getD aF):=λj hj=>by
  have I:m+j<bB z.bs:=bO
  rw[bP I];refine X.steps _ ?_;rw[HM.out];grind[List.mem_drop_iff_getElem]
 have U:vQ L.heap.size z.Wr L (aj (ah (az g n)) (bB z.bs-m) (cap-m)) (bB z.bs-m) (λj=>z.bs[m+j]?.getD aF):=by refine .inr ⟨g,n,_,rfl,by omega,ba,λj hj=>(M j hj).form,λj hj=>?_⟩;rw[O.out bO];have hb:=V.back;rw[u] at hb;have:=hb.cellAt (m+j) bO;rw[this];simp[bP (show m+j<bB z.bs by omega)]
 refine wpIn_rangeFunc_ownH rfl bO (gf:=258) (lb:=#[pz w.heap.size]) rfl trivial (enters_of func258 bV rfl)
  (Ew .wide 5 trivial rfl bO w.heap.size L.heap.size z.Wr _ (bB z.bs-m) (λj=>z.bs[m+j]?.getD aF) bO L bO bc (bT _) S2 U)
  (λa b=>a.trans (b.mono λk _ hk=>hk)) (Oh (bT _)) (cW _ _) (λ_=>rfl)
  (ZM L base l z z0 (bB z.bs-m)) (λ_ _ _=>False) (Ja z0 (bB z.bs-m) V) (λ_ _ _ _ _ hs _ _=>hs)
  ?start (λx a' W=>∃v13 v14 v15 v16,a'={tmps:=#[pz z.pk,iz m,aF,aF,aF,z.bs[m+x.1]?.getD aF,pz z.pk,pz z.pk,ak (ah (az z.pk 4)),aj (ah (az g 0)) (bB z.bs) cap,iz m,aj (ah (az g n)) (bB z.bs-m) (cap-m),.func (.func 258) #[] #[pz w.heap.size],v13,v14,v15,v16,aF,aF,aF,aF,aF,aF,aF,aF,aF,aF,aF,aF,aF,aF,aF],defers:=[]}) ?hAx ?assign ?body ?done ?stop
 case start=>exact⟨⟨z,z.jv,rfl,V,λ_=>⟨z,X,.refl z,by simp,rfl,rfl,rfl,rfl,rfl,rfl⟩⟩,bW _ _⟩
 case hAx=>rintro x a' _ A B row ⟨v13,v14,v15,v16,rfl⟩ hg hr;grind
 case assign=>
  rintro lx pre x W K Q hK;simp only[Zj]
  gi_wp2
  grind[KeepsFrom.refl,bI.refl]
 case body=>
  rintro lx pre x a' W hl _ Q ⟨v13,v14,v15,v16,rfl⟩ I;let⟨y,jv,h1,C,h3⟩:=Q.st;let⟨fn,ca,hf,a5,N⟩:=Pj (z0:=z0) h1 C (M x.1 x.2);rw[hf];have Z:∀E v t,aP t=aP z.jv->Cz E base l (z.with v t)->bI z.Wr W E->(∀p,iF l p z->iF l z0 p->bB z0.bs<bB p.bs->z.bs[bB p.bs-1]?=ah (.func (.func fn) #[] ca)->y.uv=p.uv->y.g=p.g->y.t=p.t->y.us=p.us->y.kn=p.kn->y.ms=p.ms->∃b,iF l z0 b∧iF l b z∧bB b.bs+1=bB p.bs∧v.uv=b.uv∧v.g=b.g∧v.t=b.t∧v.us=b.us∧v.kn=b.kn∧v.ms=b.ms)->
    KeepsFrom L.heap.size W E∧Di z.Wr L.heap.size W E∧ZM L base l z z0 (bB z.bs-m) (pre++[x]) E:=λE v t H Y S d=>by
   have KS:Di z.Wr L.heap.size W E:=dW S λk _ e=>cB e;refine⟨⟨S.size,λi o hB hi ho=>?_⟩,KS,⟨⟨v,t,H,Y,λhd=>?_⟩,Q.kept.trans KS⟩⟩
   .have I:i<W.heap.size:=(bY.1 hi).1;rw[S.block i I λe=>by have:=V.tA e.1;omega];exact hi
   have al:Down (bB z.bs-m) pre:=by
    intro r hr;have:=hd r bX;rwa[mQ hr] at this
   have cd:x.1+bB pre+1=bB z.bs-m:=by simpa using hd (bB pre) bQ
   let⟨p,c1,c2,c3,e1,e2,e3,e4,e5,e6⟩:=h3 al;have ad:=HM.out;have ac:z.bs[bB p.bs-1]?=ah (.func (.func fn) #[] ca):=by
    have a8:bB p.bs-1=m+x.1:=bO
    rw[a8,bP bO];rw[bP bO] at hf;simpa using hf
   let⟨b,b1,b2,b3,f1,f2,f3,f4,f5,f6⟩:=d p c2 c1 bO ac e1 e2 e3 e4 e5 e6;exact⟨b,b1,b2,by simp;omega,f1,f2,f3,f4,f5,f6⟩
  obtain⟨rfl,p1,p2,rfl⟩|⟨rfl,p1,p2,p3,p4,rfl⟩:=a5
  .clear h3 C Q V h X M U
   gi_wp2_with fail
   refine⟨trivial,(CallsIn.inRound lx (gi.2 N)).mono ?_⟩;rintro e E ⟨rfl,v,t,H,Y,S,d⟩
   gi_wp2
   rw[hf] at d;exact Z E v t H Y S d
  clear h3 C Q V h X M U
  gi_wp2_with fail
  refine⟨trivial,(CallsIn.inRound lx (gi.2 N)).mono ?_⟩;rintro e E ⟨rfl,v,t,H,Y,S,d⟩
  gi_wp2
  rw[hf] at d;exact Z E v t H Y S d
 case done=>
  rintro D ys W hD ⟨hd,be⟩ Q hK;let⟨y,jv,h1,C,h3⟩:=Q.st;let⟨p,c1,c2,c3,e1,e2,e3,e4,e5,e6⟩:=h3 hd;have ad:=HM.out;obtain rfl:p=z0:=c1.zd bO;have CW:Cz W base l (z.with p jv):=by grind[Zs.with]
  have s:(z.with p jv).bv=aj (ah (az g 0)) (bB z.bs) cap:=u;have ab:=CW.back;rw[s] at ab;let⟨J,cb,O1,K1⟩:=MP (ab:bD W base 1 1 (aj (ah (az g 0)) (bB z.bs) cap) (bB z.bs) z.bs) a4 O.out 0;have a7:z.bs.take m=p.bs:=by let⟨r,hr⟩:=X.bs;grind
  have ap:bD J base 1 1 (aj (ah (az g 0)) m cap) (bB p.bs) p.bs:=by have O2:bD J base 1 1 (aj (ah (az g 0)) m cap) m (z.bs.take m):=O1;rw[a7] at O2;rw[ad];exact O2
  have ao:bI (λk=>(z.with p jv).bv.ownBlock=ah k) W J:=dW K1 (λk _ e=>by rw[s,e];rfl);let⟨C2,K3,c4,f4⟩:=CW.TK ao (aj (ah (az g 0)) m cap) p.bs ap (by rw[s];rfl);rw[s] at c4;have bi:cz J z.pk 4 (aj (ah (az g 0)) (bB z.bs) cap):=c4;have bo:bG J (az z.pk 4)=aL:=f4;have k4:=CW.k4;rw[s] at k4;have ce:cz W z.pk 4 (aj (ah (az g 0)) (bB z.bs) cap):=k4;have a0:D<W.heap.size:=(bY.1 hK).1;have bR:=h.cls.lt;have T:(aW J (az z.pk 4) (aj (ah (az g 0)) m cap)).heap[D]?=W.heap[D]?:=(cO _ _ _ _ (show D≠z.pk by omega)).trans (K1.block D a0 (show ¬D=g by omega));have b8:(m:Int)<=cap:=bO
  have G:∀k,Zs.nO {z.with p jv with bv:=aj (ah (az g 0)) m cap,bs:=p.bs} k->k<w.heap.size:=λk hk=>by
   refine h.pj (Bc (y:=p) h1 ?_);obtain(e|e|e|e|e)|e|e:=hk
   .exact .inl (.inl e)
   .exact .inl (.inr (.inl e))
   .exact .inl (.inr (.inr (.inl e)))
   .exact .inl (.inr (.inr (.inr (.inl e))))
   .exact .inl (.inr (.inr (.inr (.inr (by rw[s];exact e)))))
   .exact .inr (.inl e)
   exact .inr (.inr e)
  have an:Hid (_∧_∧_∧_∧_∧_):=⟨h1,C2,K3,Q.kept,T,G⟩
  gi_wp2_with fail
  let⟨aa,C2,K3,a2,T,G⟩:=an.out;have a1:=T.trans hK;have hG:=grownBy_putObj' (aW J (az z.pk 4) (aj (ah (az g 0)) m cap)) D (.deferred ai);have KP:bI (λk=>k=D) (aW J (az z.pk 4) (aj (ah (az g 0)) m cap)) ((aW J (az z.pk 4) (aj (ah (az g 0)) m cap)).putObj D (.deferred ai)):=(bW _ _).grown hG (λk e=>by cases e;rfl);refine⟨by simp,.inl ⟨_,_,rfl,run_takeDeferred (w:=aW J (az z.pk 4) (aj (ah (az g 0)) m cap)) a1,?_⟩⟩;have KA:bI z.gE w W:=(dW K2 λ_ _ e=>e.elim).tz a2 λk e=>e.elim (λx=>.inl x.1) λx=>.inr bO;have KB:=(KA.tz K3 λk e=>.inl (yx aa e)).tz KP λk e=>.inr bO;exact⟨_,vX rfl _ _ _,rfl,jv,aa,C2.keep KP (λk hk e=>by have:=G k hk;omega),KB⟩
 case stop=>rintro D c pre W _ _ h _;exact h.elim
attribute [local go_sem] ij
theorem Rs(W):(Builtin.clear_ #[69] 0 #[aj ai 0 0]).run prog W=.ok (.tuple #[]) W:=by simp[Builtin.clear_]
theorem Fh{w}{base}{l}{z}(h:Cz w base l z)(d:z.bv=aj ai 0 0):
  bA .wide 6 prog 249 #[ak (ah ⟨z.pk,0,ai⟩),ae af 0] w λe J=>e=aw (.tuple #[])∧∃jv,aP jv=aP z.jv∧Cz J base l {z.with z jv with bv:=aj ai 0 0,bs:=z.bs}∧bI z.gE w J:=by
 have G:z.bs=[]:=by
  have O:=h.back;rw[d] at O;obtain hh|⟨b,c,Y,hh,_⟩:=O.2
  .grind
  grind
 have k4:=h.k4;rw[d] at k4;refine callsIn_of_wp_marks func249 rfl trivial ?_ rfl;simp only[ntmps249,fU,ed,dQ,Nat.reduceAdd,Nat.reduceSub,fP,fO,gr,fV,ff,eU]
 gi_wp2_with fail
 refine⟨trivial,(Vb .wide _ trivial rfl _ _ _ _).mono ?_⟩;rintro e J ⟨rfl,rfl⟩
 gi_wp2_with fail
 have M:dG w (bC w (aq #[aj ai 0 0] 69)):=(bW _ w).alloc _;have S2:aU (bC w (aq #[aj ai 0 0] 69)) ⟨w.heap.size,0,ai⟩=ah (aj ai 0 0):=(ey w #[aj ai 0 0] 69).cell (i:=0) bQ;have Z2:(bC w (aq #[aj ai 0 0] 69)).heap.size=w.heap.size+1:=bQ
 generalize(bC w (aq #[aj ai 0 0] 69))=n at *;have L:=h.dF M;have I:¬z.Wr w.heap.size:=λe=>tT _ (h.tA e.1);have E:vQ n.heap.size z.Wr n (aj ai 0 0) 0 (λ_=>aF):=.inl ⟨rfl,rfl⟩;refine wpIn_rangeFunc_ownH rfl bO (gf:=258) (lb:=#[ak (ah ⟨w.heap.size,0,ai⟩)]) rfl trivial (enters_of func258 bV rfl)
  (Ew .wide 5 trivial rfl bO w.heap.size n.heap.size z.Wr _ 0 (λ_=>aF) bO n bO I (bT _) S2 E)
  (λa b=>a.trans (b.mono λk _ r=>r)) (Oh (bT _)) (cW _ _) (λ_=>rfl)
  (ZM n base l z z 0) (λ_ _ _=>False) (Ja z 0 L) (λ_ _ _ _ _ hs _ _=>hs)
  ?start (λx V W=>False) ?hAx ?assign ?body ?done ?stop
 case start=>exact⟨⟨z,z.jv,rfl,L,λ_=>⟨z,.refl z,.refl z,by simp,rfl,rfl,rfl,rfl,rfl,rfl⟩⟩,bW _ _⟩
 case hAx=>omega
 case assign=>rintro lx pre x W K p v;exact absurd x.2 (iR _)
 case body=>rintro lx pre x V W hl _ p hf ac;exact hf.elim
 case done=>
  rintro D ys W hD ⟨hd,Q⟩ p v;let⟨y,jv,h1,C,h3⟩:=p.st;let⟨zk,c1,c2,c3,e1,e2,e3,e4,e5,e6⟩:=h3 hd;have H:z=zk:=c2.zd bO;subst H;have R:Cz W base l (z.with z jv):=by grind[Zs.with]
  let⟨t,u,c4,f4⟩:=R.TK (bW _ W) (aj ai 0 0) z.bs (by rw[G];exact eR _ _ _ _) (by show ai=aP z.bv;rw[d];rfl);have Z:z.with z jv={z with jv:=jv}:=rfl;have X:aU W ⟨z.pk,4,ai⟩=ah (aj ai 0 0):=c4.trans (congrArg ah d);have aa:bG W ⟨z.pk,4,ai⟩=aL:=f4;have ab:D<W.heap.size:=(bY.1 v).1;have ad:=h.cls.lt;have j:(aW W ⟨z.pk,4,ai⟩ (aj ai 0 0)).heap[D]?=W.heap[D]?:=cO _ _ _ _ (show D≠z.pk by omega);have s:Hid (_∧_∧_∧_∧_):=⟨h1,t,u,p.kept,j⟩
  have ag:(Builtin.clear_ #[69] 0 #[aj ai 0 0]).run prog W=.ok (.tuple #[]) W:=Rs W;have S:Hid (Cz w base l z):=h
  gi_wp2_with fail
  let⟨g,t,u,B,j⟩:=s.out;have A:=j.trans v;have hG:=grownBy_putObj' (aW W ⟨z.pk,4,ai⟩ (aj ai 0 0)) D (.deferred ai);have N:bI (λk=>k=D) (aW W ⟨z.pk,4,ai⟩ (aj ai 0 0)) ((aW W ⟨z.pk,4,ai⟩ (aj ai 0 0)).putObj D (.deferred ai)):=(bW _ _).grown hG (λk e=>by cases e;rfl);refine⟨by simp,.inl ⟨_,_,rfl,run_takeDeferred (w:=aW W ⟨z.pk,4,ai⟩ (aj ai 0 0)) A,?_⟩⟩;have T:bI z.gE w W:=(dW M λ_ _ e=>e.elim).tz B λk e=>e.elim (λx=>.inl x.1) λx=>.inr bO;have U:=(T.tz u λk e=>.inl (yx g e)).tz N λk e=>.inr bO;have o:∀k,Zs.nO {z.with z jv with bv:=aj ai 0 0,bs:=z.bs} k->k<w.heap.size:=λk r=>by refine S.out.pj (Bc (y:=z) g ?_);grind
  exact⟨_,vX rfl _ _ _,rfl,jv,g,t.keep N (λk r e=>by have:=o k r;omega),U⟩
 case stop=>rintro D c pre W _ _ h _;exact h.elim
theorem Fi(w){base}{l}{z z0}(h:Cz w base l z)(n:iF l z0 z)(j:bB z.bs<=100000):
  bA .wide 6 prog 249 #[pz z.pk,iz (bB z0.bs)] w λe i=>e=aw (.tuple #[])∧∃jv bv,aP jv=aP z.jv∧aP bv=aP z.bv∧Cz i base l {z.with z0 jv with bv:=bv,bs:=z0.bs}∧bI z.gE w i:=by
 obtain d|⟨s,cap,t,d,_⟩:=h.back.2
 .have g:z.bs=[]:=rC.1 d.2;have u:z0.bs=[]:=by
   let⟨r,p⟩:=n.bs;rw[g] at p;exact(List.append_eq_nil_iff.1 p.symm).1
  have hz:z=z0:=n.zd (by rw[g,u]);subst hz;rw[g];refine(Fh h d.1).mono ?_;rintro e i ⟨rfl,jv,o,C,K⟩;rw[g] at C;grind
 refine(Ib h n j s cap d).mono ?_;rintro e i ⟨rfl,jv,o,C,K⟩;exact⟨rfl,jv,_,o,by rw[d];rfl,C,K⟩
def Zs.re(z:Zs)(jv bv:aA):Zs:={z with jv:=jv,bv:=bv}
theorem iF.re(h:iF l a b):∀jv bv,∃e d,iF l (a.re e d) (b.re jv bv):=by
 induction h with
 |refl=>exact λjv bv=>⟨jv,bv,.refl _⟩
 |@Af b n s g x v B i j p=>intro jv bv;let⟨e,d,o⟩:=p jv bv;exact⟨e,d,iF.Af n s g x bv o i j⟩
 |@join b low high g bm t bl C r v u B i j A p=>intro jv bv;let⟨e,d,o⟩:=p jv bv;exact⟨e,d,iF.join low high g bm t bl jv r v bv o i j A⟩
structure yk(l:List Tm)(z:Zs)(P:List (Nat×Nat)):Prop where
 inv:Cc.Inv l P z.g.lo z.us z.kn [] []
 ms:z.ms<=bB l+bB z.t*(4*bB l)
 bs:bB z.bs<=bB z.t*(4*bB l+1)
 argsAt:∀(i:Nat)(t:Tm),l[i]?=ah t->iB z.st (z.av i) t.args
 ki:∀i,i<bB l->iB z.st (z.uv i) (z.us i)
variable{P:List (Nat×Nat)}
def yk.re(h:yk l z P)(jv bv):yk l (z.re jv bv) P:=⟨h.inv,h.ms,h.bs,h.argsAt,h.ki⟩
theorem Un.CF(h:Un w base l z P [] []):yk l z P:=
 ⟨h.inv,by simpa using h.ms,by simpa using h.bs,h.cz.argsAt,h.cz.ki⟩
inductive vV (l:List Tm):Zs->List (Nat×Nat)->List Nat->Prop
 |start (z:Zs):yk l z []->vV l z [] []
 |tell {z0 z:Zs} {P:List (Nat×Nat)} {told:List Nat} (ab:Nat×Nat):vV l z0 P told->iF l z0 z->yk l z (P++[ab])->vV l z (P++[ab]) (told++[bB z0.bs])
variable{told rest needed ns:List Nat}
theorem vV.CF:vV l z P told->yk l z P
 | .start _ h=>h
 | .tell _ _ _ h=>h
theorem vV.num(h:vV l z P told):bB told=bB P:=by
 induction h with
 |start=>rfl
 |tell e _ _ _ d=>simp[d]
theorem vV.re(h:vV l z P told):∀jv bv,vV l (z.re jv bv) P told:=by
 induction h with
 |start z h=>exact λjv bv=>.start _ (h.re jv bv)
 |@tell z0 z P told g hp i j o=>intro jv bv;let⟨e,d,n⟩:=i.re jv bv;exact vV.tell (z0:=z0.re e d) g (o e d) n (j.re jv bv)
theorem vV.cut(h:vV l z P told):∀m,m<bB told->∃z0,vV l z0 (P.take m) (told.take m)∧iF l z0 z∧told[m]?=ah (bB z0.bs):=by
 induction h with
 |start=>grind
 |@tell z0 z P told o hp j p n=>
  intro m r;have s:=hp.num;by_cases e:m<bB told
  .let⟨y,d,g,i⟩:=n m e;refine⟨y,?_,g.trans j,?_⟩
   .rw[iJ bO,iJ bO];exact d
   rw[df e];exact i
  grind
theorem Cz.IF(h:Cz w base l {z.with z0 jv with bv:=bv,bs:=z0.bs})(R:iF l z0 z)(S:yk l z0 P)(hj:aP jv=aP z.jv)(hb:aP bv=aP z.bv):Cz w base l (z0.re jv bv):=by
 let⟨I,J,L,M,N,O,Q⟩:=R.same;have n:=R.st;obtain⟨u,v,A,B,C,D,E,G,a9,U,o,p,r,d,e,i,j⟩:=h;simp only[Zs.with] at u v A B C D E G d e i j;cases z0 with
 |mk pk ps nb tb ub mb Z Y av uv g t bs st us kn ms=>
 cases z with
 |mk ag al ad ao ap ab T H V ba g' t' X an a0 aa ac=>
 simp only at I J L M N O Q;subst I J L M N O Q;exact⟨u,v,A,B,C,D,λx s=>E x (n x s),λx s=>G x (n x s),S.argsAt,S.ki,o,p,r,d,e,i,j⟩
theorem Cz.Yo(h:Cz w base l {z.with z0 jv with bv:=bv,bs:=z0.bs})(g:iF l z0 z)(d:yk l z0 P)(i:aP jv=aP z.jv)(e:aP bv=aP z.bv)(hl:base<=w.heap.size):Un w base l (z0.re jv bv) P [] []:=
 ⟨h.IF g d i e,d.inv,d.ms,d.bs,by simp,hl⟩
structure Cq(w:ay)(base:Nat)(l:List Tm)(c:Ks)(P:List (Nat×Nat)):Prop where
 cl:Cl w base l c P
 IF:vV l c.z P c.told
theorem FC(d:iF l z0 z)(t:aP jv=aP z.jv)(s:aP bv=aP z.bv)(h:(z0.re jv bv).nO k):z.nO k:=by
 let⟨g,i,j,n,p,r,u⟩:=d.same;obtain(e|(e|e|e)|e|e|e)|e|⟨o,e⟩:=h
 .exact .inl (.inl (by rw[g];exact e))
 .exact .inl (.inr (.inl (.inl (by rw[i];exact e))))
 .exact .inl (.inr (.inl (.inr (.inl (by rw[j];exact e)))))
 .exact .inl (.inr (.inl (.inr (.inr (by rw[<-t];exact e)))))
 .exact .inl (.inr (.inr (.inl (by rw[p];exact e))))
 .exact .inl (.inr (.inr (.inr (.inl (by rw[r];exact e)))))
 .exact .inl (.inr (.inr (.inr (.inr (by rw[<-s];exact e)))))
 .exact .inr (.inl (by rw[n];exact e))
 exact .inr (.inr ⟨o,d.st _ e⟩)
variable{c:Ks}
theorem Cq.aaB(h:Cq w base l c P)(I:m<bB P)(hp:vV l z0 (P.take m) (c.told.take m))(n:iF l z0 c.z)(t:aP jv=aP c.z.jv)(s:aP bv=aP c.z.bv)(C:Cz w1 base l {c.z.with z0 jv with bv:=bv,bs:=z0.bs})(K:bI c.z.gE w w1){tb d:Nat}(g:c.tv=aj (ah (az tb 0)) (bB c.told) d):
  cz w1 c.pc 0 (pz c.z.pk)∧cz w1 c.pc 1 (aj (ah (az tb 0)) (bB c.told) d)∧bG w1 (az c.pc 1)=aL∧
  Cq (aW w1 (az c.pc 1) (aj (ah (az tb 0)) m d)) base l ⟨c.pc,aj (ah (az tb 0)) m d,c.told.take m,z0.re jv bv⟩ (P.take m)∧bI c.gE w (aW w1 (az c.pc 1) (aj (ah (az tb 0)) m d)):=by
 have H:=h.cl;have J:=H.num;have A:¬c.z.gE c.pc:=λe=>H.JK (.inl e);have j:bE w1 c.pc 62 2 (Gy c.z.pk c.tv):=H.uS.of_block (K.block _ H.uS.lt A);have v:=H.told;rw[g] at v;have r:aP c.tv=ah tb:=by rw[g];rfl
 have B:bD w1 base 3 1 (aj (ah (az tb 0)) m d) m ((gq c.told).take (m*1)):=pJ v (K.block tb (v.lt tb rfl).2 λe=>H.QU tb r (.inl e)) bO;have np:=dY j bS B;have o:bB (c.told.take m)=m:=aeF
 have D:bI c.gE w (aW w1 (az c.pc 1) (aj (ah (az tb 0)) m d)):=eY (p:=az c.pc 1) (dW K λ_ _ e=>.inr (.inr e)) (.inl rfl) _;have E:bI (λk=>k=c.pc) w1 (aW w1 (az c.pc 1) (aj (ah (az tb 0)) m d)):=eY (p:=az c.pc 1) (bW (λk=>k=c.pc) w1) rfl _;have U:=C.Yo n hp.CF t s (bZ H.un.low K.size);have u:=n.same.1;refine⟨j.cell (i:=0) bO,by rw[<-g];exact j.cell (i:=1) bO,j.frozen 1,⟨⟨(j.set 1 _).congr λi G=>?_,?_,U.keep E λk x e=>H.JK (e▸FC n t s x),λe=>H.JK (FC n t s e),λk x e=>H.QU k ?_ (FC n t s e),H.bp,?_⟩,hp.re jv bv⟩,D⟩
 .obtain rfl|rfl:=(by omega:i=0∨i=1)
  .simp[Gy,Zs.re,u]
  simp[Gy]
 .show bD _ base 3 1 (aj (ah (az tb 0)) m d) (bB (c.told.take m)) (gq (c.told.take m));rw[o];have e:gq (c.told.take m)=(gq c.told).take (m*1):=by simp[gq,zn]
  rw[e];exact fR B np _
 .rw[r];exact x
 grind
theorem U9{w}{base}{l}{c}{P}(h:Cl w base l c P)(m)(d:m<0∨(bB P:Int)<m):
  aB prog 225 #[pz c.pc,iz m] w λe j=>e=aw (.bool aL)∧w=j:=by
 have c1:=h.c1;let⟨o,p,g⟩:=iQ h.told;rw[g] at c1;have i:=h.num;rw[<-i] at d;by_cases e:m<0
 .clear d;go_enter func225,ntmps225
  go_wp2;go_ret;exact⟨rfl,rfl⟩
 have n:(bB c.told:Int)<m:=bO
 go_enter func225,ntmps225
 go_wp2;go_ret;exact⟨rfl,rfl⟩
theorem Qr{w}{base}{l}{c}{P}(h:Cl w base l c P):
  aB prog 225 #[pz c.pc,iz (bB P)] w λe i=>e=aw (.bool aK)∧w=i:=by
 have c1:=h.c1;let⟨j,n,d⟩:=iQ h.told;rw[d] at c1;have g:=h.num;rw[<-g];go_enter func225,ntmps225
 go_wp2;go_ret;exact⟨rfl,rfl⟩
theorem Qq{w}{base}{l}{c}{P}(h:Cq w base l c P)(m)(O:m<bB P):
  aB prog 225 #[pz c.pc,iz m] w λe I=>e=aw (.bool aK)∧∃v:Ks,Cq I base l v (P.take m)∧bI c.gE w I∧v.pc=c.pc∧(∀k,v.nO k->c.nO k):=by
 have H:=h.cl;have X:=H.num;let⟨z0,hp,A,R⟩:=h.IF.cut m bO;have c0:=H.c0;have c1:=H.c1;obtain⟨tb,S,i,j,_,_,G,s,_⟩:∃g cap i,c.tv=aj (ah (az g 0)) (bB c.told) cap∧base<=g∧w.heap[g]?=ah (.cells i 3 (0,0))∧bB c.told<=cap∧cap<=aY∧i.size=cap*1∧i.toList.take (bB c.told*1)=gq c.told:=by
  obtain B|B:=H.told.2
  .have:=B.2;omega
  exact B
 have E:=H.told;rw[j] at E;have Y:aU w (az tb m)=ah (iz (bB z0.bs)):=by rw[E.cellAt m bO];simp[gq,R]
 rw[j] at c1;have x:bB c.z.bs<=100000:=by have M:=H.un.bs;have:=H.un.bound.2;simp only[dQ] at M;omega
 have u:∀n,dG w (bF w n):=λn=>(bW _ w).drewN n;have L:=λn=>gi.1 (Fi (bF w n) (H.un.cz.dF (u n)) A x);have d:=λn w1 jv bv p o C K=>(show Cq (bF w n) base l c P from⟨H.dF (u n),h.IF⟩).aaB (w1:=w1) O hp A (jv:=jv) (bv:=bv) p o C K j;have Q:m<bB c.told:=bO
 have r:Hid (∀jv bv:aA,aP jv=aP c.z.jv->aP bv=aP c.z.bv->∀k,(⟨c.pc,aj (ah (az tb 0)) m S,c.told.take m,z0.re jv bv⟩:Ks).nO k->c.nO k):=λjv bv p o k N=>by
  obtain e|e|e:=N
  .exact .inl e
  .exact .inr (.inl (by rw[j];exact e))
  exact .inr (.inr (FC A p o e))
 unfold aY at s;have J:=bL d;go_enter func225,ntmps225
 go_wp2
 go_region_with(go_at_call 249;refine(L 1).mono ?_;rintro e w1 ⟨rfl,jv,bv,p,o,C,K⟩;let⟨T,U,V,D,t⟩:=J.out 1 w1 jv bv p o C K;replace D:=bL D;replace t:=bL t;replace C:=bL C;replace K:Hid _:=K)
 all_goals
  go_wp2;go_ret;exact⟨rfl,_,D.out,(dW (u 1) λ_ _ e=>e.elim).trans t.out,rfl,r.out jv bv p o⟩
def Cq.dF{d:ay}(h:Cq w base l c P)(K:dG w d):Cq d base l c P:=⟨h.cl.dF K,h.IF⟩
theorem yL{w}(base){l}{c}{P}(h:Cq w base l c P)(a b)(u:(bB P+1)*8<=140737488355328):
  aB prog 7 #[pz c.pc,iz a,iz b] w λe j=>e=aw (iz (tt l a b))∧∃g:Ks,Cq j base l g (qP l P a b)∧bI c.gE w j∧g.pc=c.pc∧(∀k,g.nO k->c.nO k∨w.heap.size<=k):=by
 cases d:mD (bB l) a&&mD (bB l) b
 .refine(yV h.cl a b d).mono ?_;rintro e j ⟨rfl,rfl⟩;refine⟨by simp[tt,d],c,?_,bW _ _,rfl,λk t=>.inl t⟩;grind[qP]
 have i:=d;rw[nA] at d;let⟨p,A⟩:=jR d.1;let⟨b1,b2⟩:=jR d.2;obtain⟨x,rfl⟩:=fg p;obtain⟨y,rfl⟩:=fg b1;refine(wP base P h.cl x y bO bO u).mono ?_;rintro e j ⟨rfl,g,n,o,hp,r,s,v⟩;refine⟨by simp[tt,i],g,?_,o,hp,r⟩;rw[qP,i,cY rfl];refine⟨n,?_⟩;rw[v];exact .tell (x,y) h.IF s n.un.CF
def Bl(P:List (Nat×Nat))(m:Int):Bool:=aM (0<=m)&&aM (m<=(bB P:Int))
def Hv(P:List (Nat×Nat))(m:Int):List (Nat×Nat):=if Bl P m then P.take m.toNat else P
theorem TQ{w}{base}{l}{c}{P}(h:Cq w base l c P)(m):
  aB prog 225 #[pz c.pc,iz m] w λe i=>e=aw (.bool (Bl P m))∧∃d:Ks,Cq i base l d (Hv P m)∧bI c.gE w i∧d.pc=c.pc∧(∀k,d.nO k->c.nO k):=by
 by_cases j:0<=m∧m<=(bB P:Int)
 .have g:Bl P m=aK:=by simp[Bl,j]
  obtain⟨k,rfl⟩:=fg j.1;rw[Hv,g,cY rfl,eS];by_cases e:k<bB P
  .exact Qq h k e
  have n:k=bB P:=bO
  subst n;refine(Qr h.cl).mono ?_;grind[List.take_length,bI.refl]
 have g:Bl P m=aL:=by
  unfold Bl;rw[Bool.and_eq_false_iff];by_cases e:0<=m
  .exact .inr bX
  exact .inl (by simpa using e)
 rw[Hv,g,cC bS];refine(U9 h.cl m bO).mono ?_;rintro e i ⟨rfl,rfl⟩;grind[bI.refl]
theorem Cl.fresh(h:Cl w base l c []):Cq w base l c []:=by refine⟨h,?_⟩;have e:c.told=[]:=rC.1 h.num;rw[e];exact .start _ h.un.CF
namespace Wm
def Mon(F:List Nat->Prop):Prop:=∀a b:List Nat,(∀x,x∈a->x∈b)->F a->F b
structure Wy(F:List Nat->Prop)(needed rest:List Nat):Prop where
 all:F (needed++rest)
 acq:∀m,m∈needed->¬F (needed.filter (· != m)++rest)
 up:rest.Pairwise (· < ·)
 dn:needed.Pairwise (· > ·)
 below:∀a,a∈rest->∀b,b∈needed->a<b
variable{F:List Nat->Prop}
def Wy.start(h:F rest)(g:rest.Pairwise (· < ·)):Wy F [] rest:=
 ⟨h,λ_ e=>absurd e bQ,g,yv,λ_ _ _ d=>absurd d bQ⟩
theorem Wy.step(o:Mon F)(h:Wy F needed rest){i:Nat}(s:i<bB rest)(A:F (needed++rest.take (i+1)))(u:¬F (needed++rest.take i)):Wy F (needed++[rest[i]]) (rest.take i):=by
 have v:rest.take (i+1)=rest.take i++[rest[i]]:=aeA
 have n:(rest.take (i+1)).Pairwise (· < ·):=h.up.sublist (List.take_sublist _ _);rw[v] at n;let⟨B,_,C⟩:=kQ.1 n;have t:∀a,a∈rest.take i->a<rest[i]:=λa e=>C a e _ bQ;have j:rest[i]∈rest:=dw s;refine⟨o _ _ (λx r=>?_) A,λm g p=>?_,B,?_,λa e b d=>?_⟩
 .grind
 .obtain g|g:=cU.1 g
  .refine h.acq m g (o _ _ (λx r=>?_) p);grind
  rw[dL] at g;refine u (o _ _ (λx r=>?_) p);grind
 .refine kQ.2 ⟨h.dn,Aq _ _,λa e b d=>?_⟩;rw[dL] at d;rw[d];exact h.below _ j a e
 obtain d|d:=cU.1 d
 .exact h.below a (je e) b d
 grind
theorem Wy.fin(e:Mon F)(h:Wy F needed rest)(o:F needed):
  needed.reverse.Pairwise (· < ·)∧F needed.reverse∧∀m,m∈needed.reverse->∀d,(∀x,x∈d->x∈needed.reverse∧x≠m)->¬F d:=by
 refine⟨List.pairwise_reverse.2 h.dn,e _ _ (λx g=>Ar.2 g) o,λm j d n i=>?_⟩;refine h.acq m (Ar.1 j) (e _ _ (λx g=>?_) i);grind
theorem Wy.adr(o:Mon F)(h:Wy F needed rest)(t:¬F needed):∃i,i<bB rest∧F (needed++rest.take (i+1))∧∀j,j<=i->¬F (needed++rest.take j):=by
 have g:∀k,k<=bB rest->F (needed++rest.take k)->∃i,i<k∧F (needed++rest.take (i+1))∧∀j,j<=i->¬F (needed++rest.take j):=by
  intro k
  induction k with
  |zero=>grind
  |succ k u=>
   intro s p;by_cases e:F (needed++rest.take k)
   .grind
   refine⟨k,by omega,p,λj r n=>e (o _ _ (λx d=>?_) n)⟩;obtain d|d:=cU.1 d
   .grind
   exact gm _ ((List.take_sublist_take_left r).subset d)
 exact g (bB rest) (bT _) (by rw[fI];exact h.all)
end Wm
namespace Wm
open Cc
def vU(N:Nat)(p:Int×Int):Option (Nat×Nat):=if mD N p.1&&mD N p.2 then ah (p.1.toNat,p.2.toNat) else ai
def nE(N:Nat)(ps:List (Int×Int))(ns:List Nat):List (Nat×Nat):=ns.filterMap λn=>(ps[n]?).bind (vU N)
variable{ps:List (Int×Int)}{q:Nat×Nat}
theorem FX{N:Nat}:q∈nE N ps ns↔∃n,n∈ns∧(ps[n]?).bind (vU N)=ah q:=by simp[nE,nY]
theorem NJ(N)(ps:List (Int×Int))(a b):nE N ps (a++b)=nE N ps a++nE N ps b:=by simp[nE]
def Xo(l:List Tm)(ps:List (Int×Int))(x y:Nat)(ns:List Nat):Prop:=Cg l (nE (bB l) ps ns) x y
theorem xV(l)(ps:List (Int×Int))(x y):Mon (Xo l ps x y):=λa b h d=>by refine Cg.mono (λi j n e g=>.told ?_ e g) d;grind[FX]
structure En(l:List Tm)(ps:List (Int×Int))(k:Nat)(ns:List Nat):Prop where
 up:ns.Pairwise (· < ·)
 lt:∀n,n∈ns->n<k
 ok:∀n,n∈ns->∃q,(ps[n]?).bind (vU (bB l))=ah q
 all:∀n,n<k->∀q,(ps[n]?).bind (vU (bB l))=ah q->Cg l (nE (bB l) ps ns) q.1 q.2
def En.start(l)(ps:List (Int×Int)):En l ps 0 []:=⟨.nil,λ_ h=>absurd h bQ,λ_ h=>absurd h bQ,λ_ h=>absurd h (iR _)⟩
theorem En.skip(h:En l ps k ns)(i:∀q,(ps[k]?).bind (vU (bB l))=ah q->Cg l (nE (bB l) ps ns) q.1 q.2):En l ps (k+1) ns:=
 ⟨h.up,λn d=>oQ (h.lt n d),h.ok,λn d q g=>by
  obtain e|e:=ac0.1 d
  .exact h.all n e q g
  subst e;exact i q g⟩
theorem En.take(h:En l ps k ns)(o:(ps[k]?).bind (vU (bB l))=ah q)(r:q.1<bB l)(s:q.2<bB l):En l ps (k+1) (ns++[k]):=by
 have v:∀i j,Cg l (nE (bB l) ps ns) i j->Cg l (nE (bB l) ps (ns++[k])) i j:=λi j u=>xV l ps i j _ _ (λx A=>dh _ A) u;refine⟨kQ.2 ⟨h.up,Aq _ _,λa t b g=>?_⟩,λn d=>?_,λn d=>?_,λn d p hp=>?_⟩
 .rw[dL] at g;rw[g];exact h.lt a t
 .obtain e|e:=cU.1 d
  .exact oQ (h.lt n e)
  grind
 .obtain e|e:=cU.1 d
  .exact h.ok n e
  grind
 obtain e|e:=ac0.1 d
 .exact v _ _ (h.all n e p hp)
 subst e;rw[o] at hp;cases hp
 exact .told (FX.2 ⟨n,by simp,o⟩) r s
theorem En.fin(h:En l ps (bB ps) ns)(x y):Xo l ps x y ns↔Xo l ps x y (aO (bB ps)):=by
 constructor
 .exact xV l ps x y _ _ λn p=>j6.2 (h.lt n p)
 intro g;refine Cg.mono (λi j o _ _=>?_) g;let⟨n,d,e⟩:=FX.1 o;exact h.all n (j6.1 d) (i,j) e
def En.some(h:En l ps k ns)(e:k<=bB ps){x y:Nat}(d:Xo l ps x y ns):Xo l ps x y (aO (bB ps)):=
 xV l ps x y _ _ (λn g=>j6.2 (cQ (h.lt n g) e)) d
end Wm
end
def Xn(w:ay)(a:Option Addr)(ps:List (Int×Int)):Prop:=∀(k:Nat)(x:Int×Int),ps[k]?=ah x->∃b off,a=ah ⟨b,off,ai⟩∧b<w.heap.size∧aU w ⟨b,off+k*2,ai⟩=ah (ae af x.1)∧aU w ⟨b,off+k*2+1,ai⟩=ah (ae af x.2)
variable{w W W' wa w1:ay}{ps:List (Int×Int)}
theorem Xn.dF{f:ay}{a:Option Addr}(h:Xn w a ps)(K:dG w f):Xn f a ps:=λk x t=>by
 let⟨b,d,m,i,r,s⟩:=h k x t;have e:∀o,aU f (az b o)=aU w (az b o):=λo=>by unfold aU;rw[K.block b i λe=>e]
 exact⟨b,d,m,cQ i K.size,by rw[e];exact r,by rw[e];exact s⟩
open Classical in
noncomputable def tC(l:List Tm)(P:List (Nat×Nat))(x y:Int):Bool:=mD (bB l) x&&mD (bB l) y&&aM (Cc.Cg l P x.toNat y.toNat)
variable{l:List Tm}{P:List (Nat×Nat)}{x y:Int}
theorem xY:tC l P x y=aK↔mD (bB l) x=aK∧mD (bB l) y=aK∧Cc.Cg l P x.toNat y.toNat:=by grind[tC]
variable{base N k j n g cap:Nat}{c c':Ks}
theorem Cl.lW(h:Cl w base l c P)(x y):Go.Proofs.YtlehlgipbhfioaaGreat.lW (bB l) c.z.g x y=tC l P x y:=by
 rw[Bool.eq_iff_iff,xY];constructor
 .intro hs;have a:mD (bB l) x=aK∧mD (bB l) y=aK:=by grind[Go.Proofs.YtlehlgipbhfioaaGreat.lW]
  let⟨b,d⟩:=jR a.1;let⟨b1,b2⟩:=jR a.2;obtain⟨i,rfl⟩:=fg b;obtain⟨j,rfl⟩:=fg b1;exact⟨a.1,a.2,(h.un.same (i:=i) (j:=j) bO bO).1 hs⟩
 rintro⟨e,a,f⟩;let⟨b,d⟩:=jR e;let⟨b1,b2⟩:=jR a;obtain⟨i,rfl⟩:=fg b;obtain⟨j,rfl⟩:=fg b1;exact(h.un.same (i:=i) (j:=j) bO bO).2 f
theorem TV{w}{base}{l}{c}{P}(h:Cl w base l c P)(x y):
  aB prog 11 #[pz c.pc,iz x,iz y] w λe a=>e=aw (.bool (tC l P x y))∧∃m,a=bF w m:=by
 rw[<-h.lW];exact Jn h x y
def AA{w}{base}{l}{c}{P}(h:Cl w base l c P)(x y):
  aB prog 11 #[pz c.pc,iz x,iz y] w λe d=>e=aw (.bool (tC l P x y))∧dG w d:=
 (TV h x y).mono λ_ _ ⟨a,m,b⟩=>⟨a,b▸(bW _ w).drewN m⟩
structure Eg(w W:ay)(l:List Tm)(ps:List (Int×Int))(c:Ks)(k:Nat)(ns:List Nat)(v:aA):Prop where
 cq:Cq W w.heap.size l c (Wm.nE (bB l) ps ns)
 row:bD W w.heap.size 3 1 v (bB ns) (gq ns)
 ot:∀j,aP v=ah j->¬c.nO j
 en:Wm.En l ps k ns
 sd:bB ns<=k
 kB:dG w W
theorem Wm.AE(N)(ps:List (Int×Int))(ns):bB (Wm.nE N ps ns)<=bB ns:=ac2 _ _
def Nk:=@Wm.AE
variable{ns rest needed:List Nat}{q:Nat×Nat}
theorem Wm.BR(h:(ps[k]?).bind (Wm.vU N)=ah q):Wm.nE N ps (ns++[k])=Wm.nE N ps ns++[q]:=by grind[Wm.nE]
def Xr:=@Wm.BR
variable{v v' nv rv:aA}
def Eg.dF(h:Eg w W l ps c k ns v)(K:dG W W'):Eg w W' l ps c k ns v:=
 ⟨h.cq.dF K,gh h.row λj a=>K.block j (h.row.lt j a).2 λe=>e,h.ot,h.en,h.sd,h.kB.trans K⟩
variable{p:Int×Int}
theorem Eg.skip(h:Eg w W l ps c k ns v)(hp:ps[k]?=ah p)(hs:tC l (Wm.nE (bB l) ps ns) p.1 p.2=aK∨(mD (bB l) p.1&&mD (bB l) p.2)=aL):Eg w W l ps c (k+1) ns v:=by refine⟨h.cq,h.row,h.ot,h.en.skip λq a=>?_,iU h.sd,h.kB⟩;grind[Wm.vU,xY]
theorem Eg.tell(h:Eg w W l ps c k ns v)(hp:ps[k]?=ah p)(d:(mD (bB l) p.1&&mD (bB l) p.2)=aK)(u:(k+1)*8<=140737488355328):
  aB prog 7 #[pz c.pc,iz p.1,iz p.2] W λe W'=>e=aw (iz 0)∧∃c':Ks,c'.pc=c.pc∧Cq W' w.heap.size l c' (Wm.nE (bB l) ps (ns++[k]))∧bD W' w.heap.size 3 1 v (bB ns) (gq ns)∧(∀j,aP v=ah j->¬c'.nO j)∧dG w W':=by
 have t:(ps[k]?).bind (Wm.vU (bB l))=ah (p.1.toNat,p.2.toNat):=by grind[Wm.vU]
 have hl:=Nk (bB l) ps ns;have s:=h.sd;refine(yL (hz w) h.cq p.1 p.2 bO).mono ?_;rintro e W' ⟨rfl,c',r,K,f,m⟩;refine⟨by simp[tt,d],c',f,?_,gh h.row λj a=>K.block j (h.row.lt j a).2 λe=>h.ot j a e.all,λj a b=>?_,?_⟩
 .grind[qP,Wm.BR]
 .obtain e|e:=m j b
  .exact h.ot j a e
  have:=(h.row.lt j a).2;omega
 exact h.kB.tz K λi o=>.inr (h.cq.cl.tB o)
theorem Eg.note(o:Wm.En l ps k ns)(sd:bB ns<=k)(hp:ps[k]?=ah p)(b:(mD (bB l) p.1&&mD (bB l) p.2)=aK)(m:Cq W w.heap.size l c (Wm.nE (bB l) ps (ns++[k])))(ot:∀j,aP v=ah j->¬c.nO j)(K:dG w W)(s:dG W wa)(h:bD W w.heap.size 3 1 v (bB ns) (gq ns))(f:bD w1 w.heap.size 3 1 v' (bB ns+1) (gq ns++[iz k]))(a:bH wa w1 (aP v))(d:aP v'=aP v∨∀k,aP v'=ah k->wa.heap.size<=k):Eg w w1 l ps c (k+1) (ns++[k]) v':=by
 have A:(ps[k]?).bind (Wm.vU (bB l))=ah (p.1.toNat,p.2.toNat):=by grind[Wm.vU]
 have t:bI (λj=>aP v=ah j) W w1:=gA (dW s λ_ _ e=>e.elim) a λ_ e=>e;rw[nA] at b;have B:=jR b.1;have b1:=jR b.2;refine⟨⟨m.cl.keep t λj r e=>ot j e r,m.IF⟩,?_,λj r u=>?_,o.take A bO bO,by simp;omega,K.tz t λi z=>.inr (h.lt i z).1⟩
 .rw[cR,<-xP];exact f
 obtain e|e:=d
 .grind
 have C:=e j r;have D:=m.cl.pj u;have E:=s.size;omega
theorem QZ{w}{base p}{ev}{nb fb}{l}(h:Bk w base p ev nb fb l)(hb:Cc.Bd l)(hl:bB l<=150){a}(cp)(hP:Xn w a ps)(hr:bB ps*16<=140737488355328)(x y):
  aB prog 179 #[pz p,aj a (bB ps) cp,iz x,iz y] w λe I=>∃(ns:List Nat)(v:aA)(k:Nat),e=aw (.tuple #[v,.bool (tC l (Wm.nE (bB l) ps ns) x y)])∧bD I w.heap.size 3 1 v (bB ns) (gq ns)∧
   Wm.En l ps k ns∧k<=bB ps∧(tC l (Wm.nE (bB l) ps ns) x y=aL->k=bB ps)∧dG w I∧bB ns<=bB ps:=by
 have NC:=AQ h hb hl;go_enter func179,ntmps179
 go_wp2_with(go_at_call 5;refine NC.mono ?_;rintro e w1 ⟨c,rfl,C0,Y⟩);have E0:Eg w w1 l ps c 0 [] (aj ai 0 0):=⟨C0.fresh,eR _ _ _ _,λj hj=>by simp[aP] at hj,Wm.En.start _ _,by simp,Y⟩
 let⟨i0,ac,al,an,ao⟩:=eB sN;have HR:Hid (bB ps*16<=140737488355328):=hr;have a2:bB ps<=8796093022208:=bO
 go_loopw[10,18] (λap Q W=>∃(k:Nat)(c':Ks)(ns:List Nat),k<=bB ps∧Q=iz k∧c'.pc=c.pc∧Eg w W l ps c' k ns ap) λ_ Q _=>bB ps-(aG Q).toNat
 case atStart=>grind
 case round=>
  obtain⟨k,c',ns,hk,rfl,o,E⟩:=hrel;let⟨D,F,hv⟩:=iQ E.row;subst hv;have aa:∀W,dG wr W->aB prog 11 #[pz c.pc,iz x,iz y] W λe I=>e=aw (.bool (tC l (Wm.nE (bB l) ps ns) x y))∧dG W I:=λW K=>by rw[<-o];exact AA (E.cq.cl.dF K) x y
  have u:=bL aa;by_cases B:k<bB ps
  .have dk:=bM k (bB ps);have R:ps[k]?=ah ps[k]:=bP B;generalize a3:ps[k]=q at R;obtain⟨b,a4,rfl,a1,y1,y2⟩:=hP.dF E.kB k q R;have S1:=u.out (bC wr (aq #[iz q.1,iz q.2] 34)) ((bW _ wr).alloc _);cases C:tC l (Wm.nE (bB l) ps ns) x y
   .rw[C] at S1;have R1:=ey wr #[iz q.1,iz q.2] 34;have Y:dG wr (bC wr (aq #[iz q.1,iz q.2] 34)):=(bW _ wr).alloc _;have J:=E.dF Y;have a0:=E.sd;generalize ag:bC wr (aq #[iz q.1,iz q.2] 34)=w2 at *;have Z:Hid (∀W,dG w2 W->cz W wr.heap.size 0 (iz q.1)∧cz W wr.heap.size 1 (iz q.2)):=λW K=>by
     have R2:=R1.of_block (K.block _ R1.lt λe=>e);exact⟨R2.cell (i:=0) bQ,R2.cell (i:=1) bQ⟩
    have m:∀W,dG w2 W->aB prog 11 #[pz c.pc,iz q.1,iz q.2] W λe I=>e=aw (.bool (tC l (Wm.nE (bB l) ps ns) q.1 q.2))∧dG W I:=λW K=>by rw[<-o];exact AA (J.cq.cl.dF K) q.1 q.2
    subst ag;cases z:tC l (Wm.nE (bB l) ps ns) q.1 q.2
    .cases A:mD (bB l) q.1&&mD (bB l) q.2
     .have V:Hid (∀W,dG (bC wr (aq #[iz q.1,iz q.2] 34)) W->Eg w W l ps c' (k+1) ns (aj D (bB ns) F)):=λW K=>(J.dF K).skip R (.inr A);have MG:Hid (∀W,dG (bC wr (aq #[iz q.1,iz q.2] 34)) W->aB prog 7 #[pz c.pc,iz q.1,iz q.2] W λe I=>e=aw (iz 7)∧W=I):=λW K=>by
       rw[<-o];exact yV (J.cq.cl.dF K) q.1 q.2 A
      rw[z] at m;have d:=bL m;have L:Hid (c'.pc=c.pc):=o;generalize q.1=qa at *;generalize q.2=qb at *
      go_wp2_with(first|(go_at_call 11;refine S2.mono ?_;rintro e G ⟨rfl,r⟩;have M4:=MG.out G (f.trans r);let⟨x1,x2⟩:=Z.out G (f.trans r))|(go_at_call 11;refine S1.mono ?_;rintro e s ⟨rfl,f⟩;have S2:=d.out s f;let⟨z1,z2⟩:=Z.out s f)|(go_at_call 7;refine M4.mono ?_;rintro e T ⟨rfl,rfl⟩));exact⟨⟨k+1,c',ns,B,by simp,L.out,V.out G (f.trans r)⟩,by simp[aG];omega⟩
     have ad:(k+1)*8<=140737488355328:=by have:=HR.out;omega
     have MG:Hid (∀W,dG (bC wr (aq #[iz q.1,iz q.2] 34)) W->aB prog 7 #[pz c.pc,iz q.1,iz q.2] W λe W'=>e=aw (iz 0)∧∃c2:Ks,c2.pc=c.pc∧Cq W' w.heap.size l c2 (Wm.nE (bB l) ps (ns++[k]))∧bD W' w.heap.size 3 1 (aj D (bB ns) F) (bB ns) (gq ns)∧(∀j,aP (aT D (bB ns) F)=ah j->¬c2.nO j)∧dG w W'):=λW K=>by rw[<-o];exact(J.dF K).tell R A ad
     have NT:Hid (∀(W wa w1:ay)(c2:Ks)(v':aA),Cq W w.heap.size l c2 (Wm.nE (bB l) ps (ns++[k]))->(∀j,aP (aT D (bB ns) F)=ah j->¬c2.nO j)->dG w W->dG W wa->bD W w.heap.size 3 1 (aj D (bB ns) F) (bB ns) (gq ns)->bD w1 w.heap.size 3 1 v' (bB ns+1) (gq ns++[iz k])->bH wa w1 (aP (aT D (bB ns) F))->(aP v'=aP (aT D (bB ns) F)∨∀k,aP v'=ah k->wa.heap.size<=k)->Eg w w1 l ps c2 (k+1) (ns++[k]) v'):=λW wa w1 c2 v' h1 h2 h3 h4 h5 h6 h7 h8=>Eg.note J.en J.sd R A h1 h2 h3 h4 h5 h6 h7 h8;rw[z] at m;have d:=bL m;generalize q.1=qa at *;generalize q.2=qb at *
     go_wp2_with(first|(go_at_call 11;refine S2.mono ?_;rintro e G ⟨rfl,r⟩;have M4:=MG.out G (f.trans r);let⟨x1,x2⟩:=Z.out G (f.trans r))|(go_at_call 11;refine S1.mono ?_;rintro e s ⟨rfl,f⟩;have S2:=d.out s f;let⟨z1,z2⟩:=Z.out s f)|(go_at_call 7;refine M4.mono ?_;rintro e T ⟨rfl,c2,ab,U,R5,X,K5⟩;replace U:=bL U;replace X:Hid _:=X)|(at_builtin;go_loud (refine gK rfl _ _ 39 rfl w.heap.size 3 i0 _ 1 8 underlying39 ac al an ao rfl bS _ _ (gq ns) rfl (R5.alloc _) (az T.heap.size 0) 1 1 [iz k] rfl rfl (by exact uH T 0 _ _) cM cJ bO (by have:=K5.size;simp;omega) ?_;intro v6 w6 O S M)));exact⟨⟨k+1,c2,ns++[k],B,by simp,ab,NT.out T _ w6 c2 v6 U.out X.out K5 ((bW _ T).alloc _) R5 O S M⟩,by simp[aG];omega⟩
    have V:Hid (∀W,dG (bC wr (aq #[iz q.1,iz q.2] 34)) W->Eg w W l ps c' (k+1) ns (aj D (bB ns) F)):=λW K=>(J.dF K).skip R (.inl z);rw[z] at m;have d:=bL m;have L:Hid (c'.pc=c.pc):=o;generalize q.1=qa at *;generalize q.2=qb at *
    go_wp2_with(first|(go_at_call 11;refine S2.mono ?_;rintro e G ⟨rfl,r⟩)|(go_at_call 11;refine S1.mono ?_;rintro e s ⟨rfl,f⟩;have S2:=d.out s f;let⟨z1,z2⟩:=Z.out s f));exact⟨⟨k+1,c',ns,B,by simp,L.out,V.out G (f.trans r)⟩,by simp[aG];omega⟩
   rw[C] at S1;have t:=bL E;have H:Hid (tC l (Wm.nE (bB l) ps ns) x y=aK):=C;rw[C] at u;generalize q.1=qa at *;generalize q.2=qb at *
   go_wp2_with(first|(go_at_call 11;refine S2.mono ?_;rintro e G ⟨rfl,r⟩)|(go_at_call 11;refine S1.mono ?_;rintro e s ⟨rfl,f⟩;have KK:dG wr s:=((bW _ wr).alloc _).trans f;have S2:=u.out s KK));go_ret2
   exact⟨ns,aj D (bB ns) F,k,by rw[H.out];rfl,(t.out.dF (KK.trans r)).row,t.out.en,hk,λe=>(by rw[H.out] at e;cases e),t.out.kB.trans (KK.trans r),bZ t.out.sd hk⟩
  have dk:=bN k (bB ps);obtain rfl:k=bB ps:=bO
  have S1:=u.out wr (bW _ wr);have t:=bL E
  go_wp2_with(go_at_call 11;refine S1.mono ?_;rintro e w2 ⟨rfl,K2⟩);go_ret2
  exact⟨ns,_,bB ps,rfl,(t.out.dF K2).row,t.out.en,bT _,λ_=>rfl,t.out.kB.trans K2,t.out.sd⟩
structure Tn(w W:ay)(base:Nat)(l:List Tm)(ps:List (Int×Int))(rest:List Nat)(c:Ks)(P:List (Nat×Nat))(c':Ks)(j:Nat):Prop where
 cq:Cq W base l c' (P++Wm.nE (bB l) ps (rest.take j))
 kept:bI c.nO w W
 pc:c'.pc=c.pc
 all:∀k,c'.nO k->c.nO k∨w.heap.size<=k
def Tn.dF(h:Tn w W base l ps rest c P c' j)(K:dG W W'):Tn w W' base l ps rest c P c' j:=
 ⟨h.cq.dF K,h.kept.tz K λ_ e=>e.elim,h.pc,h.all⟩
theorem FH(N:Nat)(ps:List (Int×Int))(rest:List Nat)(j:Nat):bB (Wm.nE N ps (rest.take j))<=bB rest:=by grind[Wm.AE,List.length_take,Nat.min_le_right]
theorem IM(h:Wm.vU N p=ah q):(mD N p.1&&mD N p.2)=aK∧q=(p.1.toNat,p.2.toNat):=by grind[Wm.vU,mD]
theorem Tn.tell(h:Tn w W base l ps rest c P c' j)(i:rest[j]?=ah n)(hp:ps[n]?=ah p)(a:(mD (bB l) p.1&&mD (bB l) p.2)=aK)(r:(bB P+bB rest+1)*8<=140737488355328):
  aB prog 7 #[pz c.pc,iz p.1,iz p.2] W λe W'=>(∃x,e=aw (iz x))∧∃c2:Ks,Tn w W' base l ps rest c P c2 (j+1):=by
 have m:(ps[n]?).bind (Wm.vU (bB l))=ah (p.1.toNat,p.2.toNat):=by rw[hp];simp[Wm.vU,a]
 have hl:=FH (bB l) ps rest j;have M:=yL base h.cq p.1 p.2 cG;rw[h.pc] at M;refine M.mono ?_;rintro e W' ⟨rfl,c2,o,K,d,f⟩;refine⟨⟨_,rfl⟩,c2,?_,h.kept.tz K λk b=>h.all k b.all,d,λk b=>?_⟩
 .rw[dJ,i,fE,Xr m,<-fW];grind[qP]
 obtain e|e:=f k b
 .exact h.all k e
 exact .inr (bZ h.kept.size e)
theorem Tn.back(h:Tn w W base l ps rest c P c' j):
  aB prog 225 #[pz c.pc,iz (bB P)] W λe W'=>(∃x,e=aw (.bool x))∧∃c2:Ks,Cq W' base l c2 P∧bI c.nO w W'∧c2.pc=c.pc∧(∀k,c2.nO k->c.nO k∨w.heap.size<=k):=by
 have M:=TQ h.cq (bB P:Int);rw[h.pc] at M;refine M.mono ?_;rintro e W' ⟨rfl,c2,d,K,b,f⟩;refine⟨⟨_,rfl⟩,c2,?_,h.kept.tz K λk a=>h.all k a.all,b,λk a=>h.all k (f k a)⟩;have e:Hv (P++Wm.nE (bB l) ps (rest.take j)) (bB P:Int)=P:=by rw[Hv,cY (by simp[Bl];omega)];simp
 rw[e] at d;exact d
theorem XA(h:Cq w base l c P)(a:Option Addr)(cp:Nat)(g cap:Nat)(rest:List Nat)(hM:∀W,bI c.nO w W->Xn W a ps∧∀(j n:Nat),rest[j]?=ah n->cz W g j (iz n))(G:∀n,n∈rest->∃q,(ps[n]?).bind (Wm.vU (bB l))=ah q)(y:Int)(i:Nat)(hi:i<bB rest)(hy:tC l (P++Wm.nE (bB l) ps (rest.take (i+1))) x y=aK)(F:∀j,j<=i->tC l (P++Wm.nE (bB l) ps (rest.take j)) x y=aL)(hn:(bB P+bB rest+1)*8<=140737488355328):
  aB prog 180 #[pz c.pc,aj a (bB ps) cp,aj (ah (az g 0)) (bB rest) cap,iz x,iz y] w λe t=>e=aw (iz i)∧
   ∃c':Ks,Cq t base l c' P∧bI c.nO w t∧c'.pc=c.pc∧(∀k,c'.nO k->c.nO k∨w.heap.size<=k):=by
 have X:=Va h.cl;have T0:Tn w w base l ps rest c P c 0:=⟨by simpa[Wm.nE] using h,bW _ _,rfl,λk hk=>.inl hk⟩
 have z:=bL hM;have A:=bL F;have B:=bL G;have I:Hid ((bB P+bB rest+1)*8<=140737488355328):=hn;have U:Hid (tC l (P++Wm.nE (bB l) ps (rest.take (i+1))) x y=aK):=hy;go_enter func180,ntmps180
 go_wp2_with(go_at_call 224;refine X.mono ?_;rintro e w2 ⟨rfl,rfl⟩)
 go_loopw[12] (λd W=>∃(j:Nat)(c':Ks),j<=i+1∧d=iz ((j:Int)-1)∧Tn w W base l ps rest c P c' j) λd _=>(i-aG d).toNat
 case atStart=>grind
 case round=>
  obtain⟨j,c',hj,rfl,T⟩:=hrel;have r:aB prog 11 #[pz c.pc,iz x,iz y] wr λe t=>e=aw (.bool (tC l (P++Wm.nE (bB l) ps (rest.take j)) x y))∧dG wr t:=by rw[<-T.pc];exact AA T.cq.cl x y
  by_cases E:j<=i
  .rw[A.out j E] at r;have s:rest[j]?=ah rest[j]:=bP bO;have ac:j<bB rest:=bO
   generalize ag:rest[j]=n at s;let⟨q,hq⟩:=B.out n (cH s);let⟨p,hp,H⟩:=adl.1 hq;let⟨D,_⟩:=IM H;have ad:n<bB ps:=(bU.1 hp).1;have S:Hid (∀W,dG wr W->cz W g j (iz n)):=λW K=>(z.out W (T.dF K).kept).2 j n s;obtain⟨b,m,rfl,aa,_,_⟩:=(z.out wr T.kept).1 n p hp;have Y:Hid (∀W,dG wr W->aU W ⟨b,m+n*2,ai⟩=ah (iz p.1)∧aU W ⟨b,m+n*2+1,ai⟩=ah (iz p.2)):=λW K=>by
    let⟨b',J,he,_,L,M⟩:=(z.out W (T.dF K).kept).1 n p hp;cases he
    exact⟨L,M⟩
   have TM:Hid (∀W,dG wr W->aB prog 7 #[pz c.pc,iz p.1,iz p.2] W λe W'=>(∃x,e=aw (iz x))∧∃c2:Ks,Tn w W' base l ps rest c P c2 (j+1)):=λW K=>(T.dF K).tell s hp D I.out;have ab:bB rest<=17592186044416:=by have:=I.out;omega
   generalize p.1=pa at *;generalize p.2=pb at *
   go_wp2_with(first|(go_at_call 11;refine r.mono ?_;rintro e o ⟨rfl,f⟩;have cn:=S.out o f;let⟨L,M⟩:=Y.out o f;have C:=TM.out (bC o (aq #[iz pa,iz pb] 34)) (f.alloc _))|(go_at_call 7;refine C.mono ?_;rintro e w4 ⟨⟨x4,rfl⟩,c4,Z⟩));exact⟨⟨j+1,c4,by omega,by simp,Z⟩,by simp[aG];omega⟩
  obtain rfl:j=i+1:=bO
  rw[U.out] at r;have Q:Hid (∀W,dG wr W->aB prog 225 #[pz c.pc,iz (bB P)] W λe W'=>(∃x,e=aw (.bool x))∧∃c2:Ks,Cq W' base l c2 P∧bI c.nO w W'∧c2.pc=c.pc∧(∀k,c2.nO k->c.nO k∨hz w<=k)):=λW K=>(T.dF K).back;have e0:(((i+1:Nat):Int)-1)=(i:Int):=bO
  rw[e0]
  go_wp2_with(first|(go_at_call 11;refine r.mono ?_;rintro e o ⟨rfl,f⟩;have u:=Q.out o f)|(go_at_call 225;refine u.mono ?_;rintro e w4 ⟨⟨x4,rfl⟩,c4,R,V,p4,O⟩));go_ret;exact⟨rfl,c4,R,V,p4,O⟩
theorem uG{e:aE}{m:Nat}{d:List aA}(h:bD W base e 1 (aj (ah (az g 0)) m cap) m d){o:Nat}(v):bD (aW W (az g o) v) base e 1 (aj (ah (az g 0)) m cap) m (d.set o v):=by
 refine⟨by rw[gd];exact h.1,?_⟩;obtain⟨a,_⟩|⟨u,c,b,a,f,z,i,r,s,t⟩:=h.2
 .cases a
 simp only[fL,fw,oy,sk,mC] at a;obtain⟨rfl,rfl⟩:=a;refine .inr ⟨g,cap,b.setIfInBounds o v,rfl,f,?_,i,r,by simpa using s,?_⟩
 .grind[aW]
 rw[<-t,abV,List.take_set]
def tO(xs:List Nat)(i:Nat):List Nat:=(aO (bB xs)).map λk=>if k<i∨bB xs<=k+i then xs[bB xs-1-k]?.getD 0 else xs[k]?.getD 0
theorem Ei(a i):bB (tO a i)=bB a:=by simp[tO]
theorem vC(a i k)(b:k<bB a):(tO a i)[k]?=ah (if k<i∨bB a<=k+i then a[bB a-1-k]?.getD 0 else a[k]?.getD 0):=by simp[tO,b]
theorem LU(a):tO a 0=a:=by
 apply iv;intro k;by_cases b:k<bB a
 .rw[vC a 0 k b,cC bO,bP b];rfl
 grind[List.getElem?_eq_none,Ei]
theorem PE(a i)(h:bB a<=2*i+1):tO a i=a.reverse:=by
 apply iv;intro k;by_cases b:k<bB a
 .rw[vC a i k b,List.getElem?_reverse b];by_cases e:k<i∨bB a<=k+i
  .rw[cY e,bP bO];rfl
  rw[cC e,show bB a-1-k=k by omega,bP b];rfl
 grind[List.getElem?_eq_none,Ei,List.length_reverse]
theorem LV(a i)(h:2*i+1<bB a):tO a (i+1)=((tO a i).set i (a[bB a-1-i]?.getD 0)).set (bB a-1-i) (a[i]?.getD 0):=by apply iv;grind[tO]
theorem I7(a:List Nat)(i x:Nat):gq (a.set i x)=(gq a).set i (iz x):=by simp[gq,pW]
theorem LR(w base v a)(h:bD w base 3 1 v (bB a) (gq a))(Q:bB a<=17592186044416):
  aB prog 181 #[v] w λe u=>e=aw (.tuple #[])∧bD u base 3 1 v (bB a) (gq a.reverse)∧bI (λk=>aP v=ah k) w u:=by
 let⟨f,d,G⟩:=iQ h;subst G;have B:bD w base 3 1 (aj f (bB a) d) (bB a) (gq (tO a 0)):=by rw[LU];exact h
 go_enter func181,ntmps181
 go_wp2
 go_loopw[2,3] (λr H W=>∃i:Nat,2*i<=bB a+1∧r=iz i∧H=iz ((bB a:Int)-1-i)∧bD W base 3 1 (aj f (bB a) d) (bB a) (gq (tO a i))∧bI (λk=>aP (aT f (bB a) d)=ah k) w W) λr _ _=>bB a-(aG r).toNat
 case atStart=>grind[bI.refl]
 case round=>
  clear B;obtain⟨i,O,rfl,rfl,R,K⟩:=hrel;by_cases m:2*i+1<bB a
  .have s:aM ((i:Int)<bB a-1-i)=aK:=cZ bO;have C:∃g,f=ah (az g 0):=by
    obtain⟨_,J⟩|⟨g,c,A,I,_⟩:=R.2
    .omega
    grind
   obtain⟨g,rfl⟩:=C;obtain⟨j,o⟩:=bK (bB a-1-i);have t:((bB a:Int)-1-i)=(j:Int):=bO
   rw[t] at s⊢;have c1:aU wr (az g i)=ah (iz ((a[i]?.getD 0:Nat):Int)):=by have:=R.cellAt i bO;rw[sL,vC a i i bO,cC bO] at this;exact this
   have c2:aU wr (az g j)=ah (iz ((a[j]?.getD 0:Nat):Int)):=by have:=R.cellAt j bO;rw[sL,vC a i j bO,cC bO] at this;exact this
   have L:=R.frozenAt i;have M:=R.frozenAt j;have b:Hid (bD (aW (aW wr (az g i) (iz ((a[j]?.getD 0:Nat):Int))) (az g j) (iz ((a[i]?.getD 0:Nat):Int))) base 3 1 (aj (ah (az g 0)) (bB a) d) (bB a) (gq (tO a (i+1)))∧bI (λk=>aP (aT (ah (az g 0)) (bB a) d)=ah k) w (aW (aW wr (az g i) (iz ((a[j]?.getD 0:Nat):Int))) (az g j) (iz ((a[i]?.getD 0:Nat):Int)))):=by refine⟨?_,eY (p:=az g j) (eY (p:=az g i) K (by simp[aP]) _) (by simp[aP]) _⟩;rw[LV a i m,I7,I7,<-o];exact uG (uG R _) _
   have z:Hid (j=bB a-1-i):=o;have F:j<bB a:=bO
   have E:i<bB a:=bO
   have D:i<j:=bO
   clear R K o t;generalize a[i]?.getD 0=x1 at *;generalize a[j]?.getD 0=x2 at *
   go_wp2
   go_region
   all_goals
    go_wp2;refine⟨⟨i+1,by omega,by simp,?_,gh b.out.1 λ_ _=>rfl,b.out.2.drew⟩,by simp[aG];omega⟩;have:=z.out;congr 1;omega
  have s:aM ((i:Int)<bB a-1-i)=aL:=cP bO
  go_wp2
  go_end0
  have e:=PE a i bO;simp_all
def Tg:aA->Nat
 | aj _ n _=>n
 |_=>0
structure Yz(w W:ay)(l:List Tm)(c:Ks)(P:List (Nat×Nat))(needed rest:List Nat)(nv rv:aA):Prop where
 cq:Cq W w.heap.size l c P
 FU:bD W w.heap.size 3 1 nv (bB needed) (gq needed)
 Ac:bD W w.heap.size 3 1 rv (bB rest) (gq rest)
 VJ:∀j,aP nv=ah j->¬c.nO j
 VH:∀j,aP rv=ah j->¬c.nO j
 apart:∀j,aP nv=ah j->aP rv≠ah j
 kB:dG w W
theorem Yz.UF{d:List (Nat×Nat)}(h:Yz w W l c P needed rest nv rv)(K:bI c.nO W W')(m:Cq W' w.heap.size l c' d)(f:∀k,c'.nO k->c.nO k∨W.heap.size<=k):Yz w W' l c' d needed rest nv rv:=by
 refine⟨m,gh h.FU λj a=>K.block j (h.FU.lt j a).2 (h.VJ j a),gh h.Ac λj a=>K.block j (h.Ac.lt j a).2 (h.VH j a),λj a b=>?_,λj a b=>?_,h.apart,h.kB.tz K λi o=>.inr (h.cq.cl.wX o)⟩
 .obtain e|e:=f j b
  .exact h.VJ j a e
  have:=(h.FU.lt j a).2;omega
 obtain e|e:=f j b
 .exact h.VH j a e
 have:=(h.Ac.lt j a).2;omega
def Yz.dF(h:Yz w W l c P needed rest nv rv)(K:dG W W'):Yz w W' l c P needed rest nv rv:=
 h.UF (dW K λ_ _ e=>e.elim) (h.cq.dF K) λ_ a=>.inl a
theorem Yz.cut(h:Yz w W l c P needed rest nv (aj (ah (az g 0)) (bB rest) cap))(i)(a:i<=bB rest):Yz w W l c P needed (rest.take i) nv (aj (ah (az g 0)) i cap):=by
 have b:=pJ h.Ac rfl a;rw[iq] at b;have e:bB (rest.take i)=i:=aeF
 refine⟨h.cq,h.FU,?_,h.VJ,h.VH,h.apart,h.kB⟩;simp_all[gq]
theorem Yz.note(h:Yz w W l c P needed rest nv rv)(m:dG W wa)(f:bD w1 w.heap.size 3 1 v' (bB needed+1) (gq needed++[iz n]))(d:bH wa w1 (aP nv))(b:aP v'=aP nv∨∀k,aP v'=ah k->wa.heap.size<=k):Yz w w1 l c P (needed++[n]) rest v' rv:=by
 have o:bI (λj=>aP nv=ah j) W w1:=gA (dW m λ_ _ e=>e.elim) d λ_ e=>e;refine⟨⟨h.cq.cl.keep o λj a e=>h.VJ j e a,h.cq.IF⟩,?_,gh h.Ac λj a=>o.block j (h.Ac.lt j a).2 λe=>h.apart j e a,λj a s=>?_,h.VH,λj a r=>?_,h.kB.tz o λi A=>.inr (h.FU.lt i A).1⟩
 .rw[cR,<-xP];exact f
 .obtain e|e:=b
  .exact h.VJ j (e▸a) s
  have t:=e j a;have u:=h.cq.cl.pj s;have z:=m.size;omega
 obtain e|e:=b
 .exact h.apart j (e▸a) r
 have t:=e j a;have u:=(h.Ac.lt j r).2;have z:=m.size;omega
theorem Yz.tell(h:Yz w W l c (Wm.nE (bB l) ps needed) needed rest nv rv)(hp:ps[n]?=ah p)(a:(mD (bB l) p.1&&mD (bB l) p.2)=aK)(m:(bB needed+1)*8<=140737488355328):
  aB prog 7 #[pz c.pc,iz p.1,iz p.2] W λe W'=>(∃x,e=aw (iz x))∧∃c2:Ks,c2.pc=c.pc∧Yz w W' l c2 (Wm.nE (bB l) ps (needed++[n])) needed rest nv rv:=by
 have f:(ps[n]?).bind (Wm.vU (bB l))=ah (p.1.toNat,p.2.toNat):=by rw[hp];simp[Wm.vU,a]
 have hl:=Nk (bB l) ps needed;refine(yL (hz w) h.cq p.1 p.2 bO).mono ?_;rintro e W' ⟨rfl,c2,i,K,b,d⟩;refine⟨⟨_,rfl⟩,c2,b,h.UF (dW K λ_ _ e=>e.all) ?_ d⟩;rw[Xr f];grind[qP]
structure Fits(l:List Tm)(ps:List (Int×Int))(x y:Int)(ns:List Nat):Prop where
 up:ns.Pairwise (· < ·)
 lt:∀n,n∈ns->n<bB ps
 ok:∀n,n∈ns->∃q,(ps[n]?).bind (Wm.vU (bB l))=ah q
 fol:tC l (Wm.nE (bB l) ps ns) x y=aK
 less:∀m,m∈ns->∀xs:List Nat,(∀k,k∈xs->k∈ns∧k≠m)->tC l (Wm.nE (bB l) ps xs) x y=aL
theorem pD(a:mD (bB l) x=aK)(b:mD (bB l) y=aK)(ns):tC l (Wm.nE (bB l) ps ns) x y=aK↔Wm.Xo l ps x.toNat y.toNat ns:=by rw[xY];exact⟨λh=>h.2.2,λh=>⟨a,b,h⟩⟩
def MQ(h:tC l P x y=aK):mD (bB l) x=aK∧mD (bB l) y=aK:=⟨(xY.1 h).1,(xY.1 h).2.1⟩
theorem Fits.of(e:mD (bB l) x=aK)(f:mD (bB l) y=aK)(h:Wm.Wy (Wm.Xo l ps x.toNat y.toNat) needed rest)(b:∀n,n∈needed->∃q,(ps[n]?).bind (Wm.vU (bB l))=ah q)(r:tC l (Wm.nE (bB l) ps needed) x y=aK):Fits l ps x y needed.reverse:=by
 let⟨i,o,t⟩:=h.fin (Wm.xV l ps _ _) ((pD e f _).1 r);have a:∀n,n∈needed.reverse->∃q,(ps[n]?).bind (Wm.vU (bB l))=ah q:=λn d=>b n (Ar.1 d);refine⟨i,λn d=>?_,a,(pD e f _).2 o,λm u z s=>?_⟩
 .grind
 rw[Bool.eq_false_iff];grind[pD]
theorem CU(h:Wm.En l ps k ns)(f:k<=bB ps)(i:tC l (Wm.nE (bB l) ps ns) x y=aL->k=bB ps):tC l (Wm.nE (bB l) ps ns) x y=tC l (Wm.nE (bB l) ps (aO (bB ps))) x y:=by
 rw[Bool.eq_iff_iff];constructor
 .intro e;let⟨a,b⟩:=MQ e;rw[pD a b] at e⊢;exact h.some f e
 intro e;let⟨a,b⟩:=MQ e;cases d:tC l (Wm.nE (bB l) ps ns) x y
 .obtain rfl:=i d;rw[pD a b] at e;rw[<-d,pD a b];exact(h.fin _ _).2 e
 rfl
def acT(w:ay)(l:List Tm)(ps:List (Int×Int))(x y:Int)(e:Ending)(w':ay):Prop:=
 dG w w'∧((tC l (Wm.nE (bB l) ps (aO (bB ps))) x y=aL∧e=aw (.tuple #[aj ai 0 0,.bool aL]))∨
  (tC l (Wm.nE (bB l) ps (aO (bB ps))) x y=aK∧∃(ns:List Nat)(v:aA),e=aw (.tuple #[v,.bool aK])∧bD w' w.heap.size 3 1 v (bB ns) (gq ns)∧Fits l ps x y ns∧bB ns<=bB ps))
structure Yl(w W:ay)(l:List Tm)(ps:List (Int×Int))(x y:Int)(c:Ks)(needed rest:List Nat)(nv rv:aA):Prop where
 yz:Yz w W l c (Wm.nE (bB l) ps needed) needed rest nv rv
 wy:Wm.Wy (Wm.Xo l ps x.toNat y.toNat) needed rest
 ok:∀n,n∈needed++rest->∃q,(ps[n]?).bind (Wm.vU (bB l))=ah q
 sd:bB needed+bB rest<=bB ps
theorem Yl.next(h:Yl w W l ps x y c needed rest nv rv)(a:mD (bB l) x=aK)(b:mD (bB l) y=aK)(s:tC l (Wm.nE (bB l) ps needed) x y=aL):
  ∃i n,rest[i]?=ah n∧tC l (Wm.nE (bB l) ps needed++Wm.nE (bB l) ps (rest.take (i+1))) x y=aK∧(∀j,j<=i->tC l (Wm.nE (bB l) ps needed++Wm.nE (bB l) ps (rest.take j)) x y=aL)∧Wm.Wy (Wm.Xo l ps x.toNat y.toNat) (needed++[n]) (rest.take i)∧
   (∀k,k∈(needed++[n])++rest.take i->∃q,(ps[k]?).bind (Wm.vU (bB l))=ah q)∧bB (needed++[n])+bB (rest.take i)<=bB ps:=by
 have m:=Wm.xV l ps x.toNat y.toNat;let⟨i,r,d,f⟩:=h.wy.adr m (λe=>by rw[(pD a b _).2 e] at s;cases s);have o:=h.sd;refine⟨i,rest[i],bP r,?_,λj t=>?_,h.wy.step m r d (f i (bT _)),λk u=>h.ok k ?_,by simp;omega⟩
 .rw[<-Wm.NJ];exact(pD a b _).2 d
 .rw[<-Wm.NJ,Bool.eq_false_iff];exact λe=>f j t ((pD a b _).1 e)
 grind
theorem aat(w){base p}{ev}{nb fb}{l}(h:Bk w base p ev nb fb l)(hb:Cc.Bd l)(hl:bB l<=150){a}(H)(ps:List (Int×Int))(hP:Xn w a ps)(hr:bB ps*16<=140737488355328)(x y):
  aB prog 143 #[pz p,aj a (bB ps) H,iz x,iz y] w (acT w l ps x y):=by
 have EN:=QZ h hb hl H hP hr x y;have b6:bB ps<=8796093022208:=bO
 cases Q:tC l (Wm.nE (bB l) ps (aO (bB ps))) x y
 .have z:aB prog 179 #[pz p,aj a (bB ps) H,iz x,iz y] w λe d=>∃r n s,e=aw (.tuple #[aj r n s,.bool aL])∧dG w d:=by
   refine EN.mono ?_;rintro e d ⟨ns,v,k,rfl,R,E,hk,B,K,_⟩;obtain⟨r,s,rfl⟩:=iQ R;exact⟨r,_,s,by rw[CU E hk B,Q],K⟩
  have HB:=bL Q;go_enter func143,ntmps143
  go_wp2_with(go_at_call 179;refine z.mono ?_;rintro e w1 ⟨r,n,s,rfl,I⟩);go_ret2
  exact⟨I,.inl ⟨HB.out,rfl⟩⟩
 let⟨hx,hy⟩:=MQ Q;have z:aB prog 179 #[pz p,aj a (bB ps) H,iz x,iz y] w λe d=>∃(ns:List Nat)(r:Option Addr)(s:Nat),e=aw (.tuple #[aj r (bB ns) s,.bool aK])∧bD d w.heap.size 3 1 (aj r (bB ns) s) (bB ns) (gq ns)∧
   Wm.Wy (Wm.Xo l ps x.toNat y.toNat) [] ns∧(∀n,n∈ns->∃q,(ps[n]?).bind (Wm.vU (bB l))=ah q)∧dG w d∧bB ns<=bB ps:=by
  refine EN.mono ?_;rintro e d ⟨ns,v,k,rfl,R,E,hk,B,K,hf⟩;obtain⟨r,s,rfl⟩:=iQ R;have e1:=CU E hk B;rw[Q] at e1;exact⟨ns,r,s,by rw[e1],R,.start ((pD hx hy _).1 e1) E.up,E.ok,K,hf⟩
 have HB:=bL Q;have HX:=bL (b9 hx hy);have HP:Hid (Xn w a ps):=hP;have HR:Hid (bB ps*16<=140737488355328):=hr;have NC:∀W,dG w W->aB prog 5 #[pz p] W λe d=>∃c:Ks,e=aw (pz c.pc)∧Cl d W.heap.size l c []∧dG W d:=λW K=>AQ (h.dF K) hb hl;have HN:=bL NC;let⟨i0,a2,a7,a8,a9⟩:=eB sN;go_enter func143,ntmps143
 go_wp2_with(first|(go_at_call 179;refine z.mono ?_;rintro e w1 ⟨ns,r,s,rfl,R1,Y1,ba,I,O⟩;have ag:=HN.out w1 I)|(go_at_call 5;refine ag.mono ?_;rintro e w2 ⟨c,rfl,C2,K2⟩));have L0:Yl w w2 l ps x y c [] ns (aj ai 0 0) (aj r (bB ns) s):=by refine⟨⟨(C2.base I.size).fresh,eR _ _ _ _,gh R1 λj f=>K2.block j (R1.lt j f).2 λe=>e,λj f=>by simp[aP] at f,λj f hA=>?_,λj f=>by simp[aP] at f,I.trans K2⟩,Y1,λn B=>ba n B,by simpa using O⟩;have h1:=C2.wX hA;have h2:=(R1.lt j f).2;omega
 go_loopw[10,12] (λG bb W=>∃(c':Ks)(needed rest:List Nat),c'.pc=c.pc∧Yl w W l ps x y c' needed rest bb G) λG _ _=>Tg G
 case atStart=>grind
 case round=>
  obtain⟨c',needed,rest,Y,L⟩:=hrel;let⟨D,F,a4⟩:=iQ L.yz.FU;let⟨ra,t,a6⟩:=iQ L.yz.Ac;subst a4 a6;have bc:=L.sd;have SM:aB prog 11 #[pz c.pc,iz x,iz y] wr λe d=>e=aw (.bool (tC l (Wm.nE (bB l) ps needed) x y))∧dG wr d:=by rw[<-Y];exact AA L.yz.cq.cl x y
  cases hc:tC l (Wm.nE (bB l) ps needed) x y
  .let⟨i,n,V,ab,a3,ao,X,a1⟩:=L.next HX.out.1 HX.out.2 hc;rw[hc] at SM;have U:i<bB rest:=(bU.1 V).1;obtain⟨g,hg,b7⟩:∃g,ra=ah (az g 0)∧bB rest<=t:=by
    obtain⟨_,e2⟩|⟨g,c9,bj,e',_,_,h3,_⟩:=L.yz.Ac.2
    .omega
    simp only[fL] at e';exact⟨g,e'.1,by rw[e'.2.2];exact h3⟩
   subst hg;let⟨q,hq⟩:=X n bQ;let⟨pr,u,a5⟩:=adl.1 hq;let⟨aa,_⟩:=IM a5;have bx:n<bB ps:=(bU.1 u).1;have TN:Hid (∀W,dG wr W->aB prog 180 #[pz c.pc,aj a (bB ps) H,aj (ah (az g 0)) (bB rest) t,iz x,iz y] W λe d=>e=aw (iz i)∧∃c2:Ks,c2.pc=c.pc∧Yz w d l c2 (Wm.nE (bB l) ps needed) needed rest (aj D (bB needed) F) (aj (ah (az g 0)) (bB rest) t)):=λW K=>by
    have o:=L.yz.dF K;have b0:=Nk (bB l) ps needed;rw[<-Y];refine(XA o.cq a H g t rest (λW' K'=>⟨?_,λj m f=>?_⟩) (λm hm=>L.ok m (gm _ hm)) y i U ab a3 bO).mono ?_
    .exact HP.out.dF (o.kB.tz K' λi hi=>.inr (o.cq.cl.wX hi))
    .have R':=gh o.Ac λj f=>K'.block j (o.Ac.lt j f).2 (o.VH j f);have fS:=R'.cellAt j (by rw[iq];exact(bU.1 f).1);rw[sL,f] at fS;exact fS
    rintro e d ⟨S,c2,C2,K2,p2,A2⟩;exact⟨S,c2,p2,o.UF K2 C2 A2⟩
   have CN:Hid (∀W c2,Yz w W l c2 (Wm.nE (bB l) ps needed) needed rest (aj D (bB needed) F) (aj (ah (az g 0)) (bB rest) t)->cz W g i (iz n)):=λW c2 Z=>by have fS:=Z.Ac.cellAt i (by rw[iq];exact U);rw[sL,V] at fS;exact fS
   obtain⟨b,ac,rfl,bo,_,_⟩:=HP.out n pr u;have PC:Hid (∀W,dG w W->aU W ⟨b,ac+n*2,ai⟩=ah (iz pr.1)∧aU W ⟨b,ac+n*2+1,ai⟩=ah (iz pr.2)):=λW K=>by
    let⟨b',bi,S,_,y1,y2⟩:=HP.out.dF K n pr u;cases S
    exact⟨y1,y2⟩
   have ad:Hid (∀W c2 m,c2.pc=c.pc->Yz w W l c2 (Wm.nE (bB l) ps needed) needed rest (aj D (bB needed) F) (aj (ah (az g 0)) (bB rest) t)->aB prog 7 #[pz c.pc,iz pr.1,iz pr.2] (bF W m) λe W'=>(∃x,e=aw (iz x))∧∃c3:Ks,c3.pc=c.pc∧Yz w W' l c3 (Wm.nE (bB l) ps (needed++[n])) needed rest (aj D (bB needed) F) (aj (ah (az g 0)) (bB rest) t)):=λW c2 m h2 Z=>by rw[<-h2];exact(Z.dF ((bW _ W).drewN m)).tell u aa bO
   have LN:Hid (∀W c3 v',Yz w W l c3 (Wm.nE (bB l) ps (needed++[n])) (needed++[n]) rest v' (aj (ah (az g 0)) (bB rest) t)->Yl w W l ps x y c3 (needed++[n]) (rest.take i) v' (aj (ah (az g 0)) i t)):=λW c3 v' Z=>⟨Z.cut i bO,ao,X,a1⟩;have be:i<=t:=bO
   generalize pr.1=pa at *;generalize pr.2=pb at *
   go_wp2_with(first|(go_at_call 11;refine SM.mono ?_;rintro e w3 ⟨rfl,K3⟩;have an:=TN.out w3 K3)|(go_at_call 180;refine an.mono ?_;rintro e w4 ⟨rfl,c4,ap,J⟩;have cn:=CN.out w4 c4 J;let⟨y1,y2⟩:=PC.out w4 J.kB;have MG:=λm=>ad.out w4 c4 m ap J;replace J:Hid _:=J))
   go_region_with(go_at_call 7;refine(MG 1).mono ?_;rintro e w5 ⟨⟨x5,rfl⟩,c5,a0,M⟩)
   all_goals
    have R5:=M.FU;have K5:=M.kB;replace M:=bL M
    go_wp2_with(at_builtin;go_loud (refine gK rfl _ _ 39 rfl w.heap.size 3 i0 _ 1 8 underlying39 a2 a7 a8 a9 rfl bS _ _ (gq needed) rfl (R5.alloc _) (az w5.heap.size 0) 1 1 [iz n] rfl rfl (by exact uH w5 0 _ _) cM cJ bO (by have:=K5.size;simp;omega) ?_;intro v6 w6 C T A));exact⟨⟨c5,needed++[n],rest.take i,a0,LN.out w6 c5 v6 (M.out.note ((bW _ w5).alloc _) C T A)⟩,by simp[Tg];omega⟩
  rw[hc] at SM;have RV:Hid (∀W,dG wr W->aB prog 181 #[aj D (bB needed) F] W λe d=>e=aw (.tuple #[])∧bD d w.heap.size 3 1 (aj D (bB needed) F) (bB needed) (gq needed.reverse)∧dG w d):=λW K=>by
   have o:=L.yz.dF K;refine(LR W w.heap.size _ needed o.FU bO).mono ?_;rintro e d ⟨S,R,KR⟩;exact⟨S,R,o.kB.tz KR λj f=>.inr (o.FU.lt j f).1⟩
  have FT:Hid (Fits l ps x y needed.reverse):=Fits.of HX.out.1 HX.out.2 L.wy (λn B=>L.ok n (dh _ B)) hc
  go_wp2_with(first|(go_at_call 11;refine SM.mono ?_;rintro e w3 ⟨rfl,K3⟩;have al:=RV.out w3 K3)|(go_at_call 181;refine al.mono ?_;rintro e w4 ⟨rfl,R4,K4⟩));go_ret2
  exact⟨K4,.inr ⟨HB.out,needed.reverse,aj D (bB needed) F,rfl,by rw[KL];exact R4,FT.out,by rw[KL];omega⟩⟩
