import Derived.Test.YtlehlgipbhfioaaGreatBw
import Derived.Test.YtlehlgipbhfioaaGreatBy
namespace Go.Proofs.YtlehlgipbhfioaaGreat
set_option maxHeartbeats 12000000
set_option maxRecDepth 100000
set_option linter.all false
open Go.RowKit Go.Maps Go.Proofs.Tryz
open Go.Value renaming int->ae,slice->aj,slice->aT,ownBlock->aP
open Go.IntKind renaming i64->af
open Go.Obj renaming cells->aq
open Go.Ending renaming returned->aw
open Option renaming some->ah,none->ai
open List renaming range->aO,length->bB
open Bool renaming true->aK,false->aL
open Go.RowKit renaming Below->aC,intOf->aG
open Go.World renaming alloc->bC,setCell->aW,ownsRow->bD,cell?->aU
open Decidable renaming decide->aM
open Go renaming Calls->aB,World->ay,Aside->aH,Value->aA,Addr->aD
section
structure sC(Φ:ay->Prop)(B:Nat)(w:ay)(lv0:aA)(S:Nat->Prop)(W:ay)(pb vb kb:Nat)(bk tv fv lv:aA)(P:Pb)(N:Nat)(fs:List Fm)(gs:List Sx)(v:aA)(ns:List Nat):Prop where
 np:Np Φ B S W pb vb kb bk tv fv lv P N fs gs
 kept:bI (Dq pb vb kb lv0 fv) w W
 dq:∀k,Dq pb vb kb lv fv k->Dq pb vb kb lv0 fv k∨w.heap.size<=k
 row:bD W w.heap.size 3 1 v (bB ns) (gq ns)
 sep:∀k,aP v=ah k->¬S k
variable{Φ:ay->Prop}{B pb vb kb N n pc b kn kc:Nat}{S S':Nat->Prop}{W w W':ay}{bk tv fv lv lv0 v lv':aA}{P Q:Pb}{fs:List Fm}{gs:List Sx}
theorem sC.start(h:Np Φ B S W pb vb kb bk tv fv lv P N fs gs):sC Φ B W lv S W pb vb kb bk tv fv lv P N fs gs (aj ai 0 0) []:=
 ⟨h,bW _ _,λ_ e=>cB e,⟨rfl,cB ⟨rfl,rfl⟩⟩,λk e=>by cases e⟩
variable{ns:List Nat}
def sC.below(h:sC Φ B w lv0 S W pb vb kb bk tv fv lv P N fs gs v ns)(a:aC W.heap.size W W'):sC Φ B w lv0 S W' pb vb kb bk tv fv lv P N fs gs v ns:=
 ⟨h.np.below a,h.kept.under a,h.dq,ew h.row a,h.sep⟩
theorem sC.step(h:sC Φ B w lv0 S W pb vb kb bk tv fv lv P N fs gs v ns)(i:B<=W.heap.size)(x:pY S W S' W' pb vb kb bk tv fv lv lv' Q):sC Φ B w lv0 S' W' pb vb kb bk tv fv lv' Q N fs gs v ns:=by
 refine⟨h.np.step i x,h.kept.ot x.kept λk c=>h.dq k (cB c),?_,eP h.row λb g=>x.kept.block b (dI h.row g).2 (h.np.pm.uF h.row bS bS g),λk c e=>?_⟩
 .rintro k ((e|e|e|e)|e)
  .exact h.dq k (cB (cB e))
  .exact h.dq k (cB (cI (cB e)))
  .exact h.dq k (cB (cI (cI (cB e))))
  .obtain a|a:=x.at_
   .exact h.dq k (cB (cI (cI (cI (a▸e)))))
   exact cI (bZ h.kept.size (a k e))
  exact h.dq k (cI e)
 obtain d|d:=x.new k e
 .exact h.sep k c d
 have:=(dI h.row c).2;omega
theorem sC.push{A:Nat->Prop}{W1 w8:ay}{z:Pb}{v8:aA}{o:List Nat}(C:Np Φ B A w pb vb kb bk tv fv lv0 z N fs gs)(h:sC Φ B w lv0 S W pb vb kb bk tv fv lv P N fs gs v ns)(s:aC W.heap.size W W1)(p:bD w8 w.heap.size 3 1 v8 (bB o) (gq o))(j:W1.grownBy w8 (aP v))(t:aP v8=aP v∨∀k,aP v8=ah k->W1.heap.size<=k):sC Φ B w lv0 S w8 pb vb kb bk tv fv lv P N fs gs v8 o:=by
 have d:=h.below s;have K:bI (λk=>aP v=ah k) W1 w8:=gA (bW _ W1) j λk e=>e;have i:∀k,PD pb vb kb lv k->w8.heap[k]?=W1.heap[k]?:=λk m=>K.block k (d.np.pm.L8 m) λe=>d.np.pm.uF d.row bS bS e m;have u:bI (Dq pb vb kb lv0 fv) w w8:=d.kept.ot K λk m=>cI (dI d.row m).1;refine⟨⟨d.np.pm.keep K.size (i _ (cB rfl)) (i _ (cI (cB rfl))) (i _ (cI (cI (cB rfl)))) (λb r=>i b (cI (cI (cI r)))) λg c E D=>K.block g D.lt λe=>d.sep g e E,d.np.low,eP d.np.row λb r=>K.block b (dI d.np.row r).2 λe=>mJ d.np.row d.row bS r e,d.np.len,C.parts.step u d.dq⟩,u,d.dq,p,λk m e=>?_⟩;obtain a|a:=t
 .exact d.sep k (a▸m) e
 have:=a k m;have:=d.np.pm.lt k e;omega
def okB(P:Pb)(fs:List Fm)(ns:List Nat):Bool:=aM (bB P.lemmas<=100000)&&(aM (bB P.vars<=2000)&&(aM (bB P.known<=100000)&&(aM (bB ns<=100)&&ns.all λn=>decide (n<bB fs))))
theorem Ut(h:okB P fs ns=aK):(bB P.lemmas<=100000∧bB P.vars<=2000∧bB P.known<=100000)∧bB ns<=100∧∀n∈ns,n<bB fs:=by grind[okB]
def KF(N:Nat)(fs:List Fm):Prop:=∀n,n<bB fs->(Fm.get fs n).am.length<=5∧∀a∈(Fm.get fs n).am,a.1<=a.2∧a.2<N
theorem KF.abf(h:KF N fs)(hl:bB ns<=100)(c:∀n∈ns,n<bB fs):RQ N fs ns:=by
 refine⟨c,by omega,λn c=>⟨by have:=(h n c).1;omega,(h n c).2⟩,?_⟩;have d:∀ns:List Nat,(∀n∈ns,n<bB fs)->bB (ns.flatMap λn=>(Fm.get fs n).am)<=bB ns*5:=by
  intro ns
  induction ns with
  |nil=>intro _;simp
  |cons a r g=>intro e;have i:=g (λn c=>e n (by simp[c]));have j:=(h a (e a bQ)).1;grind
 have:=d ns c;omega
def DI(l:List Tm)(fs:List Fm):Nat->Pb->List Nat->Option (List Nat×Pb)
 |0,_,_=>ai
 |f+1,P,ns=>if okB P fs ns then(match yS l fs ns 2 P with
  |none=>ai
  |some (ai,Q)=>ah (ns,Q)
  |some (ah told,Q)=>if Vy l told fs<bB fs then DI l fs f Q (ns++[Vy l told fs]) else ai) else ai
def Gu(l:List Tm)(fs:List Fm):List Nat->Pb->List Nat->Option (List Nat×Pb)
 | [],P,ns=>ah (ns,P)
 |x::xs,P,ns=>if okB P fs (rH x ns)&&aM (x∈ns) then(match yS l fs (rH x ns) 2 P with
  |none=>ai
  |some (ai,Q)=>Gu l fs xs Q (rH x ns)
  |some (ah _,Q)=>Gu l fs xs Q ns) else ai
abbrev yh(w0:ay)(l:List Tm)(ta:Option aD)(tc:Nat):ay->Prop:=λW=>aC w0.heap.size w0 W∧sR W (aj ta (bB l) tc) l
variable{l:List Tm}
def Np.kB{a:ay}{c:Option aD}{d:Nat}(h:Np (yh a l c d) B S W pb vb kb bk tv fv lv P N fs gs):aC a.heap.size a W:=(h.parts W (bW _ _)).2.1
theorem Cj{j}{base p}{ev}{nb s}{l}(u:Bk j base p ev nb s l)(A:Cc.Bd l)(hl:bB l<=150){g}(a){fs}{gs}(c:KF (bB l) fs){S}{W}{pb vb kb}{fv lv}{P}(h:Np (yh j l g a) j.heap.size S W pb vb kb (pz p) (aj g (bB l) a) fv lv P (bB l) fs gs)(D:nN P)(E:nr fs P)(t k m ns)(F:bD W t 3 1 (aj k (bB ns) m) (bB ns) (gq ns))(d:okB P fs ns=aK)(o:Option (List Pr))(Q)(z:yS l fs ns 2 P=ah (o,Q)):
  aB prog 22 #[pz pb,aj k (bB ns) m] W λe i=>∃S' lv',pY S W S' i pb vb kb (pz p) (aj g (bB l) a) fv lv lv' Q∧nN Q∧nr fs Q∧WT W l o e i:=by
 let⟨k1,k2,k3⟩:=Ut d;refine(Ci Fq base p ev nb s l a h.pm A hl k m ns (h.env u F) (c.abf k2 k3) E D k1 _ 2 (bT _) (FZ 2 P _ z)).mono ?_;rintro e i ⟨r,G,S',lv',C,X,H,I,J⟩;cases C
 grind
theorem ML{d}{base p}{ev}{nb fb}{l}(hB:Bk d base p ev nb fb l)(hb:Cc.Bd l)(hl:bB l<=150){h}(c){fs}{gs}(ap:KF (bB l) fs)(ba:bB fs<=1000){w}{S}{pb vb kb}{fv lv}{P}(h0:Np (yh d l h c) d.heap.size S w pb vb kb (pz p) (aj h (bB l) c) fv lv P (bB l) fs gs)(hr:nN P)(hv:nr fs P){f}(r Q)(hE:DI l fs f P []=ah (r,Q))(T)(hT:T.Perm r∧T.Pairwise (· < ·))(a3:0<bB r):
  aB prog 50 #[pz pb] w λe s=>∃v S' lv',e=aw v∧sC (yh d l h c) d.heap.size w lv S' s pb vb kb (pz p) (aj h (bB l) c) fv lv' Q (bB l) fs gs v T∧nN Q∧nr fs Q:=by
 have D:=bL (b9 hB (b9 ap (b9 h0 (b9 hT (b9 a3 (b9 hb hl))))));have H0:Hid (DI l fs f P []=ah (r,Q)∧sC (yh d l h c) (hz d) w lv S w pb vb kb (pz p) (aj h (bB l) c) fv lv P (bB l) fs gs (aj ai 0 0) []∧nN P∧nr fs P):=⟨hE,sC.start h0,hr,hv⟩
 let⟨i0,a1,a5,a6,a7⟩:=eB qQ;go_enter func50,ntmps50
 go_wp2
 go_loopg[3] f λk t3 W=>∃ns O S' lv',Hid (DI l fs k O ns=ah (r,Q)∧sC (yh d l h c) (hz d) w lv S' W pb vb kb (pz p) (aj h (bB l) c) fv lv' O (bB l) fs gs t3 ns∧nN O∧nr fs O)
 case atStart=>exact⟨[],P,S,lv,H0⟩
 case round=>
  obtain⟨ns,O,S',lv',t⟩:=hrel;cases gk with
  |zero=>exact absurd t.out.1 (by simp[DI])
  |succ k=>
  have a:=t.out.1;rw[DI] at a;by_cases U:okB O fs ns=aK
  .rw[cY U] at a;let⟨z,A,a4⟩:=dZ t.out.2.1.row;subst a4;cases hm:yS l fs ns 2 O with
   |none=>rw[hm] at a;cases a
   |some res=>
    obtain⟨o,m⟩:=res;rw[hm] at a;have MD:=Cj D.out.1 D.out.2.2.2.2.2.1 D.out.2.2.2.2.2.2 c D.out.2.1 t.out.2.1.np t.out.2.2.1 t.out.2.2.2 _ z A ns t.out.2.1.row U o m hm;have a2:=(Ut U).2.1;have L:=bL MD;have ab:=bL a;obtain⟨nn,R⟩:=bJ (bB ns);have u:=bL R;rw[R] at a2 L;simp only[R];cases o with
    |none=>
     have a:=ab.out;simp only at a;cases a
     have M:aB prog 22 #[pz pb,aj z nn A] wr λe s=>e=aw (.tuple #[aj ai 0 0,.bool aL])∧Hid (∃S' lv',sC (yh d l h c) (hz d) w lv S' s pb vb kb (pz p) (aj h (bB l) c) fv lv' Q (bB l) fs gs (aj z nn A) r∧nN Q∧nr fs Q):=by refine jD L.out ?_;rintro e s ⟨S2,j,X,F,G,h3⟩;refine⟨h3.1 rfl,S2,j,?_,F,G⟩;rw[<-u.out];exact t.out.2.1.step t.out.2.1.np.kB.size X
     have ao:Hid (∀W,(∃S' lv',sC (yh d l h c) (hz d) w lv S' W pb vb kb (pz p) (aj h (bB l) c) fv lv' Q (bB l) fs gs (aj z nn A) r∧nN Q∧nr fs Q)->aB prog 97 #[aj z nn A] W λe s=>e=aw (.tuple #[])∧Hid (∃v S' lv',v=aj z nn A∧sC (yh d l h c) (hz d) w lv S' s pb vb kb (pz p) (aj h (bB l) c) fv lv' Q (bB l) fs gs v T∧nN Q∧nr fs Q)):=by rintro W ⟨S2,j,I,F,G⟩;refine(WL W (hz w) (aj z nn A) r T (bB r-1) (by have:=D.out.2.2.2.2.1;omega) (by rw[u.out];omega) I.row D.out.2.2.2.1.1 D.out.2.2.2.1.2).mono ?_;rintro e s ⟨rfl,o9,g9⟩;exact⟨rfl,_,S2,j,rfl,sC.push D.out.2.2.1 I (cW _ _) o9 g9 (cB rfl),F,G⟩
     go_wp2_with(first|(go_at_call 22;refine M.mono ?_;rintro e w5 ⟨rfl,H5⟩)|(go_at_call 97;refine(ao.out _ H5.out).mono ?_;rintro e w6 ⟨rfl,H6⟩));obtain⟨v6,S6,Y,rfl,Z⟩:=H6.out;go_ret;exact⟨_,S6,Y,rfl,Z⟩
    |some told=>
     have a:=ab.out;simp only at a;by_cases hx:Vy l told fs<bB fs
     .rw[cY hx] at a;have M:aB prog 22 #[pz pb,aj z nn A] wr λe s=>∃E,e=aw (.tuple #[aj (ah (az E 0)) (bB l) (bB l),.bool aK])∧Hid (Xp s E (bB l) (zR l told)∧∃S' lv',sC (yh d l h c) (hz d) w lv S' s pb vb kb (pz p) (aj h (bB l) c) fv lv' m (bB l) fs gs (aj z nn A) ns∧nN m∧nr fs m):=by
       refine jD L.out ?_;rintro e s ⟨S2,j,X,F,G,h3⟩;obtain⟨E,g,rfl,_,al,hg⟩:=h3.2 told rfl;refine⟨E,rfl,⟨g,al,hg⟩,S2,j,?_,F,G⟩;rw[<-u.out];exact t.out.2.1.step t.out.2.1.np.kB.size X
      have an:Hid (∀W E,(Xp W E (bB l) (zR l told)∧∃S' lv',sC (yh d l h c) (hz d) w lv S' W pb vb kb (pz p) (aj h (bB l) c) fv lv' m (bB l) fs gs (aj z nn A) ns∧nN m∧nr fs m)->aB prog 98 #[pz pb,aj (ah (az E 0)) (bB l) (bB l)] W λe s=>e=aw (iz ((Vy l told fs:Nat):Int))∧Hid (∃S' lv',sC (yh d l h c) (hz d) w lv S' s pb vb kb (pz p) (aj h (bB l) c) fv lv' m (bB l) fs gs (aj z nn A) ns∧nN m∧nr fs m)):=by rintro W E ⟨C,S2,j,I,F,G⟩;let⟨fa,fc,a0⟩:=dZ I.np.row;have c2:cz W pb 2 fv:=I.np.pm.cells.cell (i:=2) bO;have ag:=I.np.fms W (bW _ _);rw[a0,I.np.len] at c2 ag;refine(DH pb (zR l told) C (by have:=D.out.2.2.2.2.2.2;omega) fc c2 ag bO hx).mono ?_;rintro e s ⟨rfl,B9⟩;exact⟨rfl,S2,j,I.below B9,F,G⟩
      have ac:=bL a;generalize Vy l told fs=q at *
      go_wp2_with(first|(go_at_call 22;refine M.mono ?_;rintro e w5 ⟨E,rfl,H5⟩)|(go_at_call 98;refine(an.out _ _ H5.out).mono ?_;rintro e w6 ⟨rfl,H6⟩;refine dM ?_));delta aH;let⟨S6,Y,Z,F,G⟩:=H6.out;have J:=Z.row;rw[u.out] at J;have a8:=Z.kept.size;have aa:=bL (b9 Z (b9 F G));apply_assumption
      go_wp2_with(first|(at_builtin;refine dM ?_));delta aH;refine fX _ rfl _ _ 39 rfl (hz w) 3 i0 _ 1 8 underlying39 a1 a5 a6 a7 rfl bS _ _ _ rfl (J.alloc _) (az _ 0) 1 1 [iz q] rfl rfl (ph w6 _ _) cM cJ bO (bZ a8 bQ) ?_;intro v8 w8 V H _ ad;have HF:Hid (∃S' lv',DI l fs k m (ns++[q])=ah (r,Q)∧sC (yh d l h c) (hz d) w lv S' w8 pb vb kb (pz p) (aj h (bB l) c) fv lv' m (bB l) fs gs v8 (ns++[q])∧nN m∧nr fs m):=by
       have e1:gq (ns++[q])=gq ns++[iz q]:=by simp[gq]
       refine⟨S6,Y,ac.out,sC.push D.out.2.2.1 aa.out.1 ((cW _ _).alloc (bT _) _) ?_ H (ad.imp id λe k hk=>by rw[e] at hk;cases hk;exact bT _),aa.out.2⟩;rw[e1,cR,u.out];exact V
      go_wp2
      go_roundg k
      let⟨S8,a9,F8⟩:=HF.out;exact⟨_,_,S8,a9,F8⟩;exact jG k
     rw[cC hx] at a;cases a
  grind
theorem sC.swap{g:aA}{a:List Nat}(h:sC Φ B w lv0 S W pb vb kb bk tv fv lv P N fs gs v ns)(c:aC W.heap.size W W')(d:bD W' W.heap.size 3 1 g (bB a) (gq a)):sC Φ B w lv0 S W' pb vb kb bk tv fv lv P N fs gs g a:=
 ⟨h.np.below c,h.kept.under c,h.dq,pB d h.kept.size,λk i e=>by have j:=(dI d i).1;have m:=h.np.pm.lt k e;omega⟩
def sC.other(h:sC Φ B w lv0 S W pb vb kb bk tv fv lv P N fs gs v ns)(x:pY S W S' W' pb vb kb bk tv fv lv lv' Q){c:Nat}{u:aA}{e:List aA}(a:bD W c 3 1 u n e):bD W' c 3 1 u n e:=eP a λb d=>x.kept.block b (dI a d).2 (h.np.pm.uF a bS bS d)
theorem Zr{d}{base p}{ev}{nb fb}{l}(hB:Bk d base p ev nb fb l)(hb:Cc.Bd l)(hl:bB l<=150){j}(h){fs}{gs}(ag:KF (bB l) fs)(a0:bB fs<=1000){w}{S}{pb vb kb}{fv lv}{P}(h0:Np (yh d l j h) d.heap.size S w pb vb kb (pz p) (aj j (bB l) h) fv lv P (bB l) fs gs)(hr:nN P)(hv:nr fs P){f}(r){Q}(hE:DI l fs f P []=ah (r,Q)){T}(hT:T.Perm r∧T.Pairwise (· < ·))(ao:0<bB r)(ad:bB T<=100)(R Q2)(hC:Gu l fs T Q T=ah (R,Q2)):
  aB prog 24 #[pz pb] w λe m=>∃I u,e=aw (aj I (bB R) u)∧aC d.heap.size d m:=by
 have EN:=ML hB hb hl h ag a0 h0 hr hv r Q hE T hT ao;have ac:0<bB T:=by rw[hT.1.length_eq];exact ao
 have HH:=bL (b9 hB (b9 ag (b9 hC (b9 hb hl))));have Y:aB prog 50 #[pz pb] w λe m=>∃G H,e=aw (aj G (bB T) H)∧Hid (∃S' lv',sC (yh d l j h) d.heap.size w lv S' m pb vb kb (pz p) (aj j (bB l) h) fv lv' Q (bB l) fs gs (aj G (bB T) H) T∧nN Q∧nr fs Q):=by refine EN.mono ?_;rintro e m ⟨v,S',lv',rfl,C,h1,h2⟩;obtain⟨G,H,rfl⟩:=dZ C.row;exact⟨G,H,rfl,S',lv',C,h1,h2⟩
 have Z:Hid (∀(W:ay)(G:Option aD)(H:Nat),(∃S' lv',sC (yh d l j h) d.heap.size w lv S' W pb vb kb (pz p) (aj j (bB l) h) fv lv' Q (bB l) fs gs (aj G (bB T) H) T∧nN Q∧nr fs Q)->aB prog 51 #[aj G (bB T) H] W λe m=>∃I u,e=aw (aj I (bB T) u)∧Hid (bD m 0 3 1 (aj I (bB T) u) (bB T) (gq T)∧∃S' lv',sC (yh d l j h) d.heap.size w lv S' m pb vb kb (pz p) (aj j (bB l) h) fv lv' Q (bB l) fs gs (aj G (bB T) H) T∧nN Q∧nr fs Q)):=by rintro W G H ⟨S',lv',C,h1,h2⟩;refine(J0 W _ _ T C.row ac bO).mono ?_;rintro e m ⟨v',rfl,R1,V⟩;obtain⟨I,u,rfl⟩:=dZ R1;exact⟨I,u,rfl,pB R1 (dt _),S',lv',C.below V,h1,h2⟩
 obtain⟨s,ap⟩:=bJ (bB T);have L:=bL ap;rw[ap] at Y Z ad ac;go_enter func24,ntmps24
 go_wp2_with(first|(go_at_call 50;refine Y.mono ?_;rintro e w1 ⟨G,H,rfl,H1⟩)|(go_at_call 51;refine(Z.out _ _ _ H1.out).mono ?_;rintro e w2 ⟨I,u,rfl,H2⟩;refine dM ?_));delta aH;have a6:Hid (∃ns t S' lv',(Gu l fs (T.drop 0) t ns=ah (R,Q2)∧bB ns<=100)∧bD w2 0 3 1 (aj I s u) s (gq T)∧sC (yh d l j h) d.heap.size w lv S' w2 pb vb kb (pz p) (aj j (bB l) h) fv lv' t (bB l) fs gs (aj G s H) ns∧nN t∧nr fs t):=by let⟨q1,S',lv',q2⟩:=H2.out;exact⟨T,Q,S',lv',⟨HH.out.2.2.1,by rw[L.out];exact ad⟩,q1,q2⟩
 apply_assumption
 go_wp2
 go_loopw[3,14] (λt3 U W=>∃i:Nat,i<=s∧U=iz i∧Hid (∃ns t S' lv',(Gu l fs (T.drop i) t ns=ah (R,Q2)∧bB ns<=100)∧bD W 0 3 1 (aj I s u) s (gq T)∧sC (yh d l j h) d.heap.size w lv S' W pb vb kb (pz p) (aj j (bB l) h) fv lv' t (bB l) fs gs t3 ns∧nN t∧nr fs t)) λ_ U _=>s-(aG U).toNat
 case atStart=>grind
 case round=>
  obtain⟨i,hi,rfl,HI⟩:=hrel;let⟨ns,t,S',lv',⟨c,a2⟩,J,C,a3,a5⟩:=HI.out;let⟨sa,sc,a4⟩:=dZ C.row;subst a4;by_cases O:i<s
  .have di:=bM i s;have a8:=fq (a:=i) bO;have al:i<bB T:=by rw[L.out];exact O
   rw[dP al,Gu] at c;let⟨g,c2,eg,q1⟩:=AG J (AI (bP al));cases eg
   generalize T[i]=x at *;by_cases F:(okB t fs (rH x ns)&&aM (x∈ns))=aK
   .rw[cY F] at c;rw[nA,jl] at F;have WO:=Ll wr _ _ ns C.row bO x F.2;cases hm:yS l fs (rH x ns) 2 t with
    |none=>rw[hm] at c;cases c
    |some res=>
     obtain⟨o,E⟩:=res;rw[hm] at c;have a7:bB (rH x ns)<=bB ns:=List.length_filter_le _ _;have M:aB prog 52 #[aj sa (bB ns) sc,iz x] wr λe m=>∃z A,e=aw (.slice z (bB (rH x ns)) A)∧Hid (bD m 0 3 1 (aj (ah (az g 0)) s u) s (gq T)∧sC (yh d l j h) d.heap.size w lv S' m pb vb kb (pz p) (aj j (bB l) h) fv lv' t (bB l) fs gs (aj sa (bB ns) sc) ns∧sC (yh d l j h) d.heap.size w lv S' m pb vb kb (pz p) (aj j (bB l) h) fv lv' t (bB l) fs gs (.slice z (bB (rH x ns)) A) (rH x ns)):=by refine WO.mono ?_;rintro e m ⟨v1,rfl,R1,V⟩;obtain⟨z,A,rfl⟩:=dZ R1;exact⟨z,A,rfl,ew J V,C.below V,C.swap V R1⟩
     have D:Hid (∀(W:ay)(z:Option aD)(A:Nat),(bD W 0 3 1 (aj (ah (az g 0)) s u) s (gq T)∧sC (yh d l j h) d.heap.size w lv S' W pb vb kb (pz p) (aj j (bB l) h) fv lv' t (bB l) fs gs (aj sa (bB ns) sc) ns∧sC (yh d l j h) d.heap.size w lv S' W pb vb kb (pz p) (aj j (bB l) h) fv lv' t (bB l) fs gs (.slice z (bB (rH x ns)) A) (rH x ns))->
       aB prog 22 #[pz pb,.slice z (bB (rH x ns)) A] W λe m=>∃cv,e=aw (.tuple #[cv,.bool o.isSome])∧Hid (bD m 0 3 1 (aj (ah (az g 0)) s u) s (gq T)∧∃S2 k,sC (yh d l j h) d.heap.size w lv S2 m pb vb kb (pz p) (aj j (bB l) h) fv k E (bB l) fs gs (aj sa (bB ns) sc) ns∧sC (yh d l j h) d.heap.size w lv S2 m pb vb kb (pz p) (aj j (bB l) h) fv k E (bB l) fs gs (.slice z (bB (rH x ns)) A) (rH x ns)∧nN E∧nr fs E)):=by
      rintro W z A ⟨g1,g2,g3⟩;refine(Cj HH.out.1 HH.out.2.2.2.1 HH.out.2.2.2.2 h HH.out.2.1 g3.np a3 a5 _ z A (rH x ns) g3.row F.1 o E hm).mono ?_;rintro e m ⟨S2,k,X,h1,h2,h3⟩;have hz:=g3.np.kB.size;have HR:bD m 0 3 1 (aj (ah (az g 0)) s u) s (gq T)∧∃S2 k,sC (yh d l j h) d.heap.size w lv S2 m pb vb kb (pz p) (aj j (bB l) h) fv k E (bB l) fs gs (aj sa (bB ns) sc) ns∧sC (yh d l j h) d.heap.size w lv S2 m pb vb kb (pz p) (aj j (bB l) h) fv k E (bB l) fs gs (.slice z (bB (rH x ns)) A) (rH x ns)∧nN E∧nr fs E:=⟨g3.other X g1,S2,k,g2.step hz X,g3.step hz X,h1,h2⟩
      cases o with
      |none=>exact⟨_,h3.1 rfl,HR⟩
      |some told=>let⟨cb,gg,e9,_⟩:=h3.2 told rfl;exact⟨_,e9,HR⟩
     have aa:=bL c;have ab:Hid (bB (rH x ns)<=100∧bB ns<=100):=⟨by omega,a2⟩
     obtain⟨n1,an⟩:=bJ (bB ns);obtain⟨n2,a1⟩:=bJ (bB (rH x ns));rw[an,a1] at M D;simp only[an];cases o with
     |none=>
      simp only[kJ] at D
      go_wp2_with(first|(go_at_call 52;refine M.mono ?_;rintro e w5 ⟨z,A,rfl,H5⟩)|(go_at_call 22;refine(D.out _ _ _ H5.out).mono ?_;rintro e w6 ⟨cv,rfl,H6⟩));refine⟨⟨i+1,O,by simp,?_⟩,by simp[aG];omega⟩;let⟨k1,S2,k,k2,k3,k4⟩:=H6.out;exact⟨_,E,S2,k,⟨aa.out,ab.out.1⟩,k1,k3,k4⟩
     |some told=>
      simp only[iM] at D
      go_wp2_with(first|(go_at_call 52;refine M.mono ?_;rintro e w5 ⟨z,A,rfl,H5⟩)|(go_at_call 22;refine(D.out _ _ _ H5.out).mono ?_;rintro e w6 ⟨cv,rfl,H6⟩));refine⟨⟨i+1,O,by simp,?_⟩,by simp[aG];omega⟩;let⟨k1,S2,k,k2,k3,k4⟩:=H6.out;exact⟨_,E,S2,k,⟨aa.out,ab.out.2⟩,k1,k2,k4⟩
   rw[cC F] at c;cases c
  have di:=bN i s;obtain rfl:i=s:=bO
  rw[sA (by rw[L.out];exact bT _),Gu] at c;cases c
  have HF:=bL C.np.kB
  go_wp2;go_ret;exact⟨_,_,rfl,HF.out⟩
theorem Rb{w}(base){p}{ev}{nb fb}{l}(hB:Bk w base p ev nb fb l)(hb:Cc.Bd l)(hl:bB l<=150)(pa){pc}{ks}{P}{fs}(z:Kz w l pa pc ks P fs)(ao:KF (bB l) fs)(j)(a4:okB P fs (aO (bB fs))=aK)(hM:yS l fs (aO (bB fs)) 2 P=ah (ai,j))(f r Q)(hE:DI l fs f j []=ah (r,Q))(T)(hT:T.Perm r∧T.Pairwise (· < ·))(a5:0<bB r)(an:bB T<=100)(R Q2)(hC:Gu l fs T Q T=ah (R,Q2)):
  aB prog 8 #[pz p,aj pa (bB ks) pc] w λe u=>∃c d,e=aw (.tuple #[.agg #[.bool aL,aj ai 0 0,aj c (bB R) d],iz 0])∧aC w.heap.size w u:=by
 have k:bz w (bC w (aq #[.bool aL,aj ai 0 0,aj ai 0 0] 41)):=(cW _ _).alloc (bT _) _;have CK:=Da (bC w (aq #[.bool aL,aj ai 0 0,aj ai 0 0] 41)) (pz p) (bB ks) pc aK aL (rh (hB.below hB.low k) (bB ks) pc (z.sl.below k) (by have:=z.cost;omega)) λW hW=>wW W (bB l) pa pc ks ((z.sl.below k).below hW) z.cost;have a:=bL (b9 hB (b9 z (b9 hM (b9 ao (b9 a4 (b9 hE (b9 hT (b9 a5 (b9 an hC)))))))));have C:=bL k;have al:=ey w #[.bool aL,aj ai 0 0,aj ai 0 0] 41;have Y:=bL al;have a6:bB ks<=600:=by have U:=Bo ks;have G:=z.cost;unfold cS at G;omega
 go_enter func8,ntmps8
 go_wp2_with(go_at_call 20;refine CK.mono ?_;rintro e J ⟨rfl,B1⟩;refine dM ?_);delta aH;have t:bz w J:=C.out.trans (B1.mono C.out.size);have o:=a.out.1.below a.out.1.low t;have NW:=rZ o bO pc ((a.out.2.1.sl.below t).fsm) a.out.2.1.ok;rw[eG] at NW;have ad:Zv aK aL=0:=rfl;have ag:=du Y.out (B1.block _ bQ);have E:=bL ag;have g:=bL (b9 t o);have X:=bL NW;simp only[ad];apply_assumption
 go_wp2_with(go_at_call 21;refine jD X.out ?_;rintro e L ⟨pb,vb,kb,V,A,fv,lv,S,gs,rfl,F⟩;refine dM ?_);delta aH;rw[a.out.2.1.iO] at F;obtain⟨M,O,rfl⟩:=dZ F.row;have a3:bB gs=bB fs:=F.len;have c2:cz L pb 2 (aj M (bB gs) O):=F.pm.cells.cell (i:=2) bO;have H:bB gs=bB ks:=by rw[a3];have:=uW (bB l) (ks.map Lf.er) nF [];rw[a.out.2.1.iO,eG] at this;simpa using this
 rw[H] at c2;have AL:=Gt L pb M (bB ks) O bO c2;have ap:bB fs=bB ks:=bO
 have h:=bL (b9 F (b9 H ap));apply_assumption
 go_wp2_with(go_at_call 23;refine AL.mono ?_;rintro e w3 ⟨rfl,R3,B3⟩;refine dM ?_);delta aH;have N3:=h.out.1.below B3;have ab:=R3.own (by rw[iu];omega);have ac:bD w3 0 3 1 (.slice (ah (az (hz L) 0)) (bB (aO (bB ks))) (bB (aO (bB ks)))) (bB (aO (bB ks))) (gq (aO (bB ks))):=ab;have MD:=Cj g.out.2 hb hl A a.out.2.2.2.1 N3 a.out.2.1.vrp a.out.2.1.has 0 (ah (az (hz L) 0)) _ (aO (bB ks)) ac (by rw[<-h.out.2.2];exact a.out.2.2.2.2.1) ai j (by rw[<-h.out.2.2];exact a.out.2.2.1);rw[iu] at MD;have aa:aB prog 22 #[pz pb,.slice (ah (az (hz L) 0)) (bB ks) (bB ks)] w3 λe u=>e=aw (.tuple #[aj ai 0 0,.bool aL])∧Hid (∃S' lv',Np (yh J l V A) (hz J) S' u pb vb kb (pz p) (aj V (bB l) A) (aj M (bB gs) O) lv' j (bB l) fs gs∧nN j∧nr fs j):=by refine MD.mono ?_;rintro e w4 ⟨S',lv',X4,U,G,h3⟩;exact⟨h3.1 rfl,S',lv',N3.step N3.kB.size X4,U,G⟩
 have D:Hid (∀W,(∃S' lv',Np (yh J l V A) (hz J) S' W pb vb kb (pz p) (aj V (bB l) A) (aj M (bB gs) O) lv' j (bB l) fs gs∧nN j∧nr fs j)->aB prog 24 #[pz pb] W λe u=>∃c d,e=aw (aj c (bB R) d)∧Hid (bz w u∧u.rowIs (hz w) 41 3 λi=>(#[.bool aL,aj ai 0 0,aj ai 0 0]:Array aA)[i]?.getD undef)):=by rintro W ⟨S',lv',N4,U,G⟩;refine(Zr g.out.2 hb hl A a.out.2.2.2.1 (by rw[h.out.2.2];omega) N4 U G r a.out.2.2.2.2.2.1 a.out.2.2.2.2.2.2.1 a.out.2.2.2.2.2.2.2.1 a.out.2.2.2.2.2.2.2.2.1 R Q2 a.out.2.2.2.2.2.2.2.2.2).mono ?_;rintro e u ⟨c,d,rfl,s⟩;exact⟨c,d,rfl,g.out.1.trans (s.mono g.out.1.size),du E.out (s.block _ (dO E.out))⟩
 obtain⟨rn,I⟩:=bJ (bB R);rw[I] at D;have Z:=bL I;apply_assumption
 go_wp2_with(first|(go_at_call 22;refine aa.mono ?_;rintro e w4 ⟨rfl,H4⟩)|(go_at_call 24;refine(D.out _ H4.out).mono ?_;rintro e w5 ⟨c,d,rfl,m⟩;refine dM ?_));delta aH;have a0:=m.out.2.cell (i:=0) bO;have a1:=m.out.2.cell (i:=1) bO;have a2:=m.out.2.cell (i:=2) bO;have f0:=m.out.2.frozen 0;have f1:=m.out.2.frozen 1;have f2:=m.out.2.frozen 2;simp only[kF,jI,rE,eQ] at a0 a1 a2;apply_assumption
 go_wp2;have R9:=((m.out.2.set 0 (.bool aL)).set 1 (aj ai 0 0)).set 2 (aj c rn d);have B9:bz w (aW (aW (aW w5 (az (hz w) 0) (.bool aL)) (az (hz w) 1) (aj ai 0 0)) (az (hz w) 2) (aj c rn d)):=((m.out.1.setCell (p:=(az (hz w) 0)) (bT _) _).setCell (p:=(az (hz w) 1)) (bT _) _).setCell (p:=(az (hz w) 2)) (bT _) _;generalize(aW (aW (aW w5 (az (hz w) 0) (.bool aL)) (az (hz w) 1) (aj ai 0 0)) (az (hz w) 2) (aj c rn d))=w9 at *;have b0:cz w9 (hz w) 0 (.bool aL):=R9.cell (i:=0) bO;have b1:cz w9 (hz w) 1 (aj ai 0 0):=R9.cell (i:=1) bO;have b2:cz w9 (hz w) 2 (aj c rn d):=R9.cell (i:=2) bO;exact⟨rfl,.tuple #[.agg #[.bool aL,aj ai 0 0,aj c rn d],iz 0],by simp[results,results8,go_sem,b0,b1,b2],c,d,by rw[Z.out],B9⟩
theorem sS.mono{l:List Tm}{fs:List Fm}{ns:List Nat}{c a:Option (List Pr)->Pb->Prop}(hp:∀r Q,c r Q->a r Q):∀(f:Nat)(P:Pb),sS l fs ns c f P->sS l fs ns a f P
 |0,_,h=>h
 |f+1,P,h=>by
  rw[sS] at h⊢;refine⟨h.1,?_⟩;have d:=h.2;cases hs:mH P.count (lO P fs ns) with
  |none=>rw[hs] at d;exact d
  |some o=>
   rw[hs] at d;cases o with
   |none=>exact hp _ _ d
   |some j=>exact⟨λe=>hp _ _ (d.1 e),λe=>⟨(d.2 e).1,λF Q g i=>sS.mono hp f Q ((d.2 e).2 F Q g i)⟩⟩
def adm:=@sS.mono
def acK:DI l7 Hf 6 q7 []=ah ([0,1,3,2],q7):=bV
def acP:Gu l7 Hf [0,1,2,3] q7 [0,1,2,3]=ah ([0,1,2,3],q7):=bV
def ok7:okB p7 Hf (aO (bB Hf))=aK:=bV
theorem am7:KF 6 Hf:=by
 intro n a;have a:n<4:=a;have:n=0∨n=1∨n=2∨n=3:=bO
 obtain rfl|rfl|rfl|rfl:=this<;>decide
theorem adS:KF 6 (Hf.take 3):=by
 intro n a;have a:n<3:=a;have:n=0∨n=1∨n=2:=bO
 obtain rfl|rfl|rfl:=this<;>decide
theorem adI:nr Hf p7:=by
 intro n a;have a:n<4:=a;have:n=0∨n=1∨n=2∨n=3:=bO
 obtain rfl|rfl|rfl|rfl:=this<;>decide
theorem acz:nr (Hf.take 3) p7:=by
 intro n a;have a:n<3:=a;have:n=0∨n=1∨n=2:=bO
 obtain rfl|rfl|rfl:=this<;>decide
theorem ab6:nN p7:=by unfold nN;decide
def acD:bB p7.lemmas<=100000∧bB p7.vars<=2000∧bB p7.known<=100000:=bS
def aax:wm 6 zQ:=.eq 1 2 bS bS
def aaw:wm 6 xk:=.two 3 _ _ bS (.eq 0 3 bS bS) (.eq 0 4 bS bS)
def aav:wm 6 Ah:=.neg _ (.eq 5 2 bS bS)
def ab5:wm 6 Gk:=.neg _ (.eq 0 4 bS bS)
variable{f:Fo}
theorem wm.rf(i:N<=1000)(h:wm N f):RF f∧∀p∈oU f,(0<=p.1∧p.1<=1000000)∧0<=p.2∧p.2<=1000000:=by
 induction h with
 |eq x y m r=>exact⟨.mk ⟨by omega,by omega⟩ ⟨by omega,by omega⟩ λk a=>(nomatch a),λp hp=>by grind[oU]⟩
 |neg f h e=>refine⟨.mk ⟨by omega,by omega⟩ ⟨by omega,by omega⟩ (λk a=>by grind),λp hp=>e.2 p ?_⟩;simpa[oU] using hp
 |two o f g j h k c d=>refine⟨.mk ⟨by omega,by omega⟩ ⟨by omega,by omega⟩ (λk a=>by simp at a;obtain rfl|rfl:=a;exact c.1;exact d.1),λp hp=>?_⟩;grind[oU]
theorem vL(a:N<=1000)(h:wm N f)(hs:xj f<=1000):Aj f∧xj f<=1000∧RF f∧∀p∈lC (oU f),(0<=p.1∧p.1<=1000000)∧0<=p.2∧p.2<=1000000:=
 ⟨h.wf,hs,(h.rf a).1,λp hp=>(h.rf a).2 p (AJ.1 hp)⟩
theorem sz7:xj zQ<=1000∧xj xk<=1000∧xj Ah<=1000∧xj Gk<=1000:=by simp[zQ,xk,Ah,Gk,lG,Fo.eq,Fo.neg,Fo.two,xj]
theorem abh:EY 6 [zQ,xk,Ah,Gk]:=by
 refine⟨λf a=>?_,by decide,λi c=>?_⟩
 .simp only[fA,lH,GY] at a;obtain rfl|rfl|rfl|rfl:=a
  .exact vL bO aax sz7.1
  .exact vL bO aaw sz7.2.1
  .exact vL bO aav sz7.2.2.1
  exact vL bO ab5 sz7.2.2.2
 have:i=0∨i=1∨i=2∨i=3∨i=4:=by simp at c;omega
 obtain rfl|rfl|rfl|rfl|rfl:=this
 .exact⟨by unfold RJ;decide,by decide,by decide,by decide⟩
 .grind[Pb.iO,zQ,xk,Ah,Gk,nF,RJ,ES]
 .have e:(Pb.iO 6 ([zQ,xk,Ah,Gk].take 2) nF []).1=⟨4,[((1,2),1),((0,3),2),((0,4),3)],[],[]⟩:=by
   show(Pb.iO 6 [zQ,xk] nF []).1=_;rw[Pb.iO,Pb.iO,Pb.iO,ES.1,Km.1]
  grind[RJ]
 .have e:(Pb.iO 6 ([zQ,xk,Ah,Gk].take 3) nF []).1=p7:=by grind[Pb.iO,zQ,xk,Ah,nF,aaj]
  rw[e];exact⟨by unfold RJ;decide,by decide,by decide,by decide⟩
 have e:(Pb.iO 6 ([zQ,xk,Ah,Gk].take 4) nF []).1=p7:=by grind[Pb.iO,zQ,xk,Ah,Gk,nF,WB]
 rw[e];exact⟨by unfold RJ;decide,by decide,by decide,by decide⟩
theorem acB:EY 6 [zQ,xk,Ah]:=by
 refine⟨λf d=>abh.each f ?_,by decide,λi a=>?_⟩
 .grind
 have c:i<=3:=a;have:=abh.small i bX;have e:[zQ,xk,Ah].take i=[zQ,xk,Ah,Gk].take i:=by
  have:i=0∨i=1∨i=2∨i=3:=bO
  grind
 rw[e];exact this
theorem adG:sS l7 (Hf.take 3) (aO (bB (Hf.take 3))) (λr _=>∃t,r=ah t) 2 p7:=sS.mono (λr Q h=>by cases h;exact⟨_,rfl⟩) 2 p7 (FZ 2 p7 _ adF)
theorem Wt(h:Cc.Bd l):OZ l:=⟨λ_ t a=>h.four t (cH a),λi t a=>h.args i t a,λ_ _ t u a c=>h.one t (cH a) u (cH c)⟩
variable{q:Pr}
theorem VF(h:uf N q):wm N (lG q):=.eq _ _ ⟨by omega,by have:=h.1;omega⟩ ⟨by omega,by have:=h.2;omega⟩
theorem Gi(q):xj (lG q)<=1000∧xj (Fo.neg (lG q))<=1000∧cF (lG q)=1:=by simp[lG,Fo.eq,Fo.neg,xj,cF]
variable{qs:List Pr}
theorem Dj.small(h:Dj n qs P fs)(hl:bB qs<=600):RJ P∧bB P.lemmas<=600∧P.count<=600∧bB P.vars<=600:=by have a:=mO [] (qs.map fh);rw[<-h.keys,eG,eG,dQ] at a;have d:=h.num.lZ;have g:=h.sd;exact⟨λe c=>(h.pk.vars e c).2,by omega,by omega,by omega⟩
theorem Dj.get(h:Dj n qs P fs){i:Nat}(c:i<bB fs):∃q∈qs,(Fm.get fs i).am=[fh q]∧P.num (fh q)≠ai:=by
 have a:i<bB qs:=by rw[<-h.len];exact c
 let⟨v,d,e⟩:=h.at_ i _ (bP a);grind[List.getElem_mem,Fm.get_at]
theorem NY(h:uf n q):(fh q).1<=(fh q).2∧(fh q).2<n:=by have:=h.1;have:=h.2;grind[fh,eT]
theorem Gm(d:n<=1000)(e:∀q∈qs,uf n q)(hl:bB qs<=600):EY n (qs.map lG):=by
 refine⟨λf c=>?_,by grind,λi a=>?_⟩
 .grind[vL,VF,Gi]
 rw[eG] at a;have h:=(aap n qs i a).small cG;grind[List.map_take]
theorem OC(h:Dj n qs P fs)(j:∀q∈qs,uf n q)(hl:bB qs<=600):RQ n fs (aO (bB fs)):=by
 refine⟨λi c=>j6.1 c,by rw[iu,h.len];omega,λi c=>?_,?_⟩
 .let⟨q,e,g,_⟩:=h.get c;rw[g];refine⟨by simp,λa d=>?_⟩;rw[dL] at d;subst d;exact NY (j q e)
 rw[qU,h.j.ams,eG];omega
theorem OB(h:Dj n qs P fs):nr fs P:=λi c a g=>by let⟨q,_,d,e⟩:=h.get c;grind
variable{pa ka:Option aD}{ks:List Lf}
theorem QX(hl:bB l<=150)(d:∀q∈qs,uf (bB l) q)(a:bB qs<=600)(hs:xl W (bB l) (aj pa (bB ks) pc) ks)(c:ks.map Lf.er=qs.map lG):Kz W l pa pc ks (Pb.iO (bB l) (qs.map lG) nF []).1 (Pb.iO (bB l) (qs.map lG) nF []).2:=by
 have h:=aap (bB l) qs (bB qs) (bT _);rw[fI] at h;have e:=h.small a;refine⟨hs,?_,by rw[c];exact Gm bO d a,by rw[c],OC h d a,OB h,h.pk.vars,by omega,by omega,by rw[h.known];simp⟩;have g:((qs.map lG).map cF).sum=bB qs:=by
  clear e h hs c a d
  induction qs with
  |nil=>rfl
  |cons q qs i=>simp only[iG,tU,(Gi q).2.2,i,ed];omega
 grind[J7]
theorem VP(c:ks.map Lf.er=qs.map lG):cS ks=1+bB qs:=by
 have a:((qs.map lG).map cF).sum=bB qs:=by
  clear c
  induction qs with
  |nil=>rfl
  |cons q qs d=>simp only[iG,tU,(Gi q).2.2,d,ed];omega
 rw[J7,c,a]
theorem QW(a:Cc.Bd l)(d:∀q∈qs,uf (bB l) q)(c:bB qs<=600):sS l (Pb.iO (bB l) (qs.map lG) nF []).2 (aO (Pb.iO (bB l) (qs.map lG) nF []).2.length) (λr _=>∃t,r=ah t) 1 (Pb.iO (bB l) (qs.map lG) nF []).1:=by have h:=aap (bB l) qs (bB qs) (bT _);grind[List.take_length,VQ,Wt]
theorem JP(z:Cc.Bd l)(hl:bB l<=150)(p:∀q∈qs,uf (bB l) q)(C:bB qs<=599){c:Pr}(s:uf (bB l) c):
  ∃P fs,W4 l (qs.map lG++[Fo.neg (lG c)]) P fs∧sS l fs (aO (bB fs)) (λr _=>(r=ai↔Cc.Cg l qs c.1 c.2)) 2 P:=by
 have h:=aap (bB l) qs (bB qs) (bT _);rw[fI] at h;have F:=FoI.of h c;have hs:=h.small bO;let⟨D,E,G,H,I,J⟩:=Bh hs.1 (fh c);refine⟨_,_,⟨?_,by rw[sQ,yf,CS],?_,?_,?_,?_⟩,Gh (Wt z) hl p bO s F⟩
 .refine⟨λf k=>?_,by simp;omega,λi m=>?_⟩
  .obtain k|k:=cU.1 k
   .exact(Gm bO p bO).each f k
   rw[dL] at k;subst k;exact vL bO (.neg _ (VF s)) (Gi c).2.1
  by_cases d:i<=bB (qs.map lG)
  .rw[iJ d];exact(Gm bO p bO).small i d
  grind[List.take_of_length_le,sQ,yf]
 .have u:=OC h p bO;have o:∀(g:Fm),bB ((Pb.iO (bB l) (qs.map lG) nF []).2++[g])=bB qs+1:=λg=>by rw[cR,h.len];rfl
  refine⟨λi m=>j6.1 m,by grind,λi m=>?_,?_⟩
  .rw[o] at m;by_cases d:i<bB qs
   .have:Fm.get ((Pb.iO (bB l) (qs.map lG) nF []).2++[⟨[fh c],[[-(((Pb.iO (bB l) (qs.map lG) nF []).1.fD (fh c)).1:Int)]],λe=>tX (bB l) e (Fo.neg (lG c))⟩]) i=Fm.get (Pb.iO (bB l) (qs.map lG) nF []).2 i:=by grind[Fm.get]
    rw[this];exact u.am i (by rw[h.len];exact d)
   have:Fm.get ((Pb.iO (bB l) (qs.map lG) nF []).2++[⟨[fh c],[[-(((Pb.iO (bB l) (qs.map lG) nF []).1.fD (fh c)).1:Int)]],λe=>tX (bB l) e (Fo.neg (lG c))⟩]) i=⟨[fh c],[[-(((Pb.iO (bB l) (qs.map lG) nF []).1.fD (fh c)).1:Int)]],λe=>tX (bB l) e (Fo.neg (lG c))⟩:=by
    refine tL ?_;rw[dr (by rw[h.len];omega),h.len,show i-bB qs=0 by omega];rfl
   rw[this];refine⟨by simp,λa j=>?_⟩;simp only[dL] at j;subst j;exact NY s
  rw[qU,mZ,h.j.ams,cR,eG];simp;omega
 .intro i m a j;by_cases d:i<(Pb.iO (bB l) (qs.map lG) nF []).2.length
  .have:Fm.get ((Pb.iO (bB l) (qs.map lG) nF []).2++[⟨[fh c],[[-(((Pb.iO (bB l) (qs.map lG) nF []).1.fD (fh c)).1:Int)]],λe=>tX (bB l) e (Fo.neg (lG c))⟩]) i=Fm.get (Pb.iO (bB l) (qs.map lG) nF []).2 i:=by grind[Fm.get]
   rw[this] at j;exact mF _ _ _ (OB h i d a j)
  have t:i=(Pb.iO (bB l) (qs.map lG) nF []).2.length:=cG
  have:Fm.get ((Pb.iO (bB l) (qs.map lG) nF []).2++[⟨[fh c],[[-(((Pb.iO (bB l) (qs.map lG) nF []).1.fD (fh c)).1:Int)]],λe=>tX (bB l) e (Fo.neg (lG c))⟩]) i=⟨[fh c],[[-(((Pb.iO (bB l) (qs.map lG) nF []).1.fD (fh c)).1:Int)]],λe=>tX (bB l) e (Fo.neg (lG c))⟩:=by refine tL ?_;rw[dr bO,t,iN];rfl
  rw[this] at j;simp only[dL] at j;subst j;rw[F.num];simp
 .exact nN.fD h.pk.vars _
 have A:((Pb.iO (bB l) (qs.map lG) nF []).1.fD (fh c)).2.known=[]:=by rw[(Pb.qj _ _).2.2,h.known]
 grind
theorem IU(w a):aB prog 10 #[iz a] w λe c=>e=aw (iz a)∧w=c:=by
 go_enter func10,ntmps10
 go_wp2;go_ret;exact⟨rfl,rfl⟩
theorem Bk.fk{base p:Nat}{ev:aA}{nb g:Nat}(h:Bk W base p ev nb g l)(K:bI (me p ev nb g) W W'):fQ 0 W W':=by
 refine Le K (λk o c d a=>?_) 0;let⟨D,j,_⟩:=h.lF;let⟨E,m,_⟩:=h.om;obtain rfl|rfl|rfl|e:=o
 .let⟨r,i,_⟩:=h.kE;rw[a] at i;cases i
 .exact sM j c _ d a
 .exact sM m c _ d a
 exact wK h.rows e bS c d a
theorem PM{W}(base){p}{ev}{nb j}{l}(h:Bk W base p ev nb j l)(hl:bB l<=150)(m:base<=W.heap.size){s}(f o)(hp:nT s l=(f,0,0,o)):
  aB prog 17 #[pz p,.string s] W λe c=>∃(op x y:Int)(ka:Option aD)(kn kc:Nat),e=aw (.tuple #[.agg #[iz op,iz x,iz y,aj ka kn kc],iz 0,iz 0])∧Hid (Hk c (.agg #[iz op,iz x,iz y,aj ka kn kc]) f∧(∃a,Bk c base p a nb j o)∧fQ 0 W c∧aC base W c):=by
 have i:=QI h hl m s;rw[hp] at i;refine i.mono ?_;rintro e c ⟨v,rfl,d,a,r,g,_,_⟩;obtain⟨op,x,y,kv,kids,rfl,t,u,z⟩:=id d;obtain⟨ka,kc,rfl,_⟩:=id t;refine⟨op,x,y,ka,_,kc,rfl,d.is,⟨a,r⟩,h.fk g,g.below m λk e=>?_⟩;obtain e|e|e|e:=e
 .rw[e];exact h.bp
 .rw[e];exact h.bn
 .rw[e];exact h.bf
 exact(dI h.rows e).1
def WX(W:ay)(b:Nat)(op x y:Int)(ka:Option aD)(kn kc:Nat)(f:Fo):Prop:=W.rowIs b 36 4 (Zz op x y (aj ka kn kc))∧Hk W (.agg #[ae af op,ae af x,ae af y,aj ka kn kc]) f
variable{op x y:Int}
def WX.keep(h:WX W b op x y ka kn kc f)(K:fQ 0 W W'):WX W' b op x y ka kn kc f:=⟨eM K (dt _) h.1,abS (K.yq _) h.2⟩
def fQ.kB(h:aC W.heap.size W W'):fQ 0 W W':=λ_ _ _ _ a=>(h.block _ (bY.1 a).1).trans a
def ov:=@fQ.kB
theorem WX.new(h:Hk W (.agg #[iz op,iz x,iz y,aj ka kn kc]) f):WX (bC W (aq #[iz op,iz x,iz y,aj ka kn kc] 36)) W.heap.size op x y ka kn kc f:=
 ⟨(ey W #[iz op,iz x,iz y,aj ka kn kc] 36).congr (λj a=>by
  have:j=0∨j=1∨j=2∨j=3:=by simp at a;omega
  obtain rfl|rfl|rfl|rfl:=this<;>rfl),h.keep ((cW _ _).alloc (bT _) _)⟩
def WX.cells(h:WX W b op x y ka kn kc f):cz W b 0 (iz op)∧cz W b 1 (iz x)∧cz W b 2 (iz y)∧cz W b 3 (aj ka kn kc):=
 ⟨h.1.cell (i:=0) bO,h.1.cell (i:=1) bO,h.1.cell (i:=2) bO,h.1.cell (i:=3) bO⟩
theorem WX.lf(h:WX W b op x y ka kn kc f)(K:fQ 0 W W')(j:wm N f):∃t:Lf,kW t=[iz op,iz x,iz y,aj ka kn kc]∧t.er=f∧nk t.kv t.kids∧(∀k∈t.kids,jS W' k)∧wm N t.er:=by
 let⟨m,x2,o,kv,kids,e,c,d,g⟩:=h.2;cases e
 have a:(Lf.mk 0 0 op x y (aj ka kn kc) kids).er=f:=by rw[Lf.er,g]
 exact⟨.mk 0 0 op x y (aj ka kn kc) kids,rfl,a,c,λk i=>(d k i).keep (K.yq _),by rw[a];exact j⟩
theorem Z6:Cc.Bd l7:=by
 have c:∀t∈l7,∀a∈t.args,a<6:=bS
 exact⟨λn t e a d=>c t (cH e) a d,by decide,by decide,by decide⟩
theorem aaf:1+([zQ,xk,Ah,Gk].map cF).sum<=601∧1+([zQ,xk,Ah].map cF).sum<=601:=by simp[zQ,xk,Ah,Gk,lG,Fo.eq,Fo.neg,Fo.two,cF]
theorem acS(hs:xl W 6 (aj pa (bB ks) pc) ks)(a:ks.map Lf.er=[zQ,xk,Ah]):Kz W l7 pa pc ks p7 (Hf.take 3):=
 ⟨hs,by rw[J7,a];exact aaf.2,by rw[a];exact acB,by rw[a];exact aaj,adS.abf bS λn c=>j6.1 c,acz,ab6,acD⟩
theorem adR(hs:xl W 6 (aj pa (bB ks) pc) ks)(a:ks.map Lf.er=[zQ,xk,Ah,Gk]):Kz W l7 pa pc ks p7 Hf:=
 ⟨hs,by rw[J7,a];exact aaf.1,by rw[a];exact abh,by rw[a];exact WB,am7.abf bS λn c=>j6.1 c,adI,ab6,acD⟩
theorem Jd{ts:List Lf}{C:Array aA}(c:C.toList=ts.flatMap kW)(hl:bB ts<=1000)(d:∀t∈ts,nk t.kv t.kids∧(∀k∈t.kids,jS (bC W (.cells C 36)) k)∧wm N t.er):∃ks,xl (bC W (.cells C 36)) N (aj (ah (az W.heap.size 0)) (bB ts) (bB ts)) ks∧ks.map Lf.er=ts.map Lf.er∧bB ks=bB ts:=by
 have a:=ED ts;refine Fy (B:=0) ⟨a,cI ⟨hz W,bB ts,C,rfl,dt _,eW _ _,bT _,by unfold maxLen;omega,?_,?_⟩⟩ d
 .rw[<-KU,c,a]
 grind
theorem wY(w):aB prog 6 #[] w λe a=>e=aw (.bool aK)∧aC w.heap.size w a:=by
 have ac:aB prog 12 #[] w λe a=>∃p,e=aw (pz p)∧Hid ((∃ev nb fb,Bk a (hz w) p ev nb fb [])∧bz w a):=by refine(Ig w).mono ?_;rintro e a ⟨p,nb,fb,rfl,H1,B1⟩;exact⟨p,rfl,⟨_,_,_,H1⟩,B1⟩
 have HP:Hid (∀(W:ay)(p:Nat)(l:List Tm)(s:ByteArray)(f:Fo)(l':List Tm),nT s l=(f,0,0,l')->bB l<=150->((∃ev nb fb,Bk W (hz w) p ev nb fb l)∧bz w W)->aB prog 17 #[pz p,.string s] W λe a=>∃(op x y:Int)(ka:Option aD)(kn kc:Nat),e=aw (.tuple #[.agg #[iz op,iz x,iz y,aj ka kn kc],iz 0,iz 0])∧Hid (WX (bC a (aq #[iz op,iz x,iz y,aj ka kn kc] 36)) (hz a) op x y ka kn kc f∧fQ 0 W (bC a (aq #[iz op,iz x,iz y,aj ka kn kc] 36))∧(∃ev nb fb,Bk (bC a (aq #[iz op,iz x,iz y,aj ka kn kc] 36)) (hz w) p ev nb fb l')∧bz w (bC a (aq #[iz op,iz x,iz y,aj ka kn kc] 36)))):=by rintro W p l s f l' hp hl ⟨⟨ev,nb,fb,hB⟩,hb⟩;refine(PM (hz w) hB hl hb.size f l' hp).mono ?_;rintro e a ⟨op,x,y,ka,kn,kc,rfl,H⟩;let⟨h1,⟨b6,h2⟩,h3,h4⟩:=H.out;have J:bz a (bC a (aq #[iz op,iz x,iz y,aj ka kn kc] 36)):=(cW _ _).alloc (bT _) _;have ao:=hb.trans h4;exact⟨op,x,y,ka,kn,kc,rfl,WX.new h1,h3.trans (gG 0 a _),⟨b6,nb,fb,h2.below h2.low J⟩,ao.trans (J.mono ao.size)⟩
 go_enter func6,ntmps6
 go_wp2_with(first|(go_at_call 12;refine ac.mono ?_;rintro e w1 ⟨p,rfl,H1⟩;have PA:=HP.out w1 p [] _ _ _ adC bS H1.out)|(go_at_call 17;refine PA.mono ?_;rintro e w2 ⟨u,x1,y1,c,m,h,rfl,H2⟩;refine dM ?_));delta aH;have a0:=HP.out (bC w2 (aq #[iz u,iz x1,iz y1,aj c m h] 36)) p _ _ _ _ adB bS H2.out.2.2;apply_assumption
 go_wp2_with(go_at_call 17;refine a0.mono ?_;rintro e w3 ⟨z,x2,y2,d,o,j,rfl,H3⟩;refine dM ?_);delta aH;have a1:=HP.out (bC w3 (aq #[iz z,iz x2,iz y2,aj d o j] 36)) p _ _ _ _ adA bS H3.out.2.2;apply_assumption
 go_wp2_with(go_at_call 17;refine a1.mono ?_;rintro e w4 ⟨A,x3,y3,g,r,k,rfl,H4⟩;refine dM ?_);delta aH;have a2:=HP.out (bC w4 (aq #[iz A,iz x3,iz y3,aj g r k] 36)) p _ _ _ _ adz bS H4.out.2.2;apply_assumption
 go_wp2_with(go_at_call 17;refine a2.mono ?_;rintro e w5 ⟨Y,x4,y4,T,X,U,rfl,H5⟩;refine dM ?_);delta aH;have b4:=H5.out.1;have b3:=H4.out.1.keep H5.out.2.1;have b2:=(H3.out.1.keep H4.out.2.1).keep H5.out.2.1;have b1:=((H2.out.1.keep H3.out.2.1).keep H4.out.2.1).keep H5.out.2.1;have an:=H5.out.2.2;obtain⟨W,hW⟩:=bJ (bC w5 (aq #[iz Y,iz x4,iz y4,aj T X U] 36));rw[hW] at b1 b2 b3 b4 an;obtain⟨⟨ev,nb,fb,aa⟩,cd⟩:=an;have DY:aB prog 8 #[pz p,.slice (ah (az (hz W) 0)) 3 3] (bC W (aq #[iz u,iz x1,iz y1,aj c m h,iz z,iz x2,iz y2,aj d o j,iz A,iz x3,iz y3,aj g r k] 36)) λe a=>∃E O G,e=aw (.tuple #[.agg #[.bool aK,aj E O G,aj ai 0 0],iz 0])∧Hid (bz W a):=by
  have J:bz W (bC W (aq #[iz u,iz x1,iz y1,aj c m h,iz z,iz x2,iz y2,aj d o j,iz A,iz x3,iz y3,aj g r k] 36)):=(cW _ _).alloc (bT _) _;let⟨t1,f1,e1,k1⟩:=b1.lf (fQ.kB J) aax;let⟨t2,f2,e2,k2⟩:=b2.lf (fQ.kB J) aaw;let⟨t3,f3,e3,k3⟩:=b3.lf (fQ.kB J) aav;let⟨ks,s1,s2,s3⟩:=Jd (W:=W) (N:=6) (ts:=[t1,t2,t3]) (C:=#[iz u,iz x1,iz y1,aj c m h,iz z,iz x2,iz y2,aj d o j,iz A,iz x3,iz y3,aj g r k]) (by simp[f1,f2,f3]) bQ (λt ht=>by
   simp only[fA,lH,GY] at ht;obtain rfl|rfl|rfl:=ht
   .exact k1
   .exact k2
   exact k3)
  have Z:bB ks=3:=s3;have D:=C5 (hz w) (aa.below aa.low J) Z6 bS (ah (az (hz W) 0)) (Hf.take 3) (acS (by rw[Z];exact s1) (by rw[s2];simp only[iG,nZ,e1,e2,e3])) (bT _) adG;rw[Z] at D;refine D.mono ?_;rintro e a ⟨E,O,G,rfl,h9⟩;exact⟨E,O,G,rfl,J.trans (h9.mono J.size)⟩
 have ap:Hid (∀V,bz W V->aB prog 8 #[pz p,.slice (ah (az (hz V) 0)) 4 4] (V.alloc (aq #[iz u,iz x1,iz y1,aj c m h,iz z,iz x2,iz y2,aj d o j,iz A,iz x3,iz y3,aj g r k,iz Y,iz x4,iz y4,aj T X U] 36)) λe a=>∃E G,e=aw (.tuple #[.agg #[.bool aL,aj ai 0 0,aj E 4 G],iz 0])∧Hid (bz V a)):=λV hV=>by
  have J:bz V (V.alloc (aq #[iz u,iz x1,iz y1,aj c m h,iz z,iz x2,iz y2,aj d o j,iz A,iz x3,iz y3,aj g r k,iz Y,iz x4,iz y4,aj T X U] 36)):=(cW _ _).alloc (bT _) _;have R:bz W (V.alloc (aq #[iz u,iz x1,iz y1,aj c m h,iz z,iz x2,iz y2,aj d o j,iz A,iz x3,iz y3,aj g r k,iz Y,iz x4,iz y4,aj T X U] 36)):=hV.trans (J.mono hV.size);let⟨t1,f1,e1,k1⟩:=b1.lf (fQ.kB R) aax;let⟨t2,f2,e2,k2⟩:=b2.lf (fQ.kB R) aaw;let⟨t3,f3,e3,k3⟩:=b3.lf (fQ.kB R) aav;let⟨t4,f4,e4,k4⟩:=b4.lf (fQ.kB R) ab5;let⟨ks,s1,s2,s3⟩:=Jd (W:=V) (N:=6) (ts:=[t1,t2,t3,t4]) (C:=#[iz u,iz x1,iz y1,aj c m h,iz z,iz x2,iz y2,aj d o j,iz A,iz x3,iz y3,aj g r k,iz Y,iz x4,iz y4,aj T X U]) (by simp[f1,f2,f3,f4]) bQ (λt ht=>by
   simp only[fA,lH,GY] at ht;obtain rfl|rfl|rfl|rfl:=ht
   .exact k1
   .exact k2
   .exact k3
   exact k4)
  have Z:bB ks=4:=s3;have D:=Rb (hz w) (aa.below aa.low R) Z6 bS (ah (az (hz V) 0)) (adR (by rw[Z];exact s1) (by rw[s2];simp only[iG,nZ,e1,e2,e3,e4])) am7 q7 ok7 adq 6 [0,1,3,2] q7 acK [0,1,2,3] ⟨by decide,by decide⟩ bS bS [0,1,2,3] q7 acP;rw[Z] at D;refine D.mono ?_;rintro e a ⟨E,G,rfl,h9⟩;exact⟨E,G,rfl,J.trans (h9.mono J.size)⟩
 let⟨ck,cm,co,cp⟩:=b1.cells;let⟨cr,cv,cx,cy⟩:=b2.cells;let⟨c7,c8,c9,cE⟩:=b3.cells;have M:=bL (b9 b1 (b9 b2 (b9 b3 (b9 b4 cd))));apply_assumption
 go_wp2_with(go_at_call 8;refine DY.mono ?_;rintro e w6 ⟨E,O,G,rfl,H6⟩;refine dM ?_);delta aH;have b7:bz w6 (bC w6 (aq #[.bool aK,aj E O G,aj ai 0 0] 41)):=(cW _ _).alloc (bT _) _;have L:bz W (bC w6 (aq #[.bool aK,aj E O G,aj ai 0 0] 41)):=H6.out.trans (b7.mono H6.out.size);have AN:=ey w6 #[.bool aK,aj E O G,aj ai 0 0] 41;have DN:=ap.out _ L;let⟨a3,a4,a5,a6⟩:=(M.out.1.keep (fQ.kB L)).cells;let⟨a7,a8,a9,ba⟩:=(M.out.2.1.keep (fQ.kB L)).cells;let⟨bb,bc,be,bi⟩:=(M.out.2.2.1.keep (fQ.kB L)).cells;let⟨bj,bo,bx,b0⟩:=(M.out.2.2.2.1.keep (fQ.kB L)).cells;have ab:=bL (b9 L (b9 M.out.2.2.2.2 AN));have ci:aU (bC w6 (aq #[.bool aK,aj E O G,aj ai 0 0] 41)) (az (hz w6) 2)=ah (aj ai 0 0):=AN.cell (i:=2) bQ;have ce:=AN.frozen 2;have ch:aW (bC w6 (aq #[.bool aK,aj E O G,aj ai 0 0] 41)) (az (hz w6) 2) (aj ai 0 0)=bC w6 (aq #[.bool aK,aj E O G,aj ai 0 0] 41):=aey
 obtain⟨V,hV⟩:=bJ (bC w6 (aq #[.bool aK,aj E O G,aj ai 0 0] 41));rw[hV] at DN a3 a4 a5 a6 a7 a8 a9 ba bb bc be bi bj bo bx b0 ab ci ce ch;apply_assumption
 go_wp2_with(go_at_call 8;refine DN.mono ?_;rintro e w8 ⟨F,I,rfl,H8⟩;refine dM ?_);delta aH;let⟨cb,ag,bR⟩:=ab.out;have b8:bz w8 (bC w8 (aq #[.bool aL,aj ai 0 0,aj F 4 I] 41)):=(cW _ _).alloc (bT _) _;have al:bz V (bC w8 (aq #[.bool aL,aj ai 0 0,aj F 4 I] 41)):=H8.out.trans (b8.mono H8.out.size);have ad:cz V (hz w6) 0 (.bool aK):=dU bR (i:=0) bQ;have cj:=(al.cell (cV V _ ad)).trans ad;have AM:=ey w8 #[.bool aL,aj ai 0 0,aj F 4 I] 41;have m0:aU (bC w8 (aq #[.bool aL,aj ai 0 0,aj F 4 I] 41)) (az (hz w8) 0)=ah (.bool aL):=AM.cell (i:=0) bQ;have m2:aU (bC w8 (aq #[.bool aL,aj ai 0 0,aj F 4 I] 41)) (az (hz w8) 2)=ah (aj F 4 I):=AM.cell (i:=2) bQ;have HF:Hid (bz w (bC w8 (aq #[.bool aL,aj ai 0 0,aj F 4 I] 41))):=by have h1:bz w V:=ag.trans (cb.mono ag.size);exact h1.trans (al.mono h1.size)
 apply_assumption
 go_wp2_with(go_at_call 10;refine(IU _ _).mono ?_;rintro e w9 ⟨rfl,rfl⟩);go_ret;exact⟨rfl,HF.out⟩
end
variable{w W:ay}
def Jm{a:ay}(h:aC w.heap.size w a):dG w a:=⟨h.os,h.tape,h.output,h.size,λk b _=>h.block k b⟩
def eLf(q:Pr):Lf:=TY (q.1:Int) (q.2:Int)
structure OY(w W:ay)(l:List Tm)(c:Ks)(v:aA)(rq qs:List Pr):Prop where
 kB:aC w.heap.size w W
 cl:Cl W w.heap.size l c qs
 row:bD W w.heap.size 36 4 v (bB rq) ((rq.map eLf).flatMap kW)
 sep:∀k,aP v=ah k->¬c.nO k
variable{l:List Tm}{c:Ks}{v:aA}{rq qs:List Pr}
def OY.below{W':ay}(h:OY w W l c v rq qs)(a:aC W.heap.size W W'):OY w W' l c v rq qs:=
 ⟨h.kB.trans (a.mono h.kB.size),h.cl.dF (Jm a),ew h.row a,h.sep⟩
theorem OY.push{W1 w8:ay}{v8:aA}(h:OY w W l c v rq qs)(q)(i:aC W.heap.size W W1)(f:bD w8 w.heap.size 36 4 v8 (bB rq+1) ((rq.map eLf).flatMap kW++[iz 0,iz q.1,iz q.2,aj ai 0 0]))(d:W1.grownBy w8 (aP v))(j:aP v8=aP v∨∀k,aP v8=ah k->W1.heap.size<=k):OY w w8 l c v8 (rq++[q]) qs:=by
 have b:=h.below i;have K:bI (λk=>aP v=ah k) W1 w8:=gA (bW _ W1) d λk e=>e;refine⟨b.kB.trans (K.below b.kB.size λk e=>(dI b.row e).1),b.cl.keep K λk g e=>b.sep k e g,?_,λk g e=>?_⟩
 .rw[cR,fZ,mZ];exact f
 obtain a|a:=j
 .exact b.sep k (a▸g) e
 have m:=a k g;have n:=b.cl.pj e;omega
theorem OY.merge(h:OY w W l c v rq qs){a b:Nat}(q:a<bB l)(f:b<bB l)(r:bB qs<=1048576):
  aB prog 7 #[pz c.pc,iz a,iz b] W λe n=>e=aw (iz (tt l a b))∧∃d:Ks,d.pc=c.pc∧OY w n l d v rq (qs++[(a,b)]):=by
 refine(Qs (hz w) h.cl (a:Int) (b:Int) bO).mono ?_;rintro e n ⟨rfl,d,i,j,hp,p⟩;have o:qP l qs (a:Int) (b:Int)=qs++[(a,b)]:=by unfold qP;rw[cY (by rw[lN q,lN f];rfl)];rfl
 rw[o] at i;refine⟨rfl,d,hp,h.kB.trans (j.below h.kB.size λk g=>h.cl.tB g),i,eP h.row λb f=>j.block b (dI h.row f).2 λe=>h.sep b f e.all,λk g e=>?_⟩;obtain m|m:=p k e
 .exact h.sep k g m
 have:=(dI h.row g).2;omega
theorem MS(w:ay)(a b c d:aA)(f:TypeId):∀j u,[a,b,c,d][j]?=ah u->aU (bC w (aq #[a,b,c,d] f)) ((az w.heap.size 0:aD).add j)=ah u:=by intro j u g;have h:=ey w #[a,b,c,d] f;have e:=(bU.1 g).1;rw[j9,fM,h.cell (i:=j) (by simpa using e)];grind
def nP(p:Int×Int):Pr:=(p.1.toNat,p.2.toNat)
def InP(n:Nat)(p:Int×Int):Prop:=(0<=p.1∧p.1<n)∧0<=p.2∧p.2<n
theorem InP.n{n:Nat}{p:Int×Int}(h:InP n p):uf n (nP p):=by obtain⟨⟨a,b⟩,d,e⟩:=h;unfold uf nP;simp only;omega
theorem abu{w}{a1 a2}(a6 dg){ss}{ps:List (Int×Int)}(x y)(hT:WK w a1 ss)(hm:bB ss<=maxLen)(hP:Xn w a2 ps)(dx:bB ps<=1048576):
  aB prog 3 #[aj a1 (bB ss) a6,aj a2 (bB ps) dg,iz x,iz y] w λe f=>e=aw (.bool aK)∧aC w.heap.size w f:=by
 have LD:=YI a6 hT hm;have cj:aB prog 4 #[aj a1 (bB ss) a6] w λe f=>∃p l aa ac,e=aw (.tuple #[pz p,.slice aa (bB (l:List Tm)) ac])∧Hid ((∃ev nb fb,Bk f w.heap.size p ev nb fb l)∧Cc.Bd l∧bB l<=150∧aC w.heap.size w f):=by refine LD.mono ?_;rintro e w1 ⟨p,ev,nb,fb,l,q,av,vs,rfl,D⟩;obtain⟨aa,ac,rfl⟩:=D.r.ls.form;exact⟨p,l,aa,ac,rfl,⟨_,_,_,D.b⟩,D.bd,D.kl.len,D.kB⟩
 have cb:Hid (∀(W:ay)(p:Nat)(l:List Tm),((∃ev nb fb,Bk W w.heap.size p ev nb fb l)∧Cc.Bd l∧bB l<=150∧aC w.heap.size w W)->aB prog 5 #[pz p] W λe f=>∃c:Ks,e=aw (pz c.pc)∧Hid (OY W f l c (aj ai 0 0) [] [])):=by rintro W p l ⟨⟨ev,nb,fb,hB⟩,hb,hl,dA⟩;refine(AQ hB hb hl).mono ?_;rintro e f ⟨c,rfl,C,K⟩;exact⟨c,rfl,K.kB,C,⟨rfl,cB ⟨rfl,rfl⟩⟩,λk e=>by cases e⟩
 have HP:=bL hP;obtain⟨pn,bj⟩:=bJ (bB ps);have al:=bL bj;rw[bj] at dx⊢;clear LD hP hT hm bj;go_enter func3,ntmps3
 go_wp2_with(first|(go_at_call 4;refine cj.mono ?_;rintro e w1 ⟨p,l,aa,ac,rfl,H1⟩)|(go_at_call 5;refine(cb.out _ _ _ H1.out).mono ?_;rintro e w2 ⟨c,rfl,H2⟩;refine dM ?_));delta aH;have de:Hid (OY w1 w2 l c (aj ai 0 0) ((ps.take 0).map nP) ((ps.take 0).map nP)∧∀p∈ps.take 0,InP (bB l) p):=⟨H2.out,λp hp=>by simp at hp⟩
 have cx:=H1.out.2.2.2.size;obtain⟨d,ap⟩:=bJ (bB l);have P:=bL ap;have ds:d<=150:=by rw[<-ap];exact H1.out.2.2.1
 simp only[ap];clear cj cb H2 ap;obtain⟨i0,dm,d2,d4,d6⟩:=eB Ez;apply_assumption
 go_wp2
 go_loopw[12,13] (λd7 b6 W=>∃(k:Nat)(c':Ks),k<=pn∧b6=iz k∧c'.pc=c.pc∧Hid (OY w1 W l c' d7 ((ps.take k).map nP) ((ps.take k).map nP)∧∀p∈ps.take k,InP (bB l) p)) λ_ b6 _=>pn-(aG b6).toNat
 case atStart=>grind
 case round=>
  obtain⟨k,c',hk,rfl,c8,g⟩:=hrel;clear de;have cd:=bL c8;clear c8;have H:=g.out.1.kB;by_cases c7:k<pn
  .have dk:=bM k pn;have dE:=fq (a:=k) bO;have U:k<bB ps:=by rw[al.out];exact c7
   have bb:=bP U;obtain⟨b,ea,e,d9,q1,q2⟩:=HP.out k _ bb;subst e;have be:∀{a:aD}{u:aA},aU w a=ah u->aU wr a=ah u:=λhc=>by have h1:=(H1.out.2.2.2.cell (cV w _ hc)).trans hc;exact(H.cell (cV w1 _ h1)).trans h1
   have q1:=be q1;have q2:=be q2;have S:aC w.heap.size w wr:=H1.out.2.2.2.trans (H.mono cx);have AL:=wY wr;have j:=bL S;have a5:=bL bb;clear be S bb;by_cases o:InP d ps[k]
   .obtain⟨a,I,he,ha,hb⟩:∃a b:Nat,ps[k]=((a:Int),(b:Int))∧a<d∧b<d:=by
     obtain⟨⟨p1,p2⟩,p3,p4⟩:=o;exact⟨ps[k].1.toNat,ps[k].2.toNat,by rw[ng p1,ng p3],by omega,by omega⟩
    have O:=bL o;rw[he] at q1 q2 a5 O;clear he o;have bc:=a5.out;simp only at q1 q2;have d1:aM ((a:Int)<0)=aL:=cP bO;have di:aM (d<=a)=aL:=cP bO;have d3:aM ((I:Int)<0)=aL:=cP bO;have dj:aM (d<=I)=aL:=cP bO;have da:(ps.take (k+1)).map nP=(ps.take k).map nP++[(a,I)]:=by rw[dJ,bc,fE,fZ];rfl
    have ad:bB ((ps.take k).map nP)=k:=by rw[eG,fB,al.out];omega
    have a3:∀p∈ps.take (k+1),InP (bB l) p:=λp hp=>by
     rw[dJ,bc,fE] at hp;obtain hp|hp:=cU.1 hp
     .exact g.out.2 p hp
     rw[dL] at hp;subst hp;rw[P.out];exact O.out
    obtain⟨va,vc,b0⟩:=dZ g.out.1.row;subst b0;have ag:=g.out.1.row;rw[ad] at ag⊢;have dN:=g.out.1.kB.size;have ce:Hid (∀(w8:ay)(v8:aA),bD w8 w1.heap.size 36 4 v8 (k+1) ((((ps.take k).map nP).map eLf).flatMap kW++[iz 0,iz a,iz I,aj ai 0 0])->(bC wr (aq #[iz 0,iz a,iz I,aj ai 0 0] 36)).drew.grownBy w8 (aP (aT va k vc))->(aP v8=aP (aT va k vc)∨∀k,aP v8=ah k->(bC wr (aq #[iz 0,iz a,iz I,aj ai 0 0] 36)).drew.heap.size<=k)->OY w1 w8 l c' v8 ((ps.take k).map nP++[(a,I)]) ((ps.take k).map nP)):=λw8 v8 o8 g8 l8=>by have:=g.out.1;rw[ad] at this;exact this.push (a,I) (nK wr _) (by rw[ad];exact o8) g8 l8
    have a4:=bL (b9 a3 da);clear g a3 da H bc AL O
    go_wp2;go_region_law(first|(refine fe rfl (.tmp 70) (.tmp 83) 30 rfl w1.heap.size 36 i0 _ 4 48 underlying30 dm d2 d4 d6 rfl bS (aj va k vc) k ((((ps.take k).map nP).map eLf).flatMap kW) iC (by exact fT ag _) (az wr.heap.size 0) 1 1 [iz 0,iz a,iz I,aj ai 0 0] iC rfl (MS wr _ _ _ _ _) cM cJ bO bX ?_;intro v8 w8 Y G X;have E8:=ce.out w8 v8 Y G X;have HF:=bL E8;clear Y G X E8));all_goals
     try simp only[Act.put,cD,cw,ct,cf,cN,cK]
     have ba:∀{a:aD}{u:aA},aU w a=ah u->aU w8 a=ah u:=λhc=>by have h1:=(H1.out.2.2.2.cell (cV w _ hc)).trans hc;exact(HF.out.kB.cell (cV w1 _ h1)).trans h1
     obtain⟨bx,ox,ex,_,t1,t2⟩:=HP.out k _ a5.out;cases ex
     have t1:=ba t1;have t2:=ba t2;simp only at t1 t2;have MG:Hid (∀m,aB prog 7 #[pz c.pc,iz a,iz I] (w8.drewN m) λe f=>e=aw (iz (tt l a I))∧∃c2:Ks,c2.pc=c.pc∧Hid (OY w1 f l c2 v8 ((ps.take (k+1)).map nP) ((ps.take (k+1)).map nP)∧∀p∈ps.take (k+1),InP (bB l) p)):=λm=>by have E8:=HF.out.below (W':=w8.drewN m) ⟨rfl,rfl,rfl,bT _,λ_ _=>rfl⟩;rw[<-cd.out];refine(E8.merge (a:=a) (b:=I) (by rw[P.out];exact ha) (by rw[P.out];exact hb) (by rw[ad];omega)).mono ?_;rintro e f ⟨he,c2,a9,E2⟩;rw[<-a4.out.2] at E2;exact⟨he,c2,a9,E2,a4.out.1⟩
     clear ba HF a4 ce ag q1 q2 ad
     go_wp2
     go_region_with(go_at_call 7;refine(MG.out 1).mono ?_;rintro e w9 ⟨rfl,c2,a9,H9⟩)
     all_goals
      go_wp2;exact⟨⟨k+1,c2,c7,by simp,a9,H9⟩,by simp[aG];omega⟩
   have bR:=bL o;generalize ps[k]=p at *;obtain⟨A,B⟩:=p;simp only at q1 q2;have bi:aM (A<0)=aK∨(aM (A<0)=aL∧aM ((d:Int)<=A)=aK)∨(aM (A<0)=aL∧aM ((d:Int)<=A)=aL∧aM (B<0)=aK)∨(aM (A<0)=aL∧aM ((d:Int)<=A)=aL∧aM (B<0)=aL∧aM ((d:Int)<=B)=aK):=by
    have h9:¬((0<=A∧A<d)∧0<=B∧B<d):=bR.out;by_cases g1:A<0
    .exact cB (cZ g1)
    refine cI ?_;by_cases g2:(d:Int)<=A
    .exact cB ⟨cP g1,cZ g2⟩
    refine cI ?_;by_cases g3:B<0
    .exact cB ⟨cP g1,cP g2,cZ g3⟩
    exact cI ⟨cP g1,cP g2,cP g3,cZ bO⟩
   clear g H bR;obtain e1|⟨e1,e2⟩|⟨e1,e2,e3⟩|⟨e1,e2,e3,e4⟩:=bi;all_goals
    go_wp2_with(go_at_call 6;refine AL.mono ?_;rintro e s ⟨rfl,B5⟩);go_ret;exact⟨rfl,j.out.trans (B5.mono j.out.size)⟩
  have dk:=bN k pn;obtain rfl:k=pn:=bO
  have cE:ps.take k=ps:=eF (by rw[al.out];exact bT _);rw[cE] at g;have S:aC w.heap.size w wr:=H1.out.2.2.2.trans (H.mono cx);have j:=bL S;have AL:=wY wr;obtain⟨va,vc,b0⟩:=dZ g.out.1.row;subst b0;have Z:bB (ps.map nP)=k:=by rw[eG];exact al.out
  rw[Z];clear cE S H;by_cases o:(0<=x∧x<d)∧(0<=y∧y<d)∧k<600
  .obtain⟨⟨dc,dz⟩,⟨dd,d0⟩,dC⟩:=o;obtain⟨z,rfl⟩:∃n:Nat,x=(n:Int):=⟨x.toNat,(ng dc).symm⟩
   obtain⟨E,rfl⟩:∃n:Nat,y=(n:Int):=⟨y.toNat,(ng dd).symm⟩
   have d1:aM ((z:Int)<0)=aL:=cP bO;have di:aM (d<=z)=aL:=cP bO;have d3:aM ((E:Int)<0)=aL:=cP bO;have dj:aM (d<=E)=aL:=cP bO;have d5:aM ((600:Int)<=(k:Int))=aL:=cP bO;obtain⟨⟨ev,nb,fb,a7⟩,T,ao,cy⟩:=H1.out;have hq:∀q∈ps.map nP,uf (bB l) q:=λq hq=>by obtain⟨p',dv,rfl⟩:=gI.1 hq;exact(g.out.2 p' dv).n
   have ab:=g.out.1.row;rw[Z] at ab;obtain⟨ks,s1,s2,s3⟩:=Fy (N:=bB l) (ts:=(ps.map nP).map eLf) (by rw[eG,Z];exact ab) (λt ht=>by obtain⟨q,dy,rfl⟩:=gI.1 ht;have:=hq q dy;exact TX ⟨by omega,by have:=this.1;omega⟩ ⟨by omega,by have:=this.2;omega⟩)
   have he:ks.map Lf.er=(ps.map nP).map lG:=by rw[s2,kL];refine lh λq _=>?_;simp[eLf,TY,Lf.er,lG,Fo.eq]
   have U:bB ks=k:=by rw[s3,eG,Z]
   rw[<-U] at s1;have F:=a7.below a7.low g.out.1.kB;have DY:=C5 w.heap.size F T ao va _ (QX ao hq bO s1 he) bO (QW T hq bO);rw[U] at DY;have b7:aB prog 8 #[pz p,aj va k vc] wr λe f=>∃J M L,e=aw (.tuple #[.agg #[.bool aK,aj J M L,aj ai 0 0],iz 0])∧Hid (aC wr.heap.size wr f):=by refine DY.mono ?_;rintro e f ⟨J,M,L,rfl,h9⟩;exact⟨J,M,L,rfl,h9⟩
   have h0:uf (bB l) (z,E):=⟨by rw[P.out];omega,by rw[P.out];omega⟩
   obtain⟨PF,d8,co,cr⟩:=JP T ao hq bO h0;have cv:lW (bB l) c'.z.g (z:Int) (E:Int)=tC l (ps.map nP) (z:Int) (E:Int):=g.out.1.cl.lW _ _;have cp:(tC l (ps.map nP) (z:Int) (E:Int)=aK)↔Cc.Cg l (ps.map nP) z E:=by unfold tC;rw[lN h0.1,lN h0.2];simp
   have b8:Hid (∀V,aC wr.heap.size wr V->aB prog 9 #[pz p,aj va k vc,.agg #[iz 0,iz z,iz E,aj ai 0 0]] V λe f=>e=aw (.tuple #[.bool (lW (bB l) c'.z.g (z:Int) (E:Int)),iz 0])∧Hid (aC V.heap.size V f)):=λV hV=>by have FO:=JV (F.below F.low hV) T ao vc (s1.below hV) (by rw[VP he,Z];omega) (z:Int) (E:Int) ⟨by omega,by have:=h0.1;omega⟩ ⟨by omega,by have:=h0.2;omega⟩ (by rw[he];exact co) (lW (bB l) c'.z.g (z:Int) (E:Int)) (adm (λr Q h=>by rw[cv,cp];exact h) 2 PF cr);rw[U] at FO;exact FO.mono λe f h=>⟨h.1,h.2⟩
   have ch:Hid (∀V,aC wr.heap.size wr V->aB prog 11 #[pz c.pc,iz z,iz E] V λe f=>e=aw (.bool (lW (bB l) c'.z.g (z:Int) (E:Int)))∧Hid (aC V.heap.size V f)):=λV hV=>by have SA:=Jn (g.out.1.cl.dF (Jm hV)) (z:Int) (E:Int);rw[cd.out] at SA;refine SA.mono ?_;rintro e f ⟨rfl,m,rfl⟩;exact⟨rfl,⟨rfl,rfl,rfl,bT _,λ_ _=>rfl⟩⟩
   generalize lW (bB l) c'.z.g (z:Int) (E:Int)=sb at *;clear cv cp cr co DY F s1 s2 s3 he ab hq a7 T cy g AL dc dz dd d0
   go_wp2_with(go_at_call 8;refine b7.mono ?_;rintro e s ⟨J,M,L,rfl,H5⟩;refine dM ?_);delta aH;have AN:=ey s #[.bool aK,aj J M L,aj ai 0 0] 41;have cm:aC s.heap.size s (bC s (aq #[.bool aK,aj J M L,aj ai 0 0] 41)):=(cW _ _).alloc (bT _) _;have an:aC wr.heap.size wr (bC s (aq #[.bool aK,aj J M L,aj ai 0 0] 41)):=H5.out.trans (cm.mono H5.out.size);have db:aU (bC s (aq #[.bool aK,aj J M L,aj ai 0 0] 41)) (az s.heap.size 2)=ah (aj ai 0 0):=AN.cell (i:=2) bQ;have bo:aU (bC s (aq #[.bool aK,aj J M L,aj ai 0 0] 41)) (az s.heap.size 0)=ah (.bool aK):=AN.cell (i:=0) bQ;have c6:=AN.frozen 2;have c9:aW (bC s (aq #[.bool aK,aj J M L,aj ai 0 0] 41)) (az s.heap.size 2) (aj ai 0 0)=bC s (aq #[.bool aK,aj J M L,aj ai 0 0] 41):=aey
   obtain⟨V,hV⟩:=bJ (bC s (aq #[.bool aK,aj J M L,aj ai 0 0] 41));rw[hV] at an db c6 c9 bo;have FL:=b8.out V an;have R:=bL (b9 bo an);clear b7 b8 AN cm H5 bo an;apply_assumption
   go_wp2_with(go_at_call 9;refine FL.mono ?_;rintro e w6 ⟨rfl,H6⟩;refine dM ?_);delta aH;have a0:=(H6.out.cell (cV V _ R.out.1)).trans R.out.1;have a8:aC wr.heap.size wr w6:=R.out.2.trans (H6.out.mono R.out.2.size);have SA:=ch.out w6 a8;have ci:=bL a8;clear FL ch db c6 c9 hV R a8 H6;apply_assumption
   go_wp2_with(first|(go_at_call 10;refine(IU _ _).mono ?_;rintro e w9 ⟨rfl,rfl⟩)|(go_at_call 11;refine SA.mono ?_;rintro e w7 ⟨rfl,H7⟩;have AL:=wY w7)|(go_at_call 6;refine AL.mono ?_;rintro e w8 ⟨rfl,B8⟩));go_ret;have ck:=ci.out.trans (H7.out.mono ci.out.size);have dl:=ck.trans (B8.mono ck.size);exact⟨rfl,j.out.trans (dl.mono j.out.size)⟩
  have bi:aM (x<0)=aK∨(aM (x<0)=aL∧aM ((d:Int)<=x)=aK)∨(aM (x<0)=aL∧aM ((d:Int)<=x)=aL∧aM (y<0)=aK)∨(aM (x<0)=aL∧aM ((d:Int)<=x)=aL∧aM (y<0)=aL∧aM ((d:Int)<=y)=aK)∨(aM (x<0)=aL∧aM ((d:Int)<=x)=aL∧aM (y<0)=aL∧aM ((d:Int)<=y)=aL∧aM ((600:Int)<=(k:Int))=aK∧aM (600<=k)=aK):=by
   by_cases g1:x<0
   .exact cB (cZ g1)
   refine cI ?_;by_cases g2:(d:Int)<=x
   .exact cB ⟨cP g1,cZ g2⟩
   refine cI ?_;by_cases g3:y<0
   .exact cB ⟨cP g1,cP g2,cZ g3⟩
   refine cI ?_;by_cases g4:(d:Int)<=y
   .exact cB ⟨cP g1,cP g2,cP g3,cZ g4⟩
   exact cI ⟨cP g1,cP g2,cP g3,cP g4,cZ bO,cZ bO⟩
  clear g o;obtain e1|⟨e1,e2⟩|⟨e1,e2,e3⟩|⟨e1,e2,e3,e4⟩|⟨e1,e2,e3,e4,e5,e6⟩:=bi;all_goals
   go_wp2_with(go_at_call 6;refine AL.mono ?_;rintro e s ⟨rfl,B5⟩);go_ret;exact⟨rfl,j.out.trans (B5.mono j.out.size)⟩
