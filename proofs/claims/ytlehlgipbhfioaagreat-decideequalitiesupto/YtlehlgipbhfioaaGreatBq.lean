import Derived.Test.YtlehlgipbhfioaaGreatBm
namespace Go.Proofs.YtlehlgipbhfioaaGreat
set_option maxHeartbeats 4000000
set_option linter.all false
open Go.RowKit Go.Proofs.Tryz
open Go.Value renaming int->ae
open Go.IntKind renaming i64->af
open Go.Ending renaming returned->aw
open Option renaming some->ah
open Bool renaming true->aK,false->aL
open Go.World renaming setCell->aW,cell?->aU,drewN->bF
open Decidable renaming decide->aM
open Go renaming Calls->aB,World->ay,Value->aA
open Go.RowKit renaming intOf->aG
def rrC(s:ByteArray)(i:Nat)(av:aA)(e a:Nat)(j:Nat):aA:=if j=0 then .string s else if j=1 then ae af i else if j=2 then av else if j=3 then ae af e else ae af a
structure Rr(w:ay)(r:Nat)(s:ByteArray)(i:Nat)(av:aA)(e a:Nat):Prop where
 row:w.rowIs r 91 5 (rrC s i av e a)
 le:i<=s.size
 small:s.size<=400
variable{w:ay}{r i e a:Nat}{s:ByteArray}{av:aA}
def Rr.c0(h:Rr w r s i av e a):cz w r 0 (.string s):=h.row.cell bO
def Rr.c1(h:Rr w r s i av e a):cz w r 1 (iz i):=h.row.cell (i:=1) bO
def Rr.c2(h:Rr w r s i av e a):cz w r 2 av:=h.row.cell (i:=2) bO
def Rr.c3(h:Rr w r s i av e a):cz w r 3 (iz e):=h.row.cell (i:=3) bO
def Rr.c4(h:Rr w r s i av e a):cz w r 4 (iz a):=h.row.cell (i:=4) bO
def Rr.drewN(h:Rr w r s i av e a)(m):Rr (bF w m) r s i av e a:=⟨h.row,h.le,h.small⟩
def Rr.of_block{b:ay}(h:Rr w r s i av e a)(c:b.heap[r]?=w.heap[r]?):Rr b r s i av e a:=⟨h.row.of_block c,h.le,h.small⟩
theorem Rr.step(h:Rr w r s i av e a){k:Nat}(b:k<=s.size):Rr (aW w (az r 1) (iz k)) r s k av e a:=
 ⟨(h.row.set 1 _).congr (λj c=>by grind[rrC]),b,h.small⟩
theorem Rr.err(h:Rr w r s i av e a)(c q:Nat):Rr (aW (aW w (az r 3) (iz c)) (az r 4) (iz q)) r s i av c q:=
 ⟨((h.row.set 3 _).set 4 _).congr (λj b=>by grind[rrC]),h.le,h.small⟩
theorem Rr.list(h:Rr w r s i av e a)(v):Rr (aW w (az r 2) v) r s i v e a:=
 ⟨(h.row.set 2 _).congr (λj b=>by grind[rrC]),h.le,h.small⟩
def EF(e c:Nat):Nat:=if e=0 then c else e
def EG(e a q:Nat):Nat:=if e=0 then q else a
theorem kq(w:ay)(a:Nat)(h:Rr w r s i av e a)(c q:Nat):
  aB prog 31 #[pz r,iz c,iz q] w λx j=>x=aw (.tuple #[])∧Rr j r s i av (EF e c) (EG e a q)∧dV r w j:=by
 have c3:=h.c3;have c4:=h.c4;have k:=h.row.frozen 3;have l:=h.row.frozen 4;by_cases b:e=0
 .subst b;have f:EF 0 c=c:=rfl;have g:EG 0 a q=q:=rfl;go_enter func31,ntmps31
  go_wp2
  go_end0
  exact⟨rfl,by rw[f,g];exact h.err c q,eH (eH (bW _ w) _ _) _ _⟩
 have d:((e:Int)==0)=aL:=gB.2 bO;have f:EF e c=e:=cC b;have g:EG e a q=a:=cC b;go_enter func31,ntmps31
 go_wp2
 go_end0
 grind[bI.refl]
theorem IC(w:ay)(c:Nat):
  aB prog 106 #[.int .u8 c] w λe b=>e=aw (.bool (isLet c))∧w=b:=by
 go_enter func106,ntmps106
 go_wp2
 .go_ret;exact⟨fr (Jq ‹_›),rfl⟩
 go_ret;exact⟨fr (Jp ‹_›),rfl⟩
theorem wG(w:ay)(c:Nat):
  aB prog 107 #[.int .u8 c] w λe b=>e=aw (.bool (lK c))∧w=b:=by
 go_enter func107,ntmps107
 go_wp2
 .go_ret;exact⟨fr (Js ‹_›),rfl⟩
 go_ret;exact⟨fr (Jr ‹_›),rfl⟩
theorem qL{w}{r}{s}{i}{av}{e a}(h:Rr w r s i av e a):
  aB prog 30 #[pz r] w λx j=>x=aw (.tuple #[])∧Rr j r s (bl s i) av e a∧dV r w j:=by
 have hs:=h.small;go_enter func30,ntmps30
 go_wp2
 go_loopw[] (λW=>∃k:Nat,Rr W r s k av e a∧Hid (bl s k=bl s i)∧Hid (dV r w W)) λW=>s.size-(match aU W (az r 1) with|some v=>(aG v).toNat|none=>0)
 case atStart=>exact⟨i,h,rfl,bW _ w⟩
 case round=>
  obtain⟨k,b,g,f⟩:=hrel;have c1:=b.c0;have c2:=b.c1;have n:=b.row.frozen 1;have m:=b.le;by_cases c:k<s.size
  .by_cases d:ji s k=32
   .have l:(s[k]).toNat=32:=(mv c).trans d
    go_wp2;go_quiet(fail)
    go_wp2;refine⟨⟨k+1,?_,(EK c d).symm.trans g,eH (f.drewN _) _ _⟩,?_⟩
    .have:=(b.drewN nq).step (k:=k+1) bO;simpa using this
    have o:=((b.drewN nq).step (k:=k+1) bO).c1;grind[aG]
   have l:¬(s[k]).toNat=32:=λe=>d ((mv c).symm.trans e)
   go_wp2;go_quiet(fail)
   go_wp2
   go_end0
   have e:bl s i=k:=g.symm.trans (tD λx=>d x.2);exact⟨rfl,e▸b.drewN nq,dR f nq⟩
  go_wp2;go_quiet(fail)
  go_wp2
  go_end0
  have e:bl s i=k:=g.symm.trans (tD λx=>c x.1);exact⟨rfl,e▸b.drewN nq,dR f nq⟩
def Ex(s:ByteArray)(i e c:Nat):Bool:=aM (e=0)&&ix s (bl s i) c
theorem aaT(h:Rr w r s i av e a)(c:Nat):
  aB prog 108 #[pz r,.int .u8 c] w λx o=>x=aw (.bool (Ex s i e c))∧Rr o r s (bl s i) av e a∧dV r w o:=by
 have q:=jV h.le;have j:=qL h;by_cases n:e=0
 .subst n;by_cases k:bl s i<s.size
  .by_cases l:ji s (bl s i)=c
   .have p:(s[bl s i]).toNat=c:=(mv k).trans l;have g:Ex s i 0 c=aK:=by simp[Ex,pG k l]
    go_enter func108,ntmps108
    go_wp2_with(go_at_call 30;refine j.mono ?_;rintro e m ⟨rfl,b,f⟩;have c0:=b.c0;have c1:=b.c1;have c3:=b.c3);go_quiet(fail)
    go_wp2;go_ret;exact⟨fr g.symm,b.drewN nq,dR f nq⟩
   have p:¬(s[bl s i]).toNat=c:=λe=>l ((mv k).symm.trans e);have t:(((s[bl s i]).toNat:Int)==(c:Int))=aL:=gB.2 bO;have g:Ex s i 0 c=aL:=by simp[Ex,yF l]
   go_enter func108,ntmps108
   go_wp2_with(go_at_call 30;refine j.mono ?_;rintro e m ⟨rfl,b,f⟩;have c0:=b.c0;have c1:=b.c1;have c3:=b.c3);go_quiet(fail)
   go_wp2;go_ret;exact⟨fr g.symm,b.drewN nq,dR f nq⟩
  have g:Ex s i 0 c=aL:=by simp[Ex,wC k]
  go_enter func108,ntmps108
  go_wp2_with(go_at_call 30;refine j.mono ?_;rintro e m ⟨rfl,b,f⟩;have c0:=b.c0;have c1:=b.c1;have c3:=b.c3);go_quiet(fail)
  go_wp2;go_ret;exact⟨fr g.symm,b.drewN nq,dR f nq⟩
 have d:((e:Int)==0)=aL:=gB.2 bO;have g:Ex s i e c=aL:=by simp[Ex,n]
 go_enter func108,ntmps108
 go_wp2_with(go_at_call 30;refine j.mono ?_;rintro e m ⟨rfl,b,f⟩;have c0:=b.c0;have c1:=b.c1;have c3:=b.c3);go_quiet(fail)
 go_wp2;go_ret;exact⟨fr g.symm,b.drewN nq,dR f nq⟩
def za(s:ByteArray)(i e c:Nat):Nat:=if Ex s i e c then bl s i+1 else bl s i
theorem abb{c:Nat}(h:Ex s i e c=aK):bl s i<s.size:=by simp[Ex,ix] at h;exact h.2.1
theorem kS(a:Nat)(h:Rr w r s i av e a)(c:Nat):
  aB prog 62 #[pz r,.int .u8 c] w λx l=>x=aw (.bool (Ex s i e c))∧Rr l r s (za s i e c) av e a∧dV r w l:=by
 have hs:=h.small;have d:=aaT h c;cases b:Ex s i e c with
 |true=>
  rw[b] at d;have m:=abb b;have j:za s i e c=bl s i+1:=by simp[za,b]
  go_enter func62,ntmps62
  go_wp2_with(go_at_call 108;refine d.mono ?_;rintro e n ⟨rfl,f,g⟩;have c1:=f.c1;have o:=f.row.frozen 1);go_ret;have:=f.step (k:=bl s i+1) bO;refine⟨rfl,by rw[j];simpa using this,eH g _ _⟩
 |false=>
  rw[b] at d;have j:za s i e c=bl s i:=by simp[za,b]
  go_enter func62,ntmps62
  go_wp2_with(go_at_call 108;refine d.mono ?_;rintro e n ⟨rfl,f,g⟩);go_ret;simp_all
def Dh(w:ay)(r:Nat)(av:aA)(s:ByteArray)(i e a:Nat)(x:Ending)(w':ay):Prop:=
 x=aw (.tuple #[.string (s.extract (bl s i) (kK s (bl s i))),ae af (bl s i:Int)])∧dV r w w'∧
  (if gX s (bl s i)=aK then Rr w' r s (kK s (bl s i)) av (EF e 2) (EG e a (bl s i)) else Rr w' r s (kK s (bl s i)) av e a)
theorem BN{w}{r}{s}{i}{av}{e a}(h:Rr w r s i av e a):
  aB prog 61 #[pz r] w (Dh w r av s i e a):=by
 have hs:=h.small;have R:=qL h;have Q:=jV h.le;unfold Dh;generalize X:bl s i=p at *;go_enter func61,ntmps61
 go_wp2_with(go_at_call 30;refine R.mono ?_;rintro e E ⟨rfl,P,S⟩;have c1:=P.c1)
 go_loopw[] (λW=>∃k:Nat,Rr W r s k av e a∧Hid (kK s k=kK s p)∧Hid (dV r w W)) λW=>s.size-(match aU W (az r 1) with|some v=>(aG v).toNat|none=>0)
 case atStart=>exact⟨p,P,rfl,S⟩
 case round=>
  obtain⟨k,l,J,I⟩:=hrel;have c0:=l.c0;have c1:=l.c1;have Y:=l.row.frozen 1;have V:=l.le;by_cases F:k<s.size
  .have T:aM ((k:Int)<s.size)=aK:=cZ bO;have o:∀m,aB prog 106 #[.int .u8 ((s[k]).toNat:Nat)] (bF wr m) λe D=>e=aw (.bool (isLet (ji s k)))∧D=bF wr m:=λm=>(IC _ _).mono λ_ _ x=>⟨by rw[x.1,mv F],x.2.symm⟩;have y:∀m,aB prog 107 #[.int .u8 ((s[k]).toNat:Nat)] (bF wr m) λe D=>e=aw (.bool (lK (ji s k)))∧D=bF wr m:=λm=>(wG _ _).mono λ_ _ x=>⟨by rw[x.1,mv F],x.2.symm⟩;cases hl:isLet (ji s k) with
   |true=>
    rw[hl] at o;have A:tW (ji s k)=aK:=by simp[tW,hl]
    go_wp2;go_quiet((go_at_call 106;exact eN (o _)))
    go_wp2;refine⟨⟨k+1,?_,(uJ F A).symm.trans J,eH (I.drewN _) _ _⟩,?_⟩
    .have:=(l.drewN nq).step (k:=k+1) bO;simpa using this
    .have A:=((l.drewN nq).step (k:=k+1) bO).c1;have B:aU (aW (bF wr nq) (az r 1) (iz ((k:Int)+1))) (az r 1)=ah (iz ((k:Int)+1)):=by simpa using A
     rw[c1,B];simp only[aG];omega
   |false=>
    rw[hl] at o;cases L:lK (ji s k) with
    |true=>
     rw[L] at y;have A:tW (ji s k)=aK:=by simp[tW,L]
     go_wp2;go_quiet((first|(go_at_call 106;exact eN (o _))|(go_at_call 107;exact eN (y _))))
     go_wp2;refine⟨⟨k+1,?_,(uJ F A).symm.trans J,eH (I.drewN _) _ _⟩,?_⟩
     .have:=(l.drewN nq).step (k:=k+1) bO;simpa using this
     .have A:=((l.drewN nq).step (k:=k+1) bO).c1;have B:aU (aW (bF wr nq) (az r 1) (iz ((k:Int)+1))) (az r 1)=ah (iz ((k:Int)+1)):=by simpa using A
      rw[c1,B];simp only[aG];omega
    |false=>
     rw[L] at y;have A:tW (ji s k)=aL:=by simp[tW,hl,L]
     go_wp2;go_quiet((first|(go_at_call 106;exact eN (o _))|(go_at_call 107;exact eN (y _))));have j:kK s p=k:=J.symm.trans (rQ λx=>by have:=x.2;rw[A] at this;cases this);have O:p<=k:=j▸wM s p;have f:=λm=>kq (bF wr m) a (l.drewN m) 2 p;have g:∀m,dV r w (bF wr m):=λm=>dR I m;have u:=l.drewN;by_cases G:p=k
     .have b:gX s p=aK:=by rw[gX,j];simp[G]
      subst G
      go_wp2_with(go_at_call 31;refine(f _).mono ?_;rintro e H ⟨rfl,d,n⟩;have q:=d.c0;have t:=d.c1);go_quiet(fail)
      go_wp2;go_ret2
      try rw[j]
      exact⟨rfl,dR (gQ (g _) n) _,by first|exact d.drewN _|(rw[cY b];exact d.drewN _)⟩
     have U:((k:Int)==(p:Int))=aL:=gB.2 bO;have C:p<s.size:=bO
     have c:∀m,aB prog 107 #[.int .u8 ((s[p]).toNat:Nat)] (bF wr m) λe D=>e=aw (.bool (lK (ji s p)))∧D=bF wr m:=λm=>(wG _ _).mono λ_ _ x=>⟨by rw[x.1,mv C],x.2.symm⟩;cases z:lK (ji s p) with
     |true=>
      rw[z] at c;have b:gX s p=aK:=by simp[gX,z]
      go_wp2_with(first|(go_at_call 107;refine(c _).mono ?_;rintro e E ⟨rfl,rfl⟩)|(go_at_call 31;refine(f _).mono ?_;rintro e H ⟨rfl,d,n⟩;have q:=d.c0;have t:=d.c1));go_quiet(fail)
      go_wp2;go_ret2
      try rw[j]
      exact⟨rfl,dR (gQ (g _) n) _,by first|exact d.drewN _|(rw[cY b];exact d.drewN _)⟩
     |false=>
      rw[z] at c;by_cases N:6<k-p
      .have M:aM ((6:Int)<(k:Int)-p)=aK:=cZ bO;have b:gX s p=aK:=by rw[gX,j];simp[N]
       go_wp2_with(first|(go_at_call 107;refine(c _).mono ?_;rintro e E ⟨rfl,rfl⟩)|(go_at_call 31;refine(f _).mono ?_;rintro e H ⟨rfl,d,n⟩;have q:=d.c0;have t:=d.c1));go_quiet(fail)
       go_wp2;go_ret2
       try rw[j]
       exact⟨rfl,dR (gQ (g _) n) _,by first|exact d.drewN _|(rw[cY b];exact d.drewN _)⟩
      have M:aM ((6:Int)<(k:Int)-p)=aL:=cP bO;have b:¬gX s p=aK:=by rw[gX,j];simp[z];omega
      go_wp2_with(go_at_call 107;refine(c _).mono ?_;rintro e E ⟨rfl,rfl⟩);go_quiet(fail)
      go_wp2;go_ret2
      try rw[j]
      exact⟨rfl,g _,by first|exact u _|(rw[cC b];exact u _)⟩
  have T:aM ((k:Int)<s.size)=aL:=cP bO
  go_wp2;go_quiet(fail);have j:kK s p=k:=J.symm.trans (rQ λx=>F x.1);have O:p<=k:=j▸wM s p;have f:=λm=>kq (bF wr m) a (l.drewN m) 2 p;have g:∀m,dV r w (bF wr m):=λm=>dR I m;have u:=l.drewN;by_cases G:p=k
  .have b:gX s p=aK:=by rw[gX,j];simp[G]
   subst G
   go_wp2_with(go_at_call 31;refine(f _).mono ?_;rintro e H ⟨rfl,d,n⟩;have q:=d.c0;have t:=d.c1);go_quiet(fail)
   go_wp2;go_ret2
   try rw[j]
   exact⟨rfl,dR (gQ (g _) n) _,by first|exact d.drewN _|(rw[cY b];exact d.drewN _)⟩
  have U:((k:Int)==(p:Int))=aL:=gB.2 bO;have C:p<s.size:=bO
  have c:∀m,aB prog 107 #[.int .u8 ((s[p]).toNat:Nat)] (bF wr m) λe D=>e=aw (.bool (lK (ji s p)))∧D=bF wr m:=λm=>(wG _ _).mono λ_ _ x=>⟨by rw[x.1,mv C],x.2.symm⟩;cases z:lK (ji s p) with
  |true=>
   rw[z] at c;have b:gX s p=aK:=by simp[gX,z]
   go_wp2_with(first|(go_at_call 107;refine(c _).mono ?_;rintro e E ⟨rfl,rfl⟩)|(go_at_call 31;refine(f _).mono ?_;rintro e H ⟨rfl,d,n⟩;have q:=d.c0;have t:=d.c1));go_quiet(fail)
   go_wp2;go_ret2
   try rw[j]
   exact⟨rfl,dR (gQ (g _) n) _,by first|exact d.drewN _|(rw[cY b];exact d.drewN _)⟩
  |false=>
   rw[z] at c;by_cases N:6<k-p
   .have M:aM ((6:Int)<(k:Int)-p)=aK:=cZ bO;have b:gX s p=aK:=by rw[gX,j];simp[N]
    go_wp2_with(first|(go_at_call 107;refine(c _).mono ?_;rintro e E ⟨rfl,rfl⟩)|(go_at_call 31;refine(f _).mono ?_;rintro e H ⟨rfl,d,n⟩;have q:=d.c0;have t:=d.c1));go_quiet(fail)
    go_wp2;go_ret2
    try rw[j]
    exact⟨rfl,dR (gQ (g _) n) _,by first|exact d.drewN _|(rw[cY b];exact d.drewN _)⟩
   have M:aM ((6:Int)<(k:Int)-p)=aL:=cP bO;have b:¬gX s p=aK:=by rw[gX,j];simp[z];omega
   go_wp2_with(go_at_call 107;refine(c _).mono ?_;rintro e E ⟨rfl,rfl⟩);go_quiet(fail)
   go_wp2;go_ret2
   try rw[j]
   exact⟨rfl,g _,by first|exact u _|(rw[cC b];exact u _)⟩
