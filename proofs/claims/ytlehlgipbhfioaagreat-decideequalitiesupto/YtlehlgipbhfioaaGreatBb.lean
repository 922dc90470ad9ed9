import Derived.Test.YtlehlgipbhfioaaGreatQ0
import Derived.Test.YtlehlgipbhfioaaGreatProg
namespace Go.Proofs.YtlehlgipbhfioaaGreat
set_option linter.all false
open Go.Value renaming slice->aj
open Option renaming some->ah,none->ai
open Bool renaming false->aL
open List renaming length->bB
namespace Uf
structure Nd where
 par:Nat
 IQ:Nat
 sW:Nat
 rz:Nat
structure G where
 N:Nat->Nd
 rt:Nat->Nat
 dp:Nat->Nat
def lZ:Nat->(Nat->Bool)->Nat
 |0,_=>0
 |n+1,p=>lZ n p+(if p n then 1 else 0)
theorem Gv(n)(p:Nat->Bool):lZ n p<=n:=by
 induction n with
 |zero=>simp[lZ]
 |succ n a=>grind[lZ]
theorem Rl(n)(p q:Nat->Bool)(h:∀i,i<n->p i=q i):lZ n p=lZ n q:=by
 induction n with
 |zero=>rfl
 |succ n a=>grind[lZ]
theorem We(n)(p q:Nat->Bool)(h:∀i,i<n->¬(p i=true∧q i=true)):lZ n (λi=>p i||q i)=lZ n p+lZ n q:=by
 induction n with
 |zero=>rfl
 |succ n a=>grind[lZ]
theorem OH(n)(p q:Nat->Bool)(k)(a:k<n)(hp:p k=true)(b:q k=aL)(h:∀i,i<n->i≠k->p i=q i):lZ n q+1=lZ n p:=by
 induction n with
 |zero=>omega
 |succ n c=>grind[lZ,Rl]
theorem Gw(n)(p:Nat->Bool)(h:∀i,i<n->p i=true):lZ n p=n:=by
 induction n with
 |zero=>rfl
 |succ n a=>grind[lZ]
theorem Wf(n k)(b:k<n):lZ n (λi=>decide (i=k))=1:=by
 have h:=OH n (λi=>decide (i=k)) (λ_=>aL) k b bQ rfl (λi _ a=>by simp[a]);have z:∀m,lZ m (λ_=>aL)=0:=by
  intro m;induction m with
  |zero=>rfl
  |succ m c=>simp[lZ,c]
 grind
def g0:G:={N:=λi=>⟨i,i,1,i⟩,rt:=λi=>i,dp:=λ_=>0}
def lY(g:G)(c r:Nat):G:=
 {N:=λk=>if k=c then⟨r,(g.N r).IQ,(g.N c).sW,(g.N c).rz⟩ else if k=r then⟨(g.N r).par,(g.N c).IQ,(g.N r).sW+(g.N c).sW,min (g.N r).rz (g.N c).rz⟩ else g.N k
  rt:=λi=>if g.rt i=c then r else g.rt i
  dp:=λi=>if g.rt i=c then g.dp i+g.dp r+1 else g.dp i}
def G.lo(g:G)(i:Nat):Nat:=(g.N (g.rt i)).rz
structure Ok(n:Nat)(g:G)(k:Nat):Prop where
 Ug:∀i,i<n->(g.N i).par<n
 Fx:∀i,i<n->g.rt i<n
 root:∀i,i<n->(g.N i).par=i->g.rt i=i
 step:∀i,i<n->(g.N i).par≠i->g.rt (g.N i).par=g.rt i∧g.dp (g.N i).par<g.dp i
 top:∀i,i<n->(g.N (g.rt i)).par=g.rt i
 sW:∀i,i<n->g.rt i=i->(g.N i).sW=lZ n (λj=>decide (g.rt j=i))
 UL:∀i,i<n->g.lo i<=i
 Ql:∀i,i<n->g.rt (g.lo i)=g.rt i
 num:lZ n (λi=>decide (g.lo i=i))+k=n
theorem ack(n):Ok n g0 0:=by
 refine⟨λi h=>h,λi h=>h,λi _ _=>rfl,λi _ h=>absurd rfl h,λi _=>rfl,?_,λi _=>bT _,λi _=>rfl,?_⟩
 .intro i a _;exact(Wf n i a).symm
 simp_all[G.lo,g0,Gw]
variable{n k:Nat}{g:G}
def Ok.Pw(h:Ok n g k)(i)(a:i<n):g.rt (g.rt i)=g.rt i:=
 h.root _ (h.Fx i a) (h.top i a)
theorem Ok.FN(h:Ok n g k)(i)(a:i<n)(b:g.rt i=i):(g.N i).par=i:=by have:=h.top i a;grind
theorem On(g c r i)(a:c≠r):
  (lY g c r).lo i=if g.rt i=c∨g.rt i=r then min (g.N r).rz (g.N c).rz else g.lo i:=by
 grind[G.lo,lY]
theorem Ok.lY(h:Ok n g k)(c r)(o:c<n)(f:r<n)(u:c≠r)(m:g.rt c=c)(s:g.rt r=r):
  Ok n (lY g c r) (k+1):=by
 have pc:=h.FN c o m;have pr:=h.FN r f s;have w:(g.N c).rz=g.lo c:=by simp[G.lo,m]
 have y:(g.N r).rz=g.lo r:=by simp[G.lo,s]
 have e:=λi=>On g c r i u;have x:=h.UL c o;have z:=h.UL r f;have j:=h.Ql c o;have l:=h.Ql r f;rw[m] at j;rw[s] at l;have C:g.lo c≠g.lo r:=cG
 have p:g.lo (g.lo c)=g.lo c:=by grind[G.lo]
 have q:g.lo (g.lo r)=g.lo r:=by grind[G.lo]
 refine⟨?_,?_,?_,?_,?_,?_,?_,?_,?_⟩
 .intro i a;simp only[Uf.lY]
  split
  .exact f
  split
  .grind
  exact h.Ug i a
 .intro i a;simp only[Uf.lY]
  split
  .exact f
  exact h.Fx i a
 .intro i a hp;simp only[Uf.lY] at hp⊢;by_cases b:i=c
  .grind
  by_cases d:i=r
  .grind
  simp[b,d] at hp;have:=h.root i a hp;grind
 .intro i a hp;simp only[Uf.lY] at hp⊢;by_cases b:i=c
  .grind
  by_cases d:i=r
  .grind
  simp only[b,d,jF] at hp⊢;let⟨E,F⟩:=h.step i a hp;grind
 .intro i a;simp only[Uf.lY];by_cases b:g.rt i=c
  .grind
  by_cases d:g.rt i=r
  .grind
  simp[b,d,h.top i a]
 .intro i a v;simp only[Uf.lY] at v⊢;by_cases b:i=c
  .grind
  by_cases d:i=r
  .subst d;simp only[b,jF,iX];rw[h.sW i a s,h.sW c o m,<-We]
   .grind
   grind
  have t:g.rt i=i:=cG
  simp only[b,d,jF];rw[h.sW i a t];grind
 .intro i a;rw[e,w,y];have D:=h.UL i a;grind[G.lo]
 .intro i a;rw[e,w,y];by_cases A:g.rt i=c∨g.rt i=r
  .grind[Uf.lY]
  rw[cC A];have:=h.Ql i a;grind[Uf.lY]
 have B:lZ n (λi=>decide ((Uf.lY g c r).lo i=i))+1=lZ n (λi=>decide (g.lo i=i)):=by
  apply OH n _ _ (max (g.lo c) (g.lo r)) bO
  .grind
  .grind
  grind[G.lo]
 have:=h.num;omega
theorem Ok.ZS(h:Ok n g k)(c r)(b:c<n)(e:r<n)(d:c≠r)(a:g.rt c=c)(f:g.rt r=r):(g.N r).sW+(g.N c).sW<=n:=by
 rw[h.sW r e f,h.sW c b a,<-We]
 .exact Gv _ _
 grind
def pick(g:G)(a b:Nat):Nat×Nat:=if(g.N (g.rt b)).sW<(g.N (g.rt a)).sW then(g.rt b,g.rt a) else(g.rt a,g.rt b)
structure Rec where
 child:Nat
 least:Nat
 Sl:G
def DP(n:Nat):G->List Rec->Prop
 |g,[]=>g=g0
 |g,x::t=>∃r,r<n∧x.child<n∧x.child≠r∧x.Sl.rt x.child=x.child∧x.Sl.rt r=r∧x.least=(x.Sl.N r).rz∧g=lY x.Sl x.child r∧DP n x.Sl t
theorem xJ(n):∀(t:List Rec)(g:G),DP n g t->Ok n g (bB t)
 | [],g,h=>by cases h;exact ack n
 |x::t,g,h=>by obtain⟨r,d,c,a,b,f,_,rfl,e⟩:=h;exact(xJ n t x.Sl e).lY _ _ c d a b f
theorem Ok.FR(h:Ok n g k):k<=n:=by have:=h.num;omega
theorem Ok.pick(h:Ok n g k)(a b)(d:a<n)(e:b<n)(c:g.rt a≠g.rt b):
  (pick g a b).1<n∧(pick g a b).2<n∧(pick g a b).1≠(pick g a b).2∧g.rt (pick g a b).1=(pick g a b).1∧g.rt (pick g a b).2=(pick g a b).2:=by
 unfold Uf.pick
 split
 .exact⟨h.Fx b e,h.Fx a d,j5 c,h.Pw b e,h.Pw a d⟩
 exact⟨h.Fx a d,h.Fx b e,c,h.Pw a d,h.Pw b e⟩
def back:G->List Rec->Nat->G
 |g,_,0=>g
 |g,[],_+1=>g
 |_,x::t,k+1=>back x.Sl t k
theorem yZ(n):∀(k:Nat)(t:List Rec)(g:G),DP n g t->DP n (back g t k) (t.drop k)
 |0,t,g,h=>by simpa[back] using h
 |k+1,[],g,h=>by simpa[back] using h
 |k+1,x::t,g,h=>by obtain⟨_,_,_,_,_,_,_,_,a⟩:=h;simpa[back] using yZ n k t x.Sl a
theorem EM:∀(k:Nat)(t:List Rec)(g:G)(x:Rec),t[k]?=ah x->back g t (k+1)=x.Sl
 |0,[],_,_,h=>by simp at h
 |0,y::t,g,x,h=>by grind[back]
 |k+1,[],_,_,h=>by simp at h
 |k+1,y::t,g,x,h=>by simp at h;simpa[back] using EM k t y.Sl x h
def mo(t:List Rec):List (Nat×Nat):=(t.map λx=>(x.child,x.least)).reverse
theorem jN(t):bB (mo t)=bB t:=by simp[mo]
theorem PJ(x:Rec)(t):mo (x::t)=mo t++[(x.child,x.least)]:=by simp[mo]
theorem PI(t k):mo (t.drop k)=(mo t).take (bB t-k):=by simp only[mo,List.map_drop,List.reverse_drop,eG]
theorem TJ(t k)(a:k<bB t):(mo t)[bB t-1-k]?=ah ((t[k]).child,(t[k]).least):=by grind[mo]
theorem Cy(n):∀(t:List Rec)(g:G),DP n g t->∀x∈t,x.child<n
 | [],_,_,x,a=>by simp at a
 |y::t,g,h,x,a=>by
  obtain⟨_,_,b,_,_,_,_,_,c⟩:=h;obtain rfl|a:=fA.1 a
  .exact b
  exact Cy n t y.Sl c x a
theorem LY(n t g)(h:DP n g t)(i)(c:i<bB t):((mo t)[i]?.getD (0,0)).1<n:=by
 have hl:i<bB (mo t):=by grind[jN]
 rw[bP hl,eQ];have a:(mo t)[i]∈mo t:=cG
 generalize(mo t)[i]=y at a;simp only[mo,Ar,gI] at a;obtain⟨x,b,rfl⟩:=a;exact Cy n t g h x b
end Uf
inductive Fo where
 |mk (op x y:Int) (kids:List Fo)
inductive Lf where
 |mk (b o:Nat) (op x y:Int) (kv:Value) (kids:List Lf)
def Lf.b:Lf->Nat| .mk b _ _ _ _ _ _=>b
def Lf.o:Lf->Nat| .mk _ o _ _ _ _ _=>o
def Lf.op:Lf->Int| .mk _ _ op _ _ _ _=>op
def Lf.x:Lf->Int| .mk _ _ _ x _ _ _=>x
def Lf.y:Lf->Int| .mk _ _ _ _ y _ _=>y
def Lf.kv:Lf->Value| .mk _ _ _ _ _ kv _=>kv
def Lf.kids:Lf->List Lf| .mk _ _ _ _ _ _ ks=>ks
def Lf.er:Lf->Fo
 | .mk _ _ op x y _ kids=>.mk op x y (kids.map Lf.er)
def nk(kv:Value)(kids:List Lf):Prop:=
 ∃a cap,kv=aj a (bB kids) cap∧bB kids<=cap∧(kids=[]∨∃kb ko,a=ah ⟨kb,ko,ai⟩∧∀(j:Nat)(t:Lf),kids[j]?=ah t->t.b=kb∧t.o=ko+j*4)
def My(n:Nat)(a:Int):Bool:=decide (0<=a∧a<n)
def zD(cls:List Int)(a b:Int):Bool:=My (bB cls) a&&My (bB cls) b&&(cls[a.toNat]?.getD 0==cls[b.toNat]?.getD 0)
def La(a:Int):Prop:=-9223372036854775808<=a∧a<=9223372036854775807
def evN(cls:List Int)(op x y:Int)(n:Nat)(args:List Bool):Bool:=
 if op=0 then n==0&&zD cls x y
 else if op=1 then n==1&&!(args[0]?.getD aL)
 else if op=2 then n==2&&(args[0]?.getD aL&&args[1]?.getD aL)
 else if op=3 then n==2&&(args[0]?.getD aL||args[1]?.getD aL)
 else if op=4 then n==2&&(!(args[0]?.getD aL)||args[1]?.getD aL)
 else aL
def Zh(cls:List Int):Fo->Bool
 | .mk op x y kids=>evN cls op x y (bB kids) (kids.map (Zh cls))
