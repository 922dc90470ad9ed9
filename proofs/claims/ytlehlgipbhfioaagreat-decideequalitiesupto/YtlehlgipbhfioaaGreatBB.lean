import Derived.Test.YtlehlgipbhfioaaGreatBs
import Derived.Test.YtlehlgipbhfioaaGreatBA
namespace Go.Proofs.YtlehlgipbhfioaaGreat
set_option maxRecDepth 100000
set_option linter.all false
open Go.RowKit Go.Proofs.Tryz
open Go.Value renaming slice->aj
open Option renaming some->ah,none->ai
open List renaming length->bB
section
open Go.ChangeShapes Go.WideShapes Go.ChangeAt Go.Deep
def MR:prog.cellsOf 32=2:=bV
def Rv:prog.cellsOf 3=1:=bV
theorem aaU{H:Type}{t:TypeId×Value->H}{W:World}{base:Nat}{spare:Nat->Bool}{j:Bool}{a:Option Addr}{len s:Nat}{d:DataW H}{p:List MemPlace}(h:DataW.Trod t prog W base spare j 23 (aj a len s) d p):(∃ps:List (Int×Int),bB ps=len∧Xn W a ps)∧(len=0∨∃e sp,d=.slice e sp∧len<=bB e+bB sp):=by
 obtain⟨A,M⟩:=h;obtain⟨f,_⟩|⟨x,l,c,m,n,D,Q,f,_,hl,S,v,L,O⟩:=open_slice underlying23 M
 .simp[Value.cells] at f;obtain⟨rfl,rfl,rfl⟩:=f;exact⟨⟨[],rfl,λk x E=>by simp at E⟩,.inl rfl⟩
 simp[Value.cells] at f;obtain⟨rfl,rfl,rfl⟩:=f;have N:len<=m:=by rw[v];split<;>omega
 refine⟨?_,.inr ⟨_,_,(Prod.mk.inj L).1,by simp⟩⟩;have each:∀i,i<len->∃q:Int×Int,W.cell? (x.add (i*2))=ah (iz q.1)∧W.cell? (x.add (i*2+1))=ah (iz q.2):=by
  intro i R;let⟨cs,C,J⟩:=O i bO;rw[MR] at C;let⟨_,o,fS⟩:=World.cells?_some C;let⟨Y,Z,k,_,_,g0,B⟩:=trod_struct2 underlying32 J;have G:=fS 0 bO;have I:=fS 1 bO;rw[add_add] at G I
  match cs,o with
  | [V,X],_=>simp only[Rv] at g0 B;let⟨z0,T,_,_⟩:=DataW.trod_int underlying3 g0;let⟨z1,U,_,_⟩:=DataW.trod_int underlying3 B;simp_all
 let⟨q,F⟩:=choose_lt each;refine⟨(List.range len).map q,by simp,λk y E=>?_⟩;have u:k<len:=cG
 obtain⟨b,z,r⟩:=x;have g:r=ai:=by have w:=World.cell?_spot (F 0 bO).1;simpa[Addr.add] using w
 subst g;let⟨t0,t1⟩:=F k u;rw[add_plain] at t0 t1;have P:y=q k:=cG
 subst P;exact⟨b,z,rfl,cV _ _ t0,t0,by rw[Nat.add_assoc];exact t1⟩
end
