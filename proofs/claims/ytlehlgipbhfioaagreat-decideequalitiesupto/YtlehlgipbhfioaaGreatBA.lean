import Derived.Test.YtlehlgipbhfioaaGreatBr
import Derived.ProofKit
import Derived.OpenShut
import Derived.Deep.Strs
namespace Go.Proofs.YtlehlgipbhfioaaGreat
set_option maxRecDepth 100000
set_option linter.all false
open Go.RowKit Go.Proofs.Tryz
open Go.Value renaming slice->aj
open Option renaming none->ai
section
open Go.ChangeShapes Go.WideShapes Go.ChangeAt Go.Deep
open Go.ChangeMaps (open_string shut_string)
def own:ownKnob prog.godebug=ai:=bV
def laidOut:laidOutB prog=true:=bV
def Wl:prog.cellsOf 9=1:=bV
theorem SN{H:Type}{n:TypeId×Value->H}{W:World}{base:Nat}{spare:Nat->Bool}{g:Bool}{a:Option Addr}{len j:Nat}{d:DataW H}{p:List MemPlace}(h:DataW.Trod n prog W base spare g 22 (aj a len j) d p):∃u:List ByteArray,u.length=len∧WK W a u∧len<=maxLen:=by
 obtain⟨t,w⟩:=h;obtain⟨e,_⟩|⟨x,l,c,m,Sx,e,_,hl,B,o,_,z⟩:=open_strs underlying22 underlying9 Wl w
 .simp[Value.cells] at e;obtain⟨rfl,rfl,rfl⟩:=e;exact⟨[],rfl,cB rfl,by unfold maxLen;omega⟩
 simp[Value.cells] at e;obtain⟨rfl,rfl,rfl⟩:=e;have y:len<=m:=by rw[o];split<;>omega
 refine⟨(List.range len).map Sx,by simp,?_,by omega⟩;by_cases v:len=0
 .subst v;exact cB rfl
 right;obtain⟨b,r,i⟩:=x;have c0:=(z 0 bO).1;have f:i=ai:=by
  have q:=World.cell?_spot c0;simpa[Addr.add] using q
 subst f;refine⟨b,r,rfl,?_,λk s A=>?_⟩
 .rw[add_plain] at c0;exact cV _ _ c0
 grind[List.getElem?_eq_some_iff,add_plain]
end
