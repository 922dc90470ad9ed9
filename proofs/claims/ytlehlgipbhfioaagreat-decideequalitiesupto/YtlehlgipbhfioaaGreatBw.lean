import Derived.Test.YtlehlgipbhfioaaGreatBn
import Derived.Test.YtlehlgipbhfioaaGreatBv
import Derived.Sort.OwnSortedInts
namespace Go.Proofs.YtlehlgipbhfioaaGreat
set_option linter.all false
open Go.RowKit Go.Proofs.Tryz
open Go.Ending renaming returned->aw
open Go.Value renaming int->aS
open List renaming length->bB
section
open Go.Sort
theorem I8(l):gq l=(l.map λx:Nat=>(x:Int)).map (aS .i64):=by simp[gq]
theorem LC(l T:List Nat)(hp:T.Perm l)(hs:T.Pairwise (· < ·)):((l.map λx:Nat=>(x:Int)).mergeSort λx y=>decide (x<=y))=T.map λx:Nat=>(x:Int):=by
 refine List.Perm.eq_of_pairwise (le:=λa b:Int=>decide (a<=b)=true) (λa b _ _ d e=>?_) (List.pairwise_mergeSort (λa b c d e=>?_) (λa b=>?_) _) ?_ ((List.mergeSort_perm _ _).trans (hp.symm.map _))
 .simp only[jl] at d e;omega
 .simp only[jl] at d e⊢;omega
 .simp only[Bool.or_eq_true,jl];omega
 grind
theorem WL(w base v l T k)(y:bB l=k+1)(t:bB l<=100000)(s:w.ownsRow base 3 1 v (bB l) (gq l))(hp:T.Perm l)(hs:T.Pairwise (· < ·)):
  Calls prog 97 #[v] w λe d=>e=aw (.tuple #[])∧d.ownsRow base 3 1 v (bB T) (gq T)∧w.grownBy d v.ownBlock:=by
 have a:bB T=bB l:=hp.length_eq;obtain⟨_,u⟩|⟨g,b,h,rfl,q,c,i,j,m,o⟩:=s.2
 .omega
 rw[I8,iq] at o;have p:Holds (aS .i64) w g 0 (l.map λx:Nat=>(x:Int)).toArray:=holds_of_blockI c cG;have f:=slices_Sort_int b (l.map λx:Nat=>(x:Int)) p (bY.1 c).1 (by rw[eG];omega);rw[LC l T hp hs,eG] at f;refine f.mono ?_;rintro e d ⟨r,n,os,rfl⟩;refine⟨r,?_,grownBy_sortedI _⟩;rw[I8,a];have:=ownsRow_sortedI (n:=n) (os:=os) (ss:=l.map λx:Nat=>(x:Int)) (ts:=T.map λx:Nat=>(x:Int)) (by simp[a]) q c (by simpa using i) j m;simpa using this
end
