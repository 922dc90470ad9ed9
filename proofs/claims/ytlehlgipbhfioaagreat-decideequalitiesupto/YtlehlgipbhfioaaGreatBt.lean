import Derived.Test.YtlehlgipbhfioaaGreatBg
import Derived.Test.YtlehlgipbhfioaaGreatBm
import Derived.Sort.LoopGhostIn
namespace Go.Proofs.YtlehlgipbhfioaaGreat
set_option maxHeartbeats 3000000
set_option linter.all false
open Go.RowKit Go.Shelf Go.Proofs.Tryz
open Go.Value renaming slice->aj,pointer->ak
open Go.Ending renaming returned->aw
open Option renaming some->ah,none->ai
open Go renaming World->ay
def Lf.ks(t:Lf):List Lf:=if t.op=0 then[] else t.kids
variable{t k:Lf}
theorem Eu(h:k∈t.ks):SizeOf.sizeOf k<SizeOf.sizeOf t:=by
 unfold Lf.ks at h
 split at h
 .cases h
 cases t with
 |mk b o op x y kv kids=>have:k∈kids:=h;have:=DS this;simp;omega
def wk(t:Lf)(d:Nat):List (Lf×Nat):=(t,d)::(match _h:t.ks[d]? with
 |none=>[]
 |some k=>wk k 0++wk t (d+1))
termination_by (SizeOf.sizeOf t,t.ks.length-d)
decreasing_by
 .exact Ld _ _ (Eu (cH _h))
 grind
variable{d:Nat}
theorem sX(h:t.ks[d]?=ai):wk t d=[(t,d)]:=by grind[wk]
theorem oz(h:t.ks[d]?=ah k):wk t d=(t,d)::(wk k 0++wk t (d+1)):=by grind[wk]
def rem(st:List (Lf×Nat)):List (Lf×Nat):=st.flatMap λx=>wk x.1 x.2
abbrev jS(W:ay)(t:Lf):Prop:=vW (λ_=>True) W t
variable{W:ay}
theorem jS.cells(h:jS W t):pw W t.b t.o t.op t.x t.y t.kv:=by
 cases h with
 |mk b a c _=>exact a
theorem jS.tw(h:jS W t):nk t.kv t.kids:=by
 cases h with
 |mk b c a _=>exact a
theorem jS.He(h:jS W t)(b:k∈t.kids):jS W k:=by
 cases h with
 |mk _ _ _ a=>exact a k b
theorem AK(w){t}(h:jS w t):
  Calls prog 156 #[ak (ah (az t.b t.o))] w λe g=>e=aw (if t.op=0 then aj ai 0 0 else t.kv)∧g=w:=by
 have c0:=h.cells.c0;have c3:=h.cells.c3;let⟨a,f,c,_⟩:=h.tw;rw[c] at c3⊢;go_enter func156,ntmps156;by_cases b:t.op=0
 .rw[cY b];rw[b] at c0
  go_wp2;go_ret;exact⟨rfl,rfl⟩
 rw[cC b];have i:(t.op==0)=false:=by simpa using b
 go_wp2;go_ret;exact⟨rfl,rfl⟩
