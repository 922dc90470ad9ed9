import Derived.Test.YtlehlgipbhfioaaGreatBz
import Derived.Test.YtlehlgipbhfioaaGreatBB
namespace Go.Proofs.YtlehlgipbhfioaaGreat
set_option maxRecDepth 100000
set_option linter.all false
open Go.RowKit Go.Proofs.Tryz
open Go.Value renaming int->ae,slice->aj
open Go.IntKind renaming i64->af
open Go.Ending renaming returned->aw
open Option renaming some->ah,none->ai
open Bool renaming false->aL,true->aK
section
open Go.ChangeShapes Go.WideShapes Go.ChangeAt Go.Deep
variable{H:Type}
theorem Ws(d:DataW H):1<=Rows.uptoBulk d:=by
 cases d with
 |lit x=>cases x<;>simp[Rows.uptoBulk]
 |_=>simp[Rows.uptoBulk]
theorem J8{H:Type}:∀l:List (DataW H),l.length<=Rows.uptoBulkAll l
 | []=>dt _
 |d::r=>by have a:=Ws d;have b:=J8 r;grind[Rows.uptoBulkAll]
theorem Rz{b a c d:DataW H}(e:Rows.uptoSmall H [b,a,c,d]=aK):Rows.uptoBulk a<=1048576:=by have h:Rows.uptoBulkAll [b,a,c,d]<=1048576:=ft e;simp only[Rows.uptoBulkAll] at h;omega
theorem rJ(H:Type)(c:TypeId×Value->H)(W:World)(base:Nat)(args:Array Value)(i y:List (DataW H))(b:List MemPlace)(a:∀(j:Nat) t v,f3.params[j]?=ah t->args[j]?=ah v->Value.okWide prog W .any base t v)(A:DataW.Whole c prog f3.params.toList Rows.decideEqualitiesSpec.vars aL W args.toList i y b)(B:Rows.uptoSmall H (i++y)=aK):
  Calls prog 3 args W λe w=>∃v,e=aw v∧Rows.decideEqualitiesSpec.post c prog f3 aL aK aL aL W args v w:=by
 have g:=A;obtain⟨p,q,n,S,rfl,U,V⟩:=A;have z:DataW.TrodAll c prog W 0 (λ_=>aK) aK f3.params.toList args.toList i p:=n;rw[params3] at z a;obtain⟨E,aa,d0,J,Z,q0,o,rfl,rfl,k,r0⟩:=trodAll_cons z;obtain⟨F,ab,d1,L,p1,q1,rfl,rfl,rfl,l,r1⟩:=trodAll_cons r0;obtain⟨G,ac,d2,M,p2,q2,rfl,rfl,rfl,Q,r2⟩:=trodAll_cons r1;obtain⟨I,ad,d3,N,p3,q3,rfl,rfl,rfl,R,r3⟩:=trodAll_cons r2;obtain⟨rfl,rfl,rfl⟩:=trodAll_nil r3;obtain rfl:args=#[E,F,G,I]:=by cases args;simp_all
 obtain⟨rfl,rfl⟩:=trodVars_none S;obtain⟨a0,C,d,rfl⟩:=okWide_slice underlying22 (a 0 22 E rfl rfl);obtain⟨a1,D,f,rfl⟩:=okWide_slice underlying23 (a 1 23 F rfl rfl);obtain⟨x2,rfl,rfl,rfl,w2⟩:=open_int underlying3 (a 2 3 G rfl rfl) Q;obtain⟨x3,rfl,rfl,rfl,w3⟩:=open_int underlying3 (a 3 3 I rfl rfl) R;have s:∀x∈Z,x.block<hz W:=by let⟨m,r⟩:=k;exact DataW.trod_lt m _ _ _ r
 have u:∀x∈p1,x.block<hz W:=by let⟨m,r⟩:=l;exact DataW.trod_lt m _ _ _ r
 simp only[gC] at g B;have hb:=Rz B;let⟨ss,O,s1,Y⟩:=SN k;let⟨⟨ps,P,s2⟩,l2⟩:=aaU l;have X:ps.length<=1048576:=by grind[Rows.uptoBulk,J8]
 subst O P;refine(abu d f x2 x3 s1 Y s2 X).mono λe w ⟨T,kB⟩=>?_;subst T;exact⟨_,rfl,_,_,_,[],_,[],g,trodAll_mk1 (shut_bool underlying4 _),(trodAll_cons_mk (Below.trod laidOut bV (ft bV) k kB s) (trodAll_cons_mk (Below.trod laidOut bV (ft bV) l kB u) (trodAll_cons_mk (shut_int underlying3 w2) (trodAll_cons_mk (shut_int underlying3 w3) trodAll_mk0)))),rfl,kB.frame _,λh=>by cases h⟩
theorem sV(os)(a:os.Started)(H:Type)(enc:TypeId×Value->H)(F:Stop.Interp):
  ReturnsInHanded {} checked os 3 .any ((Rows.OpenSpec.upto Rows.decideEqualitiesSpec).pre6 enc prog f3 Rows.decideEqualitiesUptoRow.domain aL) (((Rows.OpenSpec.upto Rows.decideEqualitiesSpec).at F).post enc prog f3 aL aK aL aL):=by
 refine returnsInHanded_of_cond (C:=checked) (s:=Rows.OpenSpec.upto Rows.decideEqualitiesSpec) (k:=Rows.uptoSmall) rfl own a bV func3
  (OpenSpec.witness (enc:=enc) (C:=checked) (s:=Rows.OpenSpec.upto Rows.decideEqualitiesSpec) (k:=Rows.uptoSmall) rfl aL ⟨#[],#[aj ai 0 0,aj ai 0 0,ae af 0,ae af 0],[]⟩ 8 bV bV bV
   (x:=([.nil,.nil,.lit (.int .i64 0),.lit (.int .i64 0)],[],[])) bV rfl bV) ?_
 intro W base args d e b c f _ g _;exact rJ H enc W base args d e b c f g
theorem DecideEqualities_upto:Rows.DecideEqualitiesUptoSaid:=
 OpenClaim.holds_of_cond 3 f3 rfl rfl rfl rfl rfl rfl rfl ⟨rfl,rfl,rfl,rfl,rfl⟩ rfl rfl rfl rfl rfl bV func3 bV
  (ft bV) (by unfold Func.isWrapper;first|(rw[cY (by decide+kernel)];kernel_rfl)|(rw[cC (by decide+kernel)];exact⟨rfl,rfl⟩))
  (λos a H b _ F=>sV os a H b F)
#print axioms DecideEqualities_upto
end
