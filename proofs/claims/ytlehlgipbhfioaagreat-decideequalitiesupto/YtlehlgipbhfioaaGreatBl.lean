import Derived.Test.YtlehlgipbhfioaaGreatBc
import Derived.Shelf.Strconv.Clone
namespace Go.Proofs.YtlehlgipbhfioaaGreat
set_option maxHeartbeats 400000
set_option linter.all false
open Go.RowKit Go.Proofs.Tryz
open Go.Ending renaming returned->aw
open Option renaming some->ah
section
open Go.Shelf
def Gd:Go.Shelf.Ren:=⟨fun|316=>193|n=>n,fun|9=>9|3=>3|4=>4|37=>330|0=>0|127=>331|5=>5|n=>n,fun|n=>n⟩
theorem UY:Go.Proofs.LaysM.n316 prog Gd:={
 mixed:=bV
 f316:=func193.trans (congrArg ah bV)
 t0:=underlying0
 a0:=isAgg0
 z0:=sizeOf0
 v0:=zeroValue0
 t3:=underlying3
 a3:=isAgg3
 z3:=sizeOf3
 v3:=zeroValue3
 t4:=underlying4
 a4:=isAgg4
 z4:=sizeOf4
 v4:=zeroValue4
 t9:=underlying9
 a9:=isAgg9
 z9:=sizeOf9
 v9:=zeroValue9
 t37:=underlying330
 a37:=isAgg330
 z37:=sizeOf330
 v37:=zeroValue330
 t127:=underlying331
 a127:=isAgg331
 z127:=sizeOf331
 v127:=zeroValue331
 t5:=underlying5
 a5:=isAgg5
 z5:=sizeOf5
 v5:=zeroValue5
 i0:=bV
 i3:=bV
 i4:=bV
 i5:=bV
 i9:=bV
 i37:=bV
 i127:=by kernel_rfl}
end
def Iq(s w)(h:s.size<=6):
  Calls prog 193 #[.string s] w λe a=>e=aw (.string s)∧Below w.heap.size w a:=Any.stringslite_Clone UY s w bO
def Below.dF{w a:World}(h:Below w.heap.size w a):bI (λ_=>False) w a:=⟨h.os,h.tape,h.output,h.size,λk b _=>h.block k b⟩
theorem Rq(s w)(h:s.size<=6):
  Calls prog 151 #[.string s] w λe b=>e=aw (.string s)∧bI (λ_=>False) w b:=by
 go_enter func151,ntmps151
 go_wp2_with(go_at_call 193;refine(Iq _ _ h).mono ?_;rintro e c ⟨rfl,a⟩);go_ret;exact⟨rfl,Below.dF a⟩
