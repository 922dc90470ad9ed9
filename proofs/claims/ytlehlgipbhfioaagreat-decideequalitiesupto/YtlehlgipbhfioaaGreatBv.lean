import Derived.Test.YtlehlgipbhfioaaGreatQ0
import Derived.Shelf.Sort.Plain
import Derived.Test.YtlehlgipbhfioaaGreatProg
namespace Go.Proofs.YtlehlgipbhfioaaGreat
set_option linter.all false
open Go.Proofs.Tryz
open Go.Value renaming slice->aj,int->aS
open Go.Ending renaming returned->aw
open Option renaming some->ah,none->ai
section
open Go.Shelf
def Jk:Go.Shelf.Ren:=⟨fun|189=>97|125=>145|257=>144|128=>191|129=>192|294=>182|295=>183|296=>184|297=>185|298=>186|299=>187|216=>188|300=>189|301=>190|328=>226|329=>227|330=>228|331=>229|332=>230|215=>221|343=>250|n=>n,fun|28=>39|3=>3|46=>105|0=>0|51=>298|53=>268|4=>4|183=>292|182=>291|131=>159|5=>5|9=>9|218=>324|222=>328|228=>346|229=>347|n=>n,fun|n=>n⟩
theorem YO:Go.Proofs.Lays.n189 prog Jk:={
 mixed:=(by kernel_rfl)
 f125:=func145.trans (congrArg ah (by kernel_rfl))
 f128:=func191.trans (congrArg ah (by kernel_rfl))
 f129:=func192.trans (congrArg ah (by kernel_rfl))
 f189:=func97.trans (congrArg ah (by kernel_rfl))
 f215:=func221.trans (congrArg ah (by kernel_rfl))
 f216:=func188.trans (congrArg ah (by kernel_rfl))
 f257:=func144.trans (congrArg ah (by kernel_rfl))
 f294:=func182.trans (congrArg ah (by kernel_rfl))
 f295:=func183.trans (congrArg ah (by kernel_rfl))
 f296:=func184.trans (congrArg ah (by kernel_rfl))
 f297:=func185.trans (congrArg ah (by kernel_rfl))
 f298:=func186.trans (congrArg ah (by kernel_rfl))
 f299:=func187.trans (congrArg ah (by kernel_rfl))
 f300:=func189.trans (congrArg ah (by kernel_rfl))
 f301:=func190.trans (congrArg ah (by kernel_rfl))
 f328:=func226.trans (congrArg ah (by kernel_rfl))
 f329:=func227.trans (congrArg ah (by kernel_rfl))
 f330:=func228.trans (congrArg ah (by kernel_rfl))
 f331:=func229.trans (congrArg ah (by kernel_rfl))
 f332:=func230.trans (congrArg ah (by kernel_rfl))
 f343:=func250.trans (congrArg ah (by kernel_rfl))
 t0:=underlying0
 a0:=isAgg0
 z0:=sizeOf0
 v0:=zeroValue0
 t3:=underlying3
 a3:=isAgg3
 z3:=sizeOf3
 v3:=zeroValue3
 t4:=underlying4
 a4:=isAgg4
 z4:=sizeOf4
 v4:=zeroValue4
 t5:=underlying5
 a5:=isAgg5
 z5:=sizeOf5
 v5:=zeroValue5
 t9:=underlying9
 a9:=isAgg9
 z9:=sizeOf9
 v9:=zeroValue9
 t28:=underlying39
 a28:=isAgg39
 z28:=sizeOf39
 v28:=zeroValue39
 t46:=underlying105
 a46:=isAgg105
 z46:=sizeOf105
 v46:=zeroValue105
 t51:=underlying298
 a51:=isAgg298
 z51:=sizeOf298
 v51:=zeroValue298
 t53:=underlying268
 a53:=isAgg268
 z53:=sizeOf268
 v53:=zeroValue268
 t131:=underlying159
 a131:=isAgg159
 z131:=sizeOf159
 v131:=zeroValue159
 t182:=underlying291
 a182:=isAgg291
 z182:=sizeOf291
 v182:=zeroValue291
 t183:=underlying292
 a183:=isAgg292
 z183:=sizeOf292
 v183:=zeroValue292
 t218:=underlying324
 a218:=isAgg324
 z218:=sizeOf324
 v218:=zeroValue324
 t222:=underlying328
 a222:=isAgg328
 z222:=sizeOf328
 v222:=zeroValue328
 t228:=underlying346
 a228:=isAgg346
 z228:=sizeOf346
 v228:=zeroValue346
 t229:=underlying347
 a229:=isAgg347
 z229:=sizeOf347
 v229:=zeroValue347}
open Go.Sort Go.RowKit in
def slices_Sort_int{fY a:Nat}(b:Nat)(d:List Int){w:World}(g:Holds (aS .i64) w fY a d.toArray)(c:fY<w.heap.size)(f:d.length<4611686018427387904):
  Calls prog 97 #[aj (ah ⟨fY,a,ai⟩) d.length b] w λe h=>e=aw (.tuple #[])∧∃n os,h=grow (putRow (aS .i64) (Sort.ahead w n) fY a (d.mergeSort λx y=>decide (x<=y)).toArray) os:=Any.slices_Sort_int YO fY a b d w g c f
end
