import Derived.Test.YtlehlgipbhfioaaGreatQ0
import Derived.Test.YtlehlgipbhfioaaGreatRows
import Derived.WalkKit
import Derived.WalkSpells
import Derived.WalkLawsBesides
import Derived.Deep.OwnRows
import Derived.Deep.LoopGhost
import Derived.Deep.QuietTactic
import Derived.BigRegion
import Derived.BigQuiet
namespace Go.Proofs.YtlehlgipbhfioaaGreat
open Go.RowKit Go.Maps
set_option linter.all false
def Am:=@Go.World.rowIs_made
def Dr:=@Go.Maps.Keyed.of_law
def GX:=@Go.results_tmp
def GZ:=@Go.World.rowIs.setOther
def Lb:=@Go.callsD_of_wpS
def Nj:=@Go.World.ownsMap.drop
def Sb:=@Go.World.drewN_drewN
def Sd:=@Go.Result.andThen_ok
def W6:=@Go.World.size_alloc
def ab1:=@Go.MapKept.run_setObj_map
def ab2:=@Go.MapKept.run_getObj_map
def ado:=@Go.WideShapes.add_plain
def cA:=@Go.World.rowIs.frozen
def cL:=@Go.World.cell?_of_block
def cO:=@Go.RowKit.Below.heap_setCell
def cV:=@Go.World.block_lt_of_cell?
def cW:=@Go.RowKit.Below.refl
def cX:=@Go.IntKind.wrap_i64
def dB:=@Go.RowKit.Below.heap_alloc
def dM:=@Go.Aside.out
def dO:=@Go.World.rowIs.lt
def dU:=@Go.World.rowIs.cell
def du:=@Go.World.rowIs.of_block
def eB:=@Go.info_parts
def eN:=@Go.Calls.quiet_of_same
def eO:=@Go.World.rowIs.congr
def eR:=@Go.World.ownsRow_nil
def eW:=@Go.heap_alloc_new
def fF:=@Go.Lib.cell?_alloc_some
def fL:=@Go.Value.slice.injEq
def fR:=@Go.ownsRow_setCell_other
def fT:=@Go.World.ownsRow.alloc
def fX:=@Go.wpList_append_own_at
def gM:=@Go.run_underlying
def gT:=@Go.World.ownsMap.tidy
def gi:=@Go.callsIn_wide
def gw:=@Go.World.ownsMap.lt
def ij:=@Go.Oper.semAt_some
def iy:=@Go.World.ownsMap.kept
def j9:=@Go.Addr.add_lit
def jC:=@Go.World.ownsMap_made
def jD:=@Go.Calls.mono
def jZ:=@Go.World.frozen?_of_block
def jd:=@Go.heap_alloc_old
def jf:=@Go.World.rowIs.set
def kX:=@Go.World.rowIs.alloc
def ke:=@Go.World.ownsMap.store
def lU:=@Go.World.ownsMap.setCell
def nw:=@Go.WalkArith.wf_i64
def oo:=@Go.run_make
def ou:=@Go.plainElem_int
def oy:=@Go.Addr.mk.injEq
def pR:=@Go.wpOp_step
def pX:=@Go.IntKind.wrap_u64
def qw:=@Go.callsIn_of_wp
def rA:=@Go.RowKit.run_makeMap
def sq:=@Go.MapKept.run_getObj_map
def ug:=@Go.leaves_cons
def vX:=@Go.results_none
def xe:=@Go.Maps.size_put
def ym:=@Go.World.cell?_setCell_other
def zm:=@Go.World.ownsMap.lookup_int
theorem bV{p:Prop}(h:p:=by kernel_rfl):p:=h
theorem cJ{p:Prop}(h:p:=by unfold maxLen;omega):p:=h
theorem cM{p:Prop}(h:p:=by simp[Value.oneCell']):p:=h
theorem bL{p:Prop}(h:p):Hid p:=h
theorem aew{p:Prop}(h:p:=by rw[cX];omega):p:=h
theorem aey{p:Prop}(h:p:=by simp[go_sem]):p:=h
theorem aez{p:Prop}(h:p:=by simp[IntKind.wrap,IntKind.bits,IntKind.signed];omega):p:=h
theorem aeA{p:Prop}(h:p:=by simp_all):p:=h
theorem aeC{p:Prop}(h:p:=by unfold Sv.pop;split<;>rfl):p:=h
theorem aeD{p:Prop}(h:p:=by rw[pX];omega):p:=h
theorem aeE{p:Prop}(h:p:=by simp only;omega):p:=h
theorem aeF{p:Prop}(h:p:=by rw[fB];omega):p:=h
