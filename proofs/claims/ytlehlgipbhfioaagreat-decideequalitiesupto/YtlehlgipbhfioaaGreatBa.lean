import Derived.Test.YtlehlgipbhfioaaGreatQ1
namespace Go.Proofs.YtlehlgipbhfioaaGreat
set_option linter.all false
open Go.RowKit
open Go.Value renaming int->ae,pointer->ak
open Go.IntKind renaming i64->af
open Option renaming some->ah,none->ai
abbrev pz(b:Nat):Value:=ak (ah ⟨b,0,ai⟩)
abbrev az(b i:Nat):Addr:=⟨b,i,ai⟩
abbrev iz(n:Int):Value:=ae af n
abbrev hz(w:World):Nat:=w.heap.size
abbrev bz(w v:World):Prop:=Below w.heap.size w v
abbrev cz(w:World)(b i:Nat)(v:Value):Prop:=w.cell? ⟨b,i,ai⟩=ah v
abbrev gz:=@World.cell?.match_1.congr_eq_1
abbrev gy:=@World.setCell.match_1.congr_eq_1
