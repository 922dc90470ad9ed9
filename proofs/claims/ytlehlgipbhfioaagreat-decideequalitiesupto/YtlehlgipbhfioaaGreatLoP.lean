/- Regions that draw their order, in a round: walked as everywhere. -/
import Derived.Test.YtlehlgipbhfioaaGreatLoO
import Derived.Deep.RegionLaw
namespace Go.Proofs.YtlehlgipbhfioaaGreat
open Go.RowKit Go.Shelf

section
variable {P : Program} {l n : Nat} {Q : Exit → Act → World → Prop}

theorem calls_round {f : FuncId} {args : Array Value} {w : World} {R : Ending → World → Prop} (h : Calls P f args w R) : CallsIn (Fence.wide.inRound l) n P f args w R := CallsIn.inRound l (callsIn_wide.2 h)
theorem rows_round {row : String} {args : Array Value} {w : World} {R : Value → World → Prop} (h : Rows P row args w R) : RowsIn (Fence.wide.inRound l) n P row args w R := fun c cs _ => by
  obtain ⟨v, w', hr, hs⟩ := h c cs
  exact ⟨v, w', hr, stepsIn_wide.2 hs⟩

theorem upon_round {o : Oper} {a : Act} {next : Act → World → Prop} : ∀ {r : Result Next}, o.upon P a next Q r → o.uponIn (Fence.wide.inRound l) n P a next Q r
  | .ok (.value _) _, h => h
  | .ok .skip _, h => h
  | .ok (.defer _) _, h => h
  | .ok (.enter _ _) _, h => ⟨fun e => by simp [Fence.wide] at e, calls_round h⟩
  | .ok (.row _ _) _, h => ⟨fun e => by simp [Fence.wide] at e, rows_round h⟩
  | .ok (.round _ _ _ _ _) _, h => False.elim h
  | .ok .recover _, h => False.elim h
  | .ok (.spawn _) _, h => False.elim h
  | .ok (.comm _ _ _) _, h => False.elim h
  | .halt (.panic _) _, h => h
  | .halt (.exit _) _, h => False.elim h
  | .halt (.unsupported _) _, h => False.elim h
  | .halt (.stuck _) _, h => False.elim h

theorem op_round {ops : Array Oper} (hno : ∀ o ∈ ops, ∀ c, o.op ≠ .defer c) (hQ : ¬ LetsOut Q) {i : Nat} {K : Act → World → Prop} {a : Act} {w : World} (h : wpOp P ops Q i K a w) : wpOpIn (Fence.wide.inRound l) n P ops Q i K a w := by
  unfold wpOp at h
  unfold wpOpIn
  cases ho : ops[i]? with
  | none => rw [ho] at h; exact h
  | some o =>
    rw [ho] at h
    simp only at h ⊢
    have hm : o ∈ ops := Array.mem_of_getElem? ho
    by_cases hw : Region.wanted o (yielded ops a.tmps) = true
    · rw [if_pos hw] at h ⊢
      rcases h with h | h
      · refine ⟨fun _ _ => trivial, ?_⟩
        rw [show (Fence.wide.inRound l).round = some l from rfl, Oper.semAt_some l _ _ (hno o hm)]
        exact upon_round h
      · exact absurd h.2 hQ
    · rw [if_neg hw] at h ⊢
      exact ⟨fun _ _ => trivial, h⟩

theorem any_round {md : Region.Mode} {ops : Array Oper} (hno : ∀ o ∈ ops, ∀ c, o.op ≠ .defer c) (hQ : ¬ LetsOut Q) : ∀ (fuel : Nat) (listed : Array Bool) (a : Act) (w : World), wpAny P md ops Q fuel listed a w → wpAnyIn (Fence.wide.inRound l) n P md ops Q fuel listed a w
  | 0, _, _, _, h => h
  | fuel + 1, _, _, _, h => ⟨h.1, fun i hi => wpOpIn_mono (fun a w hh => any_round hno hQ fuel _ a w hh) (op_round hno hQ (h.2 i hi))⟩

end

def isDefer : Op → Bool
  | .defer _ => true
  | _ => false

/-- A region that draws its order, in a round. -/
theorem region_round {l n id : Nat} {Q : Exit → Act → World → Prop} {ops : Array Oper} {a : Act} {w : World} (hno : ops.any (fun o => isDefer o.op) = false) (hQ : ¬ LetsOut Q) (h : wpAny Tryz.prog .any ops Q ops.size (Array.replicate ops.size false) a w.drew) :
    (Code.region id ops true).wpIn (Fence.wide.inRound l) n Tryz.prog Q a w :=
  wpIn_region_any (by kernel_rfl) (any_round (fun o ho c e => by
    have := Array.any_eq_false.1 hno
    obtain ⟨i, hi, rfl⟩ := Array.getElem_of_mem ho
    have h2 := this i hi
    rw [e] at h2
    simp [isDefer] at h2) hQ _ _ _ _ h)

/-- One may walk there from where nothing is done. -/
theorem any_of {X : Prop} (w : World) (h : Code.wp Tryz.prog (Code.region 0 #[{ dst := none, op := Op.call { callee := Callee.builtin Builtin.append, args := #[], argTypes := #[] }, type := 0, pos := "", after := #[], guard := some (0, true) }] true) (fun _ _ _ => X) { tmps := #[], defers := [] } w) : X := by
  obtain ⟨_, _, _, hx, _⟩ := h (Frame.enter Tryz.prog 0 #[] .normal) [] []
  exact hx
theorem redirect {X : Prop} {Q : Exit → Act → World → Prop} {a : Act} {w : World} {K : Act → World → Prop}
    (hK : ∀ a w, wpAny Tryz.prog .any #[{ dst := none, op := Op.call { callee := Callee.builtin Builtin.append, args := #[], argTypes := #[] }, type := 0, pos := "", after := #[], guard := some (0, true) }] (fun _ _ _ => X) 0 (Array.setIfInBounds (Array.replicate 1 false) 0 true) a w → K a w) (h : X) :
    if Region.wanted { dst := none, op := Op.call { callee := Callee.builtin Builtin.append, args := #[], argTypes := #[] }, type := 0, pos := "", after := #[], guard := some (0, true) } (yielded #[{ dst := none, op := Op.call { callee := Callee.builtin Builtin.append, args := #[], argTypes := #[] }, type := 0, pos := "", after := #[], guard := some (0, true) }] a.tmps) = true then Oper.wp Tryz.prog { dst := none, op := Op.call { callee := Callee.builtin Builtin.append, args := #[], argTypes := #[] }, type := 0, pos := "", after := #[], guard := some (0, true) } a w K Q else K (a.put none undef) w := by
  rw [if_neg (by simp [Region.wanted, yielded])]
  exact hK _ _ ⟨by kernel_rfl, h⟩

end Go.Proofs.YtlehlgipbhfioaaGreat
