/- slices.Backward over the joins. -/
import Derived.Test.YtinphcnknionmaaSFindD
import Derived.RangeFuncNested
import Derived.RangeFuncBound
import Derived.RangeFuncCalls
import Derived.RangeFuncLeaves
import Derived.Shelf.Abstract
import Derived.Shelf.RegionOpen
import Derived.OwnWalkIn
import Derived.TacticsInMore
import Derived.LoopNIn
import Derived.LoopIn
namespace Go.Proofs.Ytinphcnknionmaa
open Go.RowKit Go.Shelf

attribute [local go_sem] Oper.semAt_some

set_option maxHeartbeats 1000000 in
theorem Backward_in (F : Fence) (n : Nat) (h5 : F.fn 81) (hro : F.round = none) (a : Option Addr) (len cap : Nat) (w : World) :
    CallsIn F n Try.prog 81 #[.slice a len cap] w fun e w' => e = .returned (.func (.func 118) #[] #[.pointer (some ⟨w.heap.size, 0, none⟩)]) ∧ w' = w.alloc (.cells #[.slice a len cap] 126) := by
  refine callsIn_of_wp Try.func81 rfl h5 ?_ hro
  simp only [Try.ntmps81, List.size_toArray, List.length_cons, List.length_nil, Nat.reduceAdd, Nat.reduceSub, Array.replicate_succ, Array.replicate_zero, List.push_toArray, List.append_toArray, List.nil_append, List.cons_append]
  gi_wp2
  go_ret
  exact ⟨rfl, rfl⟩

/-- What has come, from the last one down. -/
def Down (len : Nat) (pre : List { i : Nat // i < len }) : Prop := ∀ r (h : r < pre.length), (pre[r]).1 + r + 1 = len
theorem Down.nil (len : Nat) : Down len [] := fun r h => by simp at h
theorem Down.snoc {len : Nat} {pre : List { i : Nat // i < len }} (h : Down len pre) (x : { i : Nat // i < len }) (hx : x.1 + pre.length + 1 = len) : Down len (pre ++ [x]) := by
  intro r hr
  by_cases e : r < pre.length
  · rw [List.getElem_append_left e]; exact h r e
  · have : r = pre.length := by simp at hr; omega
    subst this
    simpa using hx

/-- What a round keeps: what lay below n₀, but for the nodes. -/
abbrev KeptN (n₀ nb : Nat) (w w' : World) : Prop := Kept (fun k => k = nb ∨ n₀ ≤ k) w w'

def encJ (js : Nat → Nat × Nat) (x : Nat) : Array Value := #[.int .i64 (x : Int), .agg #[.int .i64 ((js x).1 : Int), .int .i64 ((js x).2 : Int)]]

set_option maxRecDepth 100000 in
set_option maxHeartbeats 2000000 in
theorem Back1_in (F : Fence) (n : Nat) (h7 : F.fn 118) (hro : F.round = none) (hn : 1 ≤ n) (l Bs n₀ nb b off len cap : Nat) (js : Nat → Nat × Nat) (hreach : len ≤ 100000) (hb : b < n₀) (hB : Bs < n₀) (hbn : b ≠ nb) (hBn : Bs ≠ nb) (J Jx : List { i : Nat // i < len } → World → Prop)
    (hY : ∀ pre x W, J pre W → pre.length < len → YieldAt F (n - 1) Try.prog l (encJ js x.1) W fun e W' =>
      (e = .returned (.bool true) ∧ J (pre ++ [x]) W' ∧ KeptN n₀ nb W W') ∨ (e = .returned (.bool false) ∧ Jx (pre ++ [x]) W'))
    (W : World) (hn₀ : n₀ ≤ W.heap.size) (hBs : W.cell? ⟨Bs, 0, none⟩ = some (.slice (some ⟨b, off, none⟩) len cap))
    (hc : ∀ j, j < len → W.cell? ⟨b, off + j * 2, none⟩ = some (.int .i64 ((js j).1 : Int)) ∧ W.cell? ⟨b, off + j * 2 + 1, none⟩ = some (.int .i64 ((js j).2 : Int))) (h0 : J [] W) :
    CallsIn F n Try.prog 118 #[.func (.yield l) #[] #[], .pointer (some ⟨Bs, 0, none⟩)] W fun e W' => (∃ v, e = .returned v) ∧
      ((∃ ys, (Down len ys ∧ ys.length = len) ∧ J ys W') ∨ (∃ pre, True ∧ Jx pre W')) := by
  refine callsIn_of_wp Try.func118 rfl h7 ?_ hro
  simp only [Try.ntmps118, List.size_toArray, List.length_cons, List.length_nil, Nat.reduceAdd, Nat.reduceSub, Array.replicate_succ, Array.replicate_zero, List.push_toArray, List.append_toArray, List.nil_append, List.cons_append]
  gi_wp2
  gi_loopw [3] (fun i wr => ∃ pre : List { i : Nat // i < len }, pre.length ≤ len ∧ Down len pre ∧ i = .int .i64 ((len : Int) - 1 - pre.length) ∧ J pre wr ∧ KeptN n₀ nb W wr)
    (fun i _ => (intOf i + 1).toNat)
  case atStart => exact ⟨[], Nat.zero_le _, Down.nil _, by simp, h0, Kept.refl _ _⟩
  case round =>
    obtain ⟨pre, hp, hd, rfl, hJs, hnx⟩ := hrel
    have hBs' : wr.cell? ⟨Bs, 0, none⟩ = some (.slice (some ⟨b, off, none⟩) len cap) := (World.cell?_of_block (a := ⟨Bs, 0, none⟩) (hnx.block Bs (by omega) (by omega))).trans hBs
    by_cases hlt : pre.length < len
    · obtain ⟨k, hk⟩ : ∃ k : Nat, k + pre.length + 1 = len := ⟨len - 1 - pre.length, by omega⟩
      have hkl : k < len := by omega
      obtain ⟨fn, tmps, assign, body, hy, hR⟩ := hY pre ⟨k, hkl⟩ wr hJs hlt
      have e1 : ((len : Int) - 1 - pre.length) = (k : Int) := by omega
      rw [e1]
      have hcx := hc k hkl
      have c1 : wr.cell? ⟨b, off + k * 2, none⟩ = some (.int .i64 ((js k).1 : Int)) := (World.cell?_of_block (a := ⟨b, off + k * 2, none⟩) (hnx.block b (by omega) (by omega))).trans hcx.1
      have c2 : wr.cell? ⟨b, off + k * 2 + 1, none⟩ = some (.int .i64 ((js k).2 : Int)) := (World.cell?_of_block (a := ⟨b, off + k * 2 + 1, none⟩) (hnx.block b (by omega) (by omega))).trans hcx.2
      have HK : Hid (k + pre.length + 1 = len) := hk
      clear hk e1 hcx hc hY hBs
      unfold encJ at hy
      gi_wp2
      refine hR.mono ?_
      rintro e W3 (⟨rfl, hJ3, hk3⟩ | ⟨rfl, hJx3⟩)
      · gi_wp2
        go_roundw
        case rel => exact ⟨pre ++ [⟨k, hkl⟩], by simp; omega, hd.snoc _ HK.out, by have := HK.out; simp; omega, hJ3, hnx.trans (hk3.mono fun x _ hx => hx)⟩
        case measure => simp [intOf]
      · gi_wp2
        refine bodyPost_ret (results_none rfl _ _ _) rfl ?_
        exact ⟨⟨_, rfl⟩, .inr ⟨_, trivial, hJx3⟩⟩
    · have e1 : ((len : Int) - 1 - pre.length) = -1 := by omega
      rw [e1]
      have HE : Hid (pre.length = len) := by show pre.length = len; omega
      clear e1
      gi_wp2
      go_end0
      exact ⟨⟨_, rfl⟩, .inl ⟨_, ⟨hd, HE.out⟩, hJs⟩⟩

set_option maxRecDepth 100000 in
set_option maxHeartbeats 1000000 in
/-- .. at the nil slice: no round. -/
theorem Back1_nil (F : Fence) (n : Nat) (h7 : F.fn 118) (hro : F.round = none) (l Bs : Nat) (J : List { i : Nat // i < 0 } → World → Prop) (W : World) (hBs : W.cell? ⟨Bs, 0, none⟩ = some (.slice none 0 0)) (h0 : J [] W) :
    CallsIn F n Try.prog 118 #[.func (.yield l) #[] #[], .pointer (some ⟨Bs, 0, none⟩)] W fun e W' => (∃ v, e = .returned v) ∧ J [] W' := by
  refine callsIn_of_wp Try.func118 rfl h7 ?_ hro
  simp only [Try.ntmps118, List.size_toArray, List.length_cons, List.length_nil, Nat.reduceAdd, Nat.reduceSub, Array.replicate_succ, Array.replicate_zero, List.push_toArray, List.append_toArray, List.nil_append, List.cons_append]
  gi_wp2
  gi_loopw [3] (fun i wr => i = .int .i64 (-1) ∧ J [] wr) (fun _ _ => 0)
  case atStart => exact ⟨rfl, h0⟩
  case round =>
    obtain ⟨rfl, hJs⟩ := hrel
    gi_wp2
    go_end0
    exact ⟨⟨_, rfl⟩, hJs⟩

/-- The slice value sv holds the joins js, in a block below n₀; or it is nil and there are none. -/
def JoinsAt (n₀ nb : Nat) (W : World) (sv : Value) (len : Nat) (js : Nat → Nat × Nat) : Prop :=
  (sv = .slice none 0 0 ∧ len = 0) ∨ ∃ b off cap, sv = .slice (some ⟨b, off, none⟩) len cap ∧ b < n₀ ∧ b ≠ nb ∧
    ∀ j, j < len → W.cell? ⟨b, off + j * 2, none⟩ = some (.int .i64 ((js j).1 : Int)) ∧ W.cell? ⟨b, off + j * 2 + 1, none⟩ = some (.int .i64 ((js j).2 : Int))

theorem JoinsAt.below {n₀ nb : Nat} {A B : World} (h : Below n₀ A B) {sv : Value} {len : Nat} {js : Nat → Nat × Nat} : JoinsAt n₀ nb A sv len js → JoinsAt n₀ nb B sv len js
  | .inl e => .inl e
  | .inr ⟨b, off, cap, e, hb, hn, hc⟩ => .inr ⟨b, off, cap, e, hb, hn, fun j hj => ⟨(h.cell (p := ⟨b, off + j * 2, none⟩) hb).trans (hc j hj).1, (h.cell (p := ⟨b, off + j * 2 + 1, none⟩) hb).trans (hc j hj).2⟩⟩

theorem Backward_stops (F : Fence) (n : Nat) (h7 : F.fn 118) (hro : F.round = none) (hn : 1 ≤ n) (Bs n₀ nb : Nat) (sv : Value) (len : Nat) (js : Nat → Nat × Nat) (hreach : len ≤ 100000) (w : World) (hBs : Bs < n₀) (hBn : Bs ≠ nb) (hn₀ : n₀ ≤ w.heap.size)
    (hc : w.cell? ⟨Bs, 0, none⟩ = some sv) (hI : JoinsAt n₀ nb w sv len js) :
    SeqStopsK F n Try.prog 118 #[.pointer (some ⟨Bs, 0, none⟩)] (fun x : { i : Nat // i < len } => encJ js x.1) (KeptN n₀ nb) (fun ys => Down len ys ∧ ys.length = len) (fun _ => True) len w := fun l J Jx W hW _ _ hY h0 => by
  have hc' := (hW.cell (p := ⟨Bs, 0, none⟩) (by show Bs < _; omega)).trans hc
  rcases hI.below (hW.mono hn₀) with ⟨rfl, rfl⟩ | ⟨b, off, cap, rfl, hb, hbn, hcs⟩
  · exact (Back1_nil F n h7 hro l Bs J W hc' h0).mono fun e W' ⟨he, hj⟩ => ⟨he, .inl ⟨[], ⟨Down.nil _, rfl⟩, hj⟩⟩
  · exact Back1_in F n h7 hro hn l Bs n₀ nb b off len cap js hreach hb hBs hbn hBn J Jx hY W (Nat.le_trans hn₀ hW.size) hc' hcs h0

end Go.Proofs.Ytinphcnknionmaa
