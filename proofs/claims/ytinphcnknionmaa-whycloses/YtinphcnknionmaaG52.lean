/- Package close: the steps that take back. slices.Backward over steps. Package close: takeBack: what it does, plainly. Package close: takeBack. Package close: takeBack's walk. -/
import Derived.Test.YtinphcnknionmaaSCloN
import Derived.Test.YtinphcnknionmaaSFindE
import Derived.RangeFuncNested
import Derived.RangeFuncBound
import Derived.RangeFuncCalls
import Derived.RangeFuncLeaves
import Derived.Shelf.Abstract
import Derived.Shelf.RegionOpen
import Derived.OwnWalkIn
import Derived.TacticsInMore
import Derived.LoopNIn
import Derived.LoopIn
import Derived.Lib.SliceRun
namespace Go.Proofs.Ytinphcnknionmaa
open Go.RowKit Go.Maps

theorem st_cell {w : World} {st : List (Nat × Obj)} (hs : Sat st w) {b : Nat} {c : Array Value} {t : TypeId} (hm : (b, Obj.cells c t) ∈ st) (j : Nat) : w.cell? ⟨b, j, none⟩ = c[j]? := by
  have := hs _ hm
  simp [World.cell?, this]

/-- A signature becomes unknown again. -/
theorem Cz.drop {w : World} {base : Nat} {l : List Tm} {z : Zs} (h : Cz w base l z) {s : Tm} (hs : Sk s) (ty : TypeId) :
    ∃ w', (Builtin.delete_ #[147, 196] ty #[.map (some z.mb), sigV s]).run Try.prog w = .ok (.tuple #[]) w' ∧ Cz w' base l { z with kn := fun u => if u = s then none else z.kn u, ms := z.ms - (if (z.kn s).isSome then 1 else 0) } ∧ Kept1 z.mb w w' := by
  obtain ⟨D, d1, d2, d3⟩ := h.known
  obtain ⟨w', hr, ho, hturn⟩ := World.ownsMap.drop d1 gLaw Try.underlying147 (gkey_of hs.ok) ty
  have K : Kept1 z.mb w w' := Kept1.of_grown hturn.grown
  have A := h.apart
  have tidy := World.ownsMap.tidy d1 gLaw
  refine ⟨w', hr, ⟨h.cls.of_block (K.block _ h.cls.lt A.km), h.sets.other K A.pm A.nm (fun k hk e => A.jm (by rw [hk, e])), h.terms.of_block (K.block _ h.terms.lt A.mt.symm), h.uses.of_block (K.block _ h.uses.lt A.um), ⟨_, mapIs_of ho, ?_, ?_⟩,
    ownsRow_block h.back (fun k hk => K.block k (h.back.lt k hk).2 (fun e => A.mb (by rw [hk, e]))), fun x hx => (K.block x.1 (h.st_lt hx) (fun e => (h.far x hx).2 (.inr (.inr (.inr (.inl e)))))).trans (h.sat x hx), h.far, h.argsAt, h.usesAt, h.bd, h.oks, h.len, h.bp, h.bt, h.bu, h.bm⟩, K⟩
  · have := size_del (k := gkey s) tidy
    show _ ≤ z.ms - (if (z.kn s).isSome then 1 else 0)
    by_cases e : (z.kn s).isSome = true
    · rw [(d3 s hs).1, e, if_pos rfl] at this
      rw [if_pos e]
      omega
    · rw [if_neg e]
      omega
  · intro u hu
    show Says _ (gkey u) (if u = s then none else z.kn u)
    by_cases e : u = s
    · subst e
      rw [if_pos rfl]
      exact Says.del_same
    · rw [if_neg e]
      exact (d3 u hu).del_other (fun x => e (gkey_inj hu hs x))

set_option maxHeartbeats 1000000 in
set_option maxRecDepth 100000 in
theorem del_in (w : World) (base : Nat) (l : List Tm) (z : Zs) (h : Cz w base l z) (s : Tm) (hs : Sk s) (bc bx : Nat) (hc : (bc, Obj.cells #[.pointer (some ⟨z.pk, 0, none⟩)] 140) ∈ z.st) (hx : (bx, Obj.cells (sigL s).toArray 196) ∈ z.st) :
    Calls Try.prog 153 #[.pointer (some ⟨bc, 0, none⟩), .pointer (some ⟨bx, 0, none⟩)] w fun e w' => e = .returned (.tuple #[]) ∧ Cz w' base l { z with kn := fun u => if u = s then none else z.kn u, ms := z.ms - (if (z.kn s).isSome then 1 else 0) } ∧ Kept1 z.mb w w' := by
  have x0 : w.cell? ⟨bc, 0, none⟩ = some (.pointer (some ⟨z.pk, 0, none⟩)) := st_cell h.sat hc 0
  have y0 : w.cell? ⟨bx, 0, none⟩ = some (.string s.name) := st_cell h.sat hx 0
  have y1 : w.cell? ⟨bx, 1, none⟩ = some (.int .i64 (s.arg 0 : Int)) := st_cell h.sat hx 1
  have y2 : w.cell? ⟨bx, 2, none⟩ = some (.int .i64 (s.arg 1 : Int)) := st_cell h.sat hx 2
  have y3 : w.cell? ⟨bx, 3, none⟩ = some (.int .i64 (s.arg 2 : Int)) := st_cell h.sat hx 3
  have y4 : w.cell? ⟨bx, 4, none⟩ = some (.int .i64 (s.arg 3 : Int)) := st_cell h.sat hx 4
  have k3 := h.k3
  obtain ⟨w', hr, H', K'⟩ := h.drew.drop hs 0
  have hV : sigV s = .agg #[.string s.name, .int .i64 (s.arg 0 : Int), .int .i64 (s.arg 1 : Int), .int .i64 (s.arg 2 : Int), .int .i64 (s.arg 3 : Int)] := rfl
  rw [hV] at hr
  clear h hc hx hV
  go_enter Try.func153, Try.ntmps153
  go_wp2_with fail
  go_region
  all_goals
    go_end0
    exact ⟨rfl, H', (Kept.refl _ w).drew.trans K'⟩

/-- Joins of the Sets are taken back. -/
theorem Cz.undo {w : World} {base : Nat} {l : List Tm} {z : Zs} (h : Cz w base l z) (m : Int) :
    Calls Try.prog 31 #[.pointer (some ⟨z.ps, 0, none⟩), .int .i64 m] w fun e w' => e = .returned (.bool (undoes z.t m)) ∧ ∃ jv', jv'.ownBlock = z.jv.ownBlock ∧ Cz w' base l { z with jv := jv', g := Uf.back z.g z.t (undoK z.t m), t := z.t.drop (undoK z.t m) } ∧ Kept (Foot z.ps z.nb z.jv) w w' := by
  refine (Undo_st w base z.ps z.nb z.jv l.length z.g z.t h.sets m).mono ?_
  rintro e w' ⟨he, jv', hS, K, hloc⟩
  have A := h.apart
  obtain ⟨D, d1, d2, d3⟩ := h.known
  refine ⟨he, jv', hloc, ⟨h.cls.of_block (K.block _ h.cls.lt ?_), hS, h.terms.of_block (K.block _ h.terms.lt ?_), h.uses.of_block (K.block _ h.uses.lt ?_), ⟨D, mapIs_block d1 (K.block _ (World.ownsMap.lt d1) ?_), d2, d3⟩, ownsRow_block h.back (fun k hk => K.block k (h.back.lt k hk).2 ?_), fun x hx => (K.block x.1 (h.st_lt hx) (fun e => (h.far x hx).2 (.inr (.inl e)))).trans (h.sat x hx), fun x hx => ⟨(h.far x hx).1, fun hk => ?_⟩, h.argsAt, h.usesAt, h.bd, h.oks, h.len, h.bp, h.bt, h.bu, h.bm⟩, K⟩
  · rintro (e | e | e)
    · exact A.kp e
    · exact A.kn e
    · exact A.kj e
  · rintro (e | e | e)
    · exact A.pt e.symm
    · exact A.nt e.symm
    · exact A.jt e
  · rintro (e | e | e)
    · exact A.pu e.symm
    · exact A.nu e.symm
    · exact A.ju e
  · rintro (e | e | e)
    · exact A.pm e.symm
    · exact A.nm e.symm
    · exact A.jm e
  · rintro (e | e | e)
    · exact A.pb (by rw [hk, e])
    · exact A.nb (by rw [hk, e])
    · exact A.jb k e hk
  · refine (h.far x hx).2 ?_
    rcases hk with e | (e | e | e) | e | e | e
    · exact .inl e
    · exact .inr (.inl (.inl e))
    · exact .inr (.inl (.inr (.inl e)))
    · exact .inr (.inl (.inr (.inr (by rw [← hloc]; exact e))))
    · exact .inr (.inr (.inl e))
    · exact .inr (.inr (.inr (.inl e)))
    · exact .inr (.inr (.inr (.inr e)))

set_option maxHeartbeats 1000000 in
set_option maxRecDepth 100000 in
theorem undo_in (w : World) (base : Nat) (l : List Tm) (z : Zs) (h : Cz w base l z) (low mark : Nat) (old : Value) (ys : List Nat) (hlow : low < l.length) (hold : UseIs z.st old ys) (bc bm bo bl : Nat) (hc : (bc, Obj.cells #[.pointer (some ⟨z.pk, 0, none⟩)] 140) ∈ z.st) (hm : (bm, Obj.cells #[.int .i64 (mark : Int)] 3) ∈ z.st) (ho : (bo, Obj.cells #[old] 198) ∈ z.st) (hl : (bl, Obj.cells #[.int .i64 (low : Int)] 3) ∈ z.st) :
    Calls Try.prog 152 #[.pointer (some ⟨bc, 0, none⟩), .pointer (some ⟨bm, 0, none⟩), .pointer (some ⟨bo, 0, none⟩), .pointer (some ⟨bl, 0, none⟩)] w fun e w' => e = .returned (.tuple #[]) ∧ ∃ jv', jv'.ownBlock = z.jv.ownBlock ∧ Cz w' base l { z with jv := jv', g := Uf.back z.g z.t (undoK z.t mark), t := z.t.drop (undoK z.t mark), uv := fun i => if i = low then old else z.uv i, us := fun i => if i = low then ys else z.us i } ∧ Kept (fun k => Foot z.ps z.nb z.jv k ∨ k = z.ub) w w' := by
  have x0 : w.cell? ⟨bc, 0, none⟩ = some (.pointer (some ⟨z.pk, 0, none⟩)) := st_cell h.sat hc 0
  have x1 : w.cell? ⟨bm, 0, none⟩ = some (.int .i64 (mark : Int)) := st_cell h.sat hm 0
  have k0 := h.k0
  have UN := fun m => (h.drewN m).undo (mark : Int)
  have hlen := h.len
  go_enter Try.func152, Try.ntmps152
  go_wp2_with fail
  go_cut [9] from 4 to 9 (fun v wx => v = .bool (undoes z.t mark) ∧ ∃ jv', jv'.ownBlock = z.jv.ownBlock ∧ Cz wx base l { z with jv := jv', g := Uf.back z.g z.t (undoK z.t mark), t := z.t.drop (undoK z.t mark) } ∧ Kept (Foot z.ps z.nb z.jv) w wx)
  case first =>
    go_region_with (go_at_call 31; refine (UN 1).mono ?_; rintro e w2 ⟨rfl, jv', hj, H2, K2⟩)
    all_goals
      go_wp2_with fail
      go_meet
      case rel =>
        have K2' : Kept (Foot z.ps z.nb z.jv) (w.drewN 1) w2 := K2
        exact ⟨rfl, jv', hj, H2, ((Kept.refl _ w).drewN 1).trans K2'⟩
  case rest =>
    obtain ⟨rfl, jv', hj, H2, K2⟩ := hcut
    obtain ⟨oa, oc, hof⟩ := hold.form
    subst hof
    have y0 : wc.cell? ⟨bc, 0, none⟩ = some (.pointer (some ⟨z.pk, 0, none⟩)) := st_cell H2.sat hc 0
    have y1 : wc.cell? ⟨bl, 0, none⟩ = some (.int .i64 (low : Int)) := st_cell H2.sat hl 0
    have y2 : wc.cell? ⟨bo, 0, none⟩ = some (.slice oa ys.length oc) := st_cell H2.sat ho 0
    have k2 : wc.cell? ⟨z.pk, 2, none⟩ = some (.slice (some ⟨z.ub, 0, none⟩) l.length l.length) := H2.k2
    have ul := H2.u hlow
    have fu := H2.uses.frozen low
    have H3 := (H2.setUse low (.slice oa ys.length oc) ys hold).1
    have K3 := Kept.setCell (S := fun k => Foot z.ps z.nb z.jv k ∨ k = z.ub) (p := ⟨z.ub, low, none⟩) (Kept.mono K2 (fun _ _ e => .inl e)) (.inr rfl) (.slice oa ys.length oc)
    clear UN x0 x1 k0 h hc hm ho hl hold
    go_wp2_with fail
    go_region
    all_goals
      go_end0
      exact ⟨rfl, jv', hj, H3.drew, K3.drew⟩

end Go.Proofs.Ytinphcnknionmaa

namespace Go.Proofs.Ytinphcnknionmaa
open Go.RowKit Go.Shelf

attribute [local go_sem] Oper.semAt_some

set_option maxHeartbeats 1000000 in
theorem kBw_in (F : Fence) (n : Nat) (h5 : F.fn 124) (hro : F.round = none) (a : Option Addr) (len cap : Nat) (w : World) :
    CallsIn F n Try.prog 124 #[.slice a len cap] w fun e w' => e = .returned (.func (.func 154) #[] #[.pointer (some ⟨w.heap.size, 0, none⟩)]) ∧ w' = w.alloc (.cells #[.slice a len cap] 148) := by
  refine callsIn_of_wp Try.func124 rfl h5 ?_ hro
  simp only [Try.ntmps124, List.size_toArray, List.length_cons, List.length_nil, Nat.reduceAdd, Nat.reduceSub, Array.replicate_succ, Array.replicate_zero, List.push_toArray, List.append_toArray, List.nil_append, List.cons_append]
  gi_wp2
  go_ret
  exact ⟨rfl, rfl⟩

/-- What a round keeps: what lay below n₀, but for the nodes. -/
abbrev KeptS (S : Nat → Prop) (n₀ : Nat) (w w' : World) : Prop := Kept (fun k => S k ∨ n₀ ≤ k) w w'

def encK (fs : Nat → Value) (x : Nat) : Array Value := #[.int .i64 (x : Int), fs x]

set_option maxRecDepth 100000 in
set_option maxHeartbeats 2000000 in
theorem kBack1_in (F : Fence) (n : Nat) (h7 : F.fn 154) (hro : F.round = none) (hn : 1 ≤ n) (l Bs n₀ : Nat) (S : Nat → Prop) (b off len cap : Nat) (fs : Nat → Value) (hfs : ∀ j, j < len → ∃ fn ca, fs j = .func fn #[] ca) (hreach : len ≤ 100000) (hb : b < n₀) (hB : Bs < n₀) (hbn : ¬ S b) (hBn : ¬ S Bs) (J Jx : List { i : Nat // i < len } → World → Prop)
    (hY : ∀ pre x W, J pre W → pre.length < len → YieldAt F (n - 1) Try.prog l (encK fs x.1) W fun e W' =>
      (e = .returned (.bool true) ∧ J (pre ++ [x]) W' ∧ KeptS S n₀ W W') ∨ (e = .returned (.bool false) ∧ Jx (pre ++ [x]) W'))
    (W : World) (hn₀ : n₀ ≤ W.heap.size) (hBs : W.cell? ⟨Bs, 0, none⟩ = some (.slice (some ⟨b, off, none⟩) len cap))
    (hc : ∀ j, j < len → W.cell? ⟨b, off + j, none⟩ = some (fs j)) (h0 : J [] W) :
    CallsIn F n Try.prog 154 #[.func (.yield l) #[] #[], .pointer (some ⟨Bs, 0, none⟩)] W fun e W' => (∃ v, e = .returned v) ∧
      ((∃ ys, (Down len ys ∧ ys.length = len) ∧ J ys W') ∨ (∃ pre, True ∧ Jx pre W')) := by
  refine callsIn_of_wp Try.func154 rfl h7 ?_ hro
  simp only [Try.ntmps154, List.size_toArray, List.length_cons, List.length_nil, Nat.reduceAdd, Nat.reduceSub, Array.replicate_succ, Array.replicate_zero, List.push_toArray, List.append_toArray, List.nil_append, List.cons_append]
  gi_wp2
  gi_loopw [3] (fun i wr => ∃ pre : List { i : Nat // i < len }, pre.length ≤ len ∧ Down len pre ∧ i = .int .i64 ((len : Int) - 1 - pre.length) ∧ J pre wr ∧ KeptS S n₀ W wr)
    (fun i _ => (intOf i + 1).toNat)
  case atStart => exact ⟨[], Nat.zero_le _, Down.nil _, by simp, h0, Kept.refl _ _⟩
  case round =>
    obtain ⟨pre, hp, hd, rfl, hJs, hnx⟩ := hrel
    have hBs' : wr.cell? ⟨Bs, 0, none⟩ = some (.slice (some ⟨b, off, none⟩) len cap) := (World.cell?_of_block (a := ⟨Bs, 0, none⟩) (hnx.block Bs (by omega) (fun e => e.elim hBn (fun x => by omega)))).trans hBs
    by_cases hlt : pre.length < len
    · obtain ⟨k, hk⟩ : ∃ k : Nat, k + pre.length + 1 = len := ⟨len - 1 - pre.length, by omega⟩
      have hkl : k < len := by omega
      obtain ⟨fn, tmps, assign, body, hy, hR⟩ := hY pre ⟨k, hkl⟩ wr hJs hlt
      have e1 : ((len : Int) - 1 - pre.length) = (k : Int) := by omega
      rw [e1]
      have hcx := hc k hkl
      have c1 : wr.cell? ⟨b, off + k, none⟩ = some (fs k) := (World.cell?_of_block (a := ⟨b, off + k, none⟩) (hnx.block b (by omega) (fun e => e.elim hbn (fun x => by omega)))).trans hcx
      obtain ⟨fn0, ca0, hf0⟩ := hfs k hkl
      have HK : Hid (k + pre.length + 1 = len) := hk
      clear hk e1 hcx hc hY hBs
      unfold encK at hy
      rw [hf0] at hy c1
      clear hf0
      gi_wp2
      refine hR.mono ?_
      rintro e W3 (⟨rfl, hJ3, hk3⟩ | ⟨rfl, hJx3⟩)
      · gi_wp2
        go_roundw
        case rel => exact ⟨pre ++ [⟨k, hkl⟩], by simp; omega, hd.snoc _ HK.out, by have := HK.out; simp; omega, hJ3, hnx.trans (hk3.mono fun x _ hx => hx)⟩
        case measure => simp [intOf]
      · gi_wp2
        refine bodyPost_ret (results_none rfl _ _ _) rfl ?_
        exact ⟨⟨_, rfl⟩, .inr ⟨_, trivial, hJx3⟩⟩
    · have e1 : ((len : Int) - 1 - pre.length) = -1 := by omega
      rw [e1]
      have HE : Hid (pre.length = len) := by show pre.length = len; omega
      clear e1
      gi_wp2
      go_end0
      exact ⟨⟨_, rfl⟩, .inl ⟨_, ⟨hd, HE.out⟩, hJs⟩⟩

set_option maxRecDepth 100000 in
set_option maxHeartbeats 1000000 in
/-- .. at the nil slice: no round. -/
theorem kBack1_nil (F : Fence) (n : Nat) (h7 : F.fn 154) (hro : F.round = none) (l Bs : Nat) (J : List { i : Nat // i < 0 } → World → Prop) (W : World) (hBs : W.cell? ⟨Bs, 0, none⟩ = some (.slice none 0 0)) (h0 : J [] W) :
    CallsIn F n Try.prog 154 #[.func (.yield l) #[] #[], .pointer (some ⟨Bs, 0, none⟩)] W fun e W' => (∃ v, e = .returned v) ∧ J [] W' := by
  refine callsIn_of_wp Try.func154 rfl h7 ?_ hro
  simp only [Try.ntmps154, List.size_toArray, List.length_cons, List.length_nil, Nat.reduceAdd, Nat.reduceSub, Array.replicate_succ, Array.replicate_zero, List.push_toArray, List.append_toArray, List.nil_append, List.cons_append]
  gi_wp2
  gi_loopw [3] (fun i wr => i = .int .i64 (-1) ∧ J [] wr) (fun _ _ => 0)
  case atStart => exact ⟨rfl, h0⟩
  case round =>
    obtain ⟨rfl, hJs⟩ := hrel
    gi_wp2
    go_end0
    exact ⟨⟨_, rfl⟩, hJs⟩

/-- The slice value sv holds the steps fs, in a block below n₀; or it is nil and there are none. -/
def StepsAt (n₀ : Nat) (S : Nat → Prop) (W : World) (sv : Value) (len : Nat) (fs : Nat → Value) : Prop :=
  (sv = .slice none 0 0 ∧ len = 0) ∨ ∃ b off cap, sv = .slice (some ⟨b, off, none⟩) len cap ∧ b < n₀ ∧ ¬ S b ∧ (∀ j, j < len → ∃ fn ca, fs j = .func fn #[] ca) ∧
    ∀ j, j < len → W.cell? ⟨b, off + j, none⟩ = some (fs j)

theorem StepsAt.below {n₀ : Nat} {S : Nat → Prop} {A B : World} (h : Below n₀ A B) {sv : Value} {len : Nat} {fs : Nat → Value} : StepsAt n₀ S A sv len fs → StepsAt n₀ S B sv len fs
  | .inl e => .inl e
  | .inr ⟨b, off, cap, e, hb, hn, hf, hc⟩ => .inr ⟨b, off, cap, e, hb, hn, hf, fun j hj => (h.cell (p := ⟨b, off + j, none⟩) hb).trans (hc j hj)⟩

theorem kBw_stops (F : Fence) (n : Nat) (h7 : F.fn 154) (hro : F.round = none) (hn : 1 ≤ n) (Bs n₀ : Nat) (S : Nat → Prop) (sv : Value) (len : Nat) (fs : Nat → Value) (hreach : len ≤ 100000) (w : World) (hBs : Bs < n₀) (hBn : ¬ S Bs) (hn₀ : n₀ ≤ w.heap.size)
    (hc : w.cell? ⟨Bs, 0, none⟩ = some sv) (hI : StepsAt n₀ S w sv len fs) :
    SeqStopsK F n Try.prog 154 #[.pointer (some ⟨Bs, 0, none⟩)] (fun x : { i : Nat // i < len } => encK fs x.1) (KeptS S n₀) (fun ys => Down len ys ∧ ys.length = len) (fun _ => True) len w := fun l J Jx W hW _ _ hY h0 => by
  have hc' := (hW.cell (p := ⟨Bs, 0, none⟩) (by show Bs < _; omega)).trans hc
  rcases hI.below (hW.mono hn₀) with ⟨rfl, rfl⟩ | ⟨b, off, cap, rfl, hb, hbn, hf, hcs⟩
  · exact (kBack1_nil F n h7 hro l Bs J W hc' h0).mono fun e W' ⟨he, hj⟩ => ⟨he, .inl ⟨[], ⟨Down.nil _, rfl⟩, hj⟩⟩
  · exact kBack1_in F n h7 hro hn l Bs n₀ S b off len cap fs hf hreach hb hBs hbn hBn J Jx hY W (Nat.le_trans hn₀ hW.size) hc' hcs h0

end Go.Proofs.Ytinphcnknionmaa

namespace Go.Proofs.Ytinphcnknionmaa
open Go.RowKit Go.Maps

theorem Chain.bs {l : List Tm} {a b : Zs} (h : Chain l a b) : ∃ r, b.bs = a.bs ++ r := by
  induction h with
  | refl => exact ⟨[], by simp⟩
  | like n s bc bx v _ _ _ ih =>
    obtain ⟨r, hr⟩ := ih
    exact ⟨r ++ [delF bc bx], by show _ ++ _ = _; rw [hr, List.append_assoc]⟩
  | join low high bc bm bo bl jv st2 v bv _ _ _ _ ih =>
    obtain ⟨r, hr⟩ := ih
    exact ⟨r ++ [undoF bc bm bo bl], by show _ ++ _ = _; rw [hr, List.append_assoc]⟩
theorem Chain.same {l : List Tm} {a b : Zs} (h : Chain l a b) : b.pk = a.pk ∧ b.ps = a.ps ∧ b.nb = a.nb ∧ b.tb = a.tb ∧ b.ub = a.ub ∧ b.mb = a.mb ∧ b.av = a.av := by
  induction h with
  | refl => exact ⟨rfl, rfl, rfl, rfl, rfl, rfl, rfl⟩
  | like n s bc bx v _ _ _ ih => exact ih
  | join low high bc bm bo bl jv st2 v bv _ _ _ _ ih => exact ih

/-- The state z, but for what its closure says: that is y's. -/
def Zs.with (z y : Zs) (jv : Value) : Zs := { z with jv := jv, uv := y.uv, g := y.g, t := y.t, us := y.us, kn := y.kn, ms := y.ms }

/-- A step's closure, and how it changes the state. -/
inductive StepOf (l : List Tm) (z : Zs) : Value → Prop
  | del (bc bx : Nat) (s : Tm) : Sk s → (bc, Obj.cells #[.pointer (some ⟨z.pk, 0, none⟩)] 140) ∈ z.st → (bx, Obj.cells (sigL s).toArray 196) ∈ z.st → StepOf l z (delF bc bx)
  | undo (bc bm bo bl low mark : Nat) (old : Value) (ys : List Nat) : low < l.length → UseIs z.st old ys → (bc, Obj.cells #[.pointer (some ⟨z.pk, 0, none⟩)] 140) ∈ z.st → (bm, Obj.cells #[.int .i64 (mark : Int)] 3) ∈ z.st → (bo, Obj.cells #[old] 198) ∈ z.st → (bl, Obj.cells #[.int .i64 (low : Int)] 3) ∈ z.st → StepOf l z (undoF bc bm bo bl)

theorem Chain.steps {l : List Tm} {a b : Zs} (h : Chain l a b) : ∀ f, f ∈ b.bs.drop a.bs.length → StepOf l b f := by
  induction h with
  | refl => intro f hf; simp at hf
  | @like b n s bc bx v hc h1 h2 ih =>
    intro f hf
    have hm : ∀ f, StepOf l b f → StepOf l (likeZ b n s bc bx v) f := fun f hf => by
      cases hf with
      | del bc' bx' s' k1 k2 k3 => exact .del bc' bx' s' k1 (List.mem_append_left _ k2) (List.mem_append_left _ k3)
      | undo bc' bm bo bl low mark old ys k1 k2 k3 k4 k5 k6 => exact .undo bc' bm bo bl low mark old ys k1 (k2.mono (fun x hx => List.mem_append_left _ hx)) (List.mem_append_left _ k3) (List.mem_append_left _ k4) (List.mem_append_left _ k5) (List.mem_append_left _ k6)
    obtain ⟨r, hr⟩ := hc.bs
    have hd : (likeZ b n s bc bx v).bs.drop a.bs.length = b.bs.drop a.bs.length ++ [delF bc bx] := by
      show (b.bs ++ [delF bc bx]).drop a.bs.length = _
      rw [List.drop_append_of_le_length (by rw [hr]; simp)]
    rw [hd] at hf
    rcases List.mem_append.1 hf with hf | hf
    · exact hm f (ih f hf)
    · simp at hf
      subst hf
      exact .del bc bx s h2 (List.mem_append_right _ (by simp [delS, likeZ])) (List.mem_append_right _ (by simp [delS]))
  | @join b low high bc bm bo bl jv st2 v bv hc h1 h2 h3 ih =>
    intro f hf
    have sub : ∀ x ∈ b.st, x ∈ (joinZ l b low high bc bm bo bl jv st2 v bv).st := fun x hx => List.mem_append_left _ (List.mem_append_left _ hx)
    have hm : ∀ f, StepOf l b f → StepOf l (joinZ l b low high bc bm bo bl jv st2 v bv) f := fun f hf => by
      cases hf with
      | del bc' bx' s' k1 k2 k3 => exact .del bc' bx' s' k1 (sub _ k2) (sub _ k3)
      | undo bc' bm bo bl low mark old ys k1 k2 k3 k4 k5 k6 => exact .undo bc' bm bo bl low mark old ys k1 (k2.mono sub) (sub _ k3) (sub _ k4) (sub _ k5) (sub _ k6)
    obtain ⟨r, hr⟩ := hc.bs
    have hd : (joinZ l b low high bc bm bo bl jv st2 v bv).bs.drop a.bs.length = b.bs.drop a.bs.length ++ [undoF bc bm bo bl] := by
      show (b.bs ++ [undoF bc bm bo bl]).drop a.bs.length = _
      rw [List.drop_append_of_le_length (by rw [hr]; simp)]
    rw [hd] at hf
    rcases List.mem_append.1 hf with hf | hf
    · exact hm f (ih f hf)
    · simp at hf
      subst hf
      have su : ∀ x ∈ undoS b low bc bm bo bl, x ∈ (joinZ l b low high bc bm bo bl jv st2 v bv).st := fun x hx => List.mem_append_left _ (List.mem_append_right _ hx)
      exact .undo bc bm bo bl low b.t.length (b.uv low) (b.us low) h2 (h3.mono sub) (su _ (by simp [undoS, joinZ])) (su _ (by simp [undoS])) (su _ (by simp [undoS])) (su _ (by simp [undoS]))

theorem UseIs.inj {st : List (Nat × Obj)} {w : World} (hw : Sat st w) {v : Value} {xs ys : List Nat} (h : UseIs st v xs) (k : UseIs st v ys) : xs = ys := by
  obtain ⟨a1, c1, f1⟩ := h.form
  obtain ⟨a2, c2, f2⟩ := k.form
  have hl : xs.length = ys.length := by rw [f1] at f2; injection f2
  apply List.ext_getElem hl
  intro i h1 h2
  have q1 : xs[i]? = some xs[i] := List.getElem?_eq_getElem h1
  have q2 : ys[i]? = some ys[i] := List.getElem?_eq_getElem h2
  obtain ⟨b, off, cap, e1, _, g1⟩ := h.cell hw q1
  obtain ⟨b', off', cap', e2, _, g2⟩ := k.cell hw q2
  rw [e1] at e2
  injection e2 with e2 _ _
  injection e2 with e2
  injection e2 with e3 e4 _
  subst e3 e4
  have := g1 i _ q1
  rw [g2 i _ q2] at this
  simp at this
  omega

/-- The last step. -/
theorem Chain.last {l : List Tm} {a z : Zs} (h : Chain l a z) (hl : a.bs.length < z.bs.length) :
    ∃ b, Chain l a b ∧ Chain l b z ∧ z.bs.length = b.bs.length + 1 ∧ ((∃ n s bc bx v, z = likeZ b n s bc bx v ∧ b.kn s = none ∧ Sk s) ∨ (∃ low high bc bm bo bl jv st2 v bv, z = joinZ l b low high bc bm bo bl jv st2 v bv ∧ joins l.length b.g low high = true ∧ low < l.length ∧ UseIs b.st (b.uv low) (b.us low))) := by
  cases h with
  | refl => omega
  | @like b n s bc bx v hc h1 h2 => exact ⟨b, hc, .like n s bc bx v (.refl b) h1 h2, by show (b.bs ++ [_]).length = _; simp, .inl ⟨n, s, bc, bx, v, rfl, h1, h2⟩⟩
  | @join b low high bc bm bo bl jv st2 v bv hc h1 h2 h3 => exact ⟨b, hc, .join low high bc bm bo bl jv st2 v bv (.refl b) h1 h2 h3, by show (b.bs ++ [_]).length = _; simp, .inr ⟨low, high, bc, bm, bo, bl, jv, st2, v, bv, rfl, h1, h2, h3⟩⟩

/-- What is made unknown again was not known. -/
theorem like_back (b : Zs) (n : Nat) (s : Tm) (bc bx : Nat) (v : Value) (h : b.kn s = none) : (fun u => if u = s then none else (likeZ b n s bc bx v).kn u) = b.kn := by
  funext u
  by_cases e : u = s
  · rw [if_pos e, e, h]
  · rw [if_neg e]
    show (if u = s then some n else b.kn u) = b.kn u
    rw [if_neg e]

/-- A join that is taken back leaves all as it was. -/
theorem join_back (l : List Tm) (b : Zs) (low high : Nat) (h : joins l.length b.g low high = true) :
    undoK (joinT l.length b.g b.t low high) (b.t.length : Int) = 1 ∧ Uf.back (joinG l.length b.g low high) (joinT l.length b.g b.t low high) 1 = b.g ∧ (joinT l.length b.g b.t low high).drop 1 = b.t := by
  have ht : joinT l.length b.g b.t low high = ⟨(Uf.pick b.g low high).1, (b.g.N (Uf.pick b.g low high).2).lst, b.g⟩ :: b.t := by rw [joinT, h]; simp
  rw [ht]
  refine ⟨?_, ?_, rfl⟩
  · have hu : undoes (⟨(Uf.pick b.g low high).1, (b.g.N (Uf.pick b.g low high).2).lst, b.g⟩ :: b.t : List Uf.Rec) (b.t.length : Int) = true := decide_eq_true (by simp; omega)
    rw [undoK, hu, if_pos rfl, Int.toNat_natCast]
    simp
  · simp [Uf.back, back_zero]

end Go.Proofs.Ytinphcnknionmaa

namespace Go.Proofs.Ytinphcnknionmaa
open Go.RowKit Go.Shelf
attribute [local go_sem] Oper.semAt_some

theorem with_all {z y : Zs} {jv : Value} (hj : jv.ownBlock = z.jv.ownBlock) {k : Nat} (h : (z.with y jv).All k) : z.All k := by
  rcases h with (e | (e | e | e) | e | e | e) | e | e
  · exact .inl (.inl e)
  · exact .inl (.inr (.inl (.inl e)))
  · exact .inl (.inr (.inl (.inr (.inl e))))
  · exact .inl (.inr (.inl (.inr (.inr (by rw [← hj]; exact e)))))
  · exact .inl (.inr (.inr (.inl e)))
  · exact .inl (.inr (.inr (.inr (.inl e))))
  · exact .inl (.inr (.inr (.inr (.inr e))))
  · exact .inr (.inl e)
  · exact .inr (.inr e)
theorem with_foot {z y : Zs} {jv : Value} (hj : jv.ownBlock = z.jv.ownBlock) {k : Nat} (h : (z.with y jv).Foot k) : z.Foot k := by
  rcases h with e | (e | e | e) | e | e | e
  · exact .inl e
  · exact .inr (.inl (.inl e))
  · exact .inr (.inl (.inr (.inl e)))
  · exact .inr (.inl (.inr (.inr (by rw [← hj]; exact e))))
  · exact .inr (.inr (.inl e))
  · exact .inr (.inr (.inr (.inl e)))
  · exact .inr (.inr (.inr (.inr e)))

/-- What a step writes: not the row of steps itself. -/
def Zs.Wr (z : Zs) (k : Nat) : Prop := z.Foot k ∧ z.bv.ownBlock ≠ some k

/-- Between two rounds. -/
structure MidK (W0 : World) (base : Nat) (l : List Tm) (z z0 : Zs) (len : Nat) (pre : List { i : Nat // i < len }) (W : World) : Prop where
  st : ∃ (y : Zs) (jv : Value), jv.ownBlock = z.jv.ownBlock ∧ Cz W base l (z.with y jv) ∧ (Down len pre → ∃ zk, Chain l z0 zk ∧ Chain l zk z ∧ zk.bs.length + pre.length = z.bs.length ∧ y.uv = zk.uv ∧ y.g = zk.g ∧ y.t = zk.t ∧ y.us = zk.us ∧ y.kn = zk.kn ∧ y.ms = zk.ms)
  kept : KeptS z.Wr W0.heap.size W0 W
theorem midK_own (W0 : World) (base : Nat) (l : List Tm) (z z0 : Zs) (len : Nat) (h : Cz W0 base l z) : OwnFrom W0.heap.size (MidK W0 base l z z0 len) := by
  intro pre A B row hs hg hr
  obtain ⟨y, jv, h1, h2, h3⟩ := hs.st
  have K : Kept (fun k => some k = row) A B := ⟨hg.os, hg.tape, hg.output, hg.size, fun k hk hk2 => hg.block k hk hk2⟩
  refine ⟨⟨y, jv, h1, h2.keep K (fun k hk e => ?_), h3⟩, hs.kept.grown hg (fun k e => Or.inr (hr k e).1)⟩
  have a1 := h.all_lt (with_all h1 hk)
  have a2 := (hr k e.symm).1
  omega

/-- One step is taken back: the right one, or another. -/
theorem step_call {W : World} {base : Nat} {l : List Tm} {z z0 y : Zs} {jv : Value} (hj : jv.ownBlock = z.jv.ownBlock) (C : Cz W base l (z.with y jv)) {f : Value} (hf : StepOf l z f) :
    ∃ fn ca, f = .func (.func fn) #[] ca ∧ ((fn = 153 ∧ ∃ p q, ca = #[p, q]) ∨ (fn = 152 ∧ ∃ p q r s, ca = #[p, q, r, s])) ∧ Calls Try.prog fn ca W fun e W' => e = .returned (.tuple #[]) ∧ ∃ y' jv', jv'.ownBlock = z.jv.ownBlock ∧ Cz W' base l (z.with y' jv') ∧ Kept z.Wr W W' ∧
      (∀ zk, Chain l zk z → Chain l z0 zk → z0.bs.length < zk.bs.length → z.bs[zk.bs.length - 1]? = some f → y.uv = zk.uv → y.g = zk.g → y.t = zk.t → y.us = zk.us → y.kn = zk.kn → y.ms = zk.ms → ∃ b, Chain l z0 b ∧ Chain l b z ∧ b.bs.length + 1 = zk.bs.length ∧ y'.uv = b.uv ∧ y'.g = b.g ∧ y'.t = b.t ∧ y'.us = b.us ∧ y'.kn = b.kn ∧ y'.ms = b.ms) := by
  have A := C.apart
  have inv : ∀ {b : Nat} {o o' : Obj}, (b, o) ∈ z.st → (b, o') ∈ z.st → o = o' := fun h1 h2 => by
    have e1 := C.sat _ h1
    have e2 := C.sat _ h2
    rw [e1] at e2
    exact Option.some.inj e2
  cases hf with
  | del bc bx s k1 k2 k3 =>
    refine ⟨153, #[.pointer (some ⟨bc, 0, none⟩), .pointer (some ⟨bx, 0, none⟩)], rfl, .inl ⟨rfl, _, _, rfl⟩, (del_in W base l (z.with y jv) C s k1 bc bx k2 k3).mono ?_⟩
    rintro e W' ⟨he, C', K'⟩
    refine ⟨he, { y with kn := fun u => if u = s then none else y.kn u, ms := y.ms - (if (y.kn s).isSome then 1 else 0) }, jv, hj, C', Kept.mono K' (fun k _ e => ⟨.inr (.inr (.inr (.inl e))), fun h => A.mb (by rw [← e]; exact h)⟩), ?_⟩
    intro zk c1 c2 hl hx e1 e2 e3 e4 e5 e6
    obtain ⟨b, b1, b2, b3, hb⟩ := c2.last hl
    obtain ⟨r, hr⟩ := c1.bs
    rcases hb with ⟨n, s', bc', bx', v, rfl, q1, q2⟩ | ⟨low, high, bc', bm, bo, bl, jv2, st2, v, bv, rfl, q1, q2, q3⟩
    · have hlast : z.bs[(likeZ b n s' bc' bx' v).bs.length - 1]? = some (delF bc' bx') := by
        rw [hr]
        show ((b.bs ++ [delF bc' bx']) ++ r)[(b.bs ++ [delF bc' bx']).length - 1]? = _
        simp
      rw [hlast] at hx
      simp [delF] at hx
      obtain ⟨rfl, rfl⟩ := hx
      have hin : (bx', Obj.cells (sigL s').toArray 196) ∈ z.st := c1.st _ (List.mem_append_right _ (by simp [delS]))
      have hso := inv k3 hin
      simp only [Obj.cells.injEq, and_true] at hso
      have hss : s = s' := sigV_inj k1 q2 (by unfold sigV; rw [hso])
      subst hss
      refine ⟨b, b1, b2.trans c1, b3.symm, e1, e2, e3, e4, ?_, ?_⟩
      · show (fun u => if u = s then none else y.kn u) = b.kn
        rw [e5]
        exact like_back b n s bc' bx' v q1
      · show y.ms - (if (y.kn s).isSome then 1 else 0) = b.ms
        have e7 : y.kn s = some n := by rw [e5]; exact if_pos rfl
        rw [e6, e7]
        show b.ms + 1 - 1 = b.ms
        omega
    · exfalso
      have hlast : z.bs[(joinZ l b low high bc' bm bo bl jv2 st2 v bv).bs.length - 1]? = some (undoF bc' bm bo bl) := by
        rw [hr]
        show ((b.bs ++ [undoF bc' bm bo bl]) ++ r)[(b.bs ++ [undoF bc' bm bo bl]).length - 1]? = _
        simp
      rw [hlast] at hx
      simp [delF, undoF] at hx
  | undo bc bm bo bl low mark old ys k1 k2 k3 k4 k5 k6 =>
    refine ⟨152, #[.pointer (some ⟨bc, 0, none⟩), .pointer (some ⟨bm, 0, none⟩), .pointer (some ⟨bo, 0, none⟩), .pointer (some ⟨bl, 0, none⟩)], rfl, .inr ⟨rfl, _, _, _, _, rfl⟩, (undo_in W base l (z.with y jv) C low mark old ys k1 k2 bc bm bo bl k3 k4 k5 k6).mono ?_⟩
    rintro e W' ⟨he, jv', hj', C', K'⟩
    refine ⟨he, { y with g := Uf.back y.g y.t (undoK y.t mark), t := y.t.drop (undoK y.t mark), uv := fun i => if i = low then old else y.uv i, us := fun i => if i = low then ys else y.us i }, jv', hj'.trans hj, C', Kept.mono K' ?_, ?_⟩
    · rintro k _ (e | e)
      · refine ⟨with_foot (y := y) hj (.inr (.inl e)), fun h => ?_⟩
        rcases e with e | e | e
        · exact A.pb (by rw [← e]; exact h)
        · exact A.nb (by rw [← e]; exact h)
        · exact A.jb k e h
      · exact ⟨.inr (.inr (.inl e)), fun h => A.ub (by rw [← e]; exact h)⟩
    intro zk c1 c2 hl hx e1 e2 e3 e4 e5 e6
    obtain ⟨b, b1, b2, b3, hb⟩ := c2.last hl
    obtain ⟨r, hr⟩ := c1.bs
    rcases hb with ⟨n, s', bc', bx', v, rfl, q1, q2⟩ | ⟨low', high, bc', bm', bo', bl', jv2, st2, v, bv, rfl, q1, q2, q3⟩
    · exfalso
      have hlast : z.bs[(likeZ b n s' bc' bx' v).bs.length - 1]? = some (delF bc' bx') := by
        rw [hr]
        show ((b.bs ++ [delF bc' bx']) ++ r)[(b.bs ++ [delF bc' bx']).length - 1]? = _
        simp
      rw [hlast] at hx
      simp [delF, undoF] at hx
    · have hlast : z.bs[(joinZ l b low' high bc' bm' bo' bl' jv2 st2 v bv).bs.length - 1]? = some (undoF bc' bm' bo' bl') := by
        rw [hr]
        show ((b.bs ++ [undoF bc' bm' bo' bl']) ++ r)[(b.bs ++ [undoF bc' bm' bo' bl']).length - 1]? = _
        simp
      rw [hlast] at hx
      simp [undoF] at hx
      obtain ⟨rfl, rfl, rfl, rfl⟩ := hx
      have su : ∀ x ∈ undoS b low' bc' bm' bo' bl', x ∈ z.st := fun x hx => c1.st _ (List.mem_append_left _ (List.mem_append_right _ hx))
      have i1 := inv k4 (su (bm', .cells #[.int .i64 (b.t.length : Int)] 3) (by simp [undoS]))
      have i2 := inv k5 (su (bo', .cells #[b.uv low'] 198) (by simp [undoS]))
      have i3 := inv k6 (su (bl', .cells #[.int .i64 (low' : Int)] 3) (by simp [undoS]))
      simp at i1 i2 i3
      have i1' : mark = b.t.length := by omega
      have i3' : low = low' := by omega
      subst i1' i2 i3'
      have hys : ys = b.us low := UseIs.inj C.sat k2 (q3.mono (fun x hx => c1.st _ (List.mem_append_left _ (List.mem_append_left _ hx))))
      subst hys
      obtain ⟨j1, j2, j3⟩ := join_back l b low high q1
      have ht : y.t = joinT l.length b.g b.t low high := e3
      have hg : y.g = joinG l.length b.g low high := e2
      refine ⟨b, b1, b2.trans c1, b3.symm, ?_, ?_, ?_, ?_, e5, e6⟩
      · funext i
        show (if i = low then b.uv low else y.uv i) = b.uv i
        rw [e1]
        show (if i = low then b.uv low else if i = low then v else b.uv i) = b.uv i
        by_cases e : i = low
        · rw [if_pos e, e]
        · rw [if_neg e, if_neg e]
      · show Uf.back y.g y.t (undoK y.t (b.t.length : Int)) = b.g
        rw [ht, hg, j1, j2]
      · show y.t.drop (undoK y.t (b.t.length : Int)) = b.t
        rw [ht, j1, j3]
      · funext i
        show (if i = low then b.us low else y.us i) = b.us i
        rw [e4]
        show (if i = low then b.us low else if i = low then b.us low ++ b.us high else b.us i) = b.us i
        by_cases e : i = low
        · rw [if_pos e, e]
        · rw [if_neg e, if_neg e]

end Go.Proofs.Ytinphcnknionmaa

namespace Go.Proofs.Ytinphcnknionmaa
open Go.RowKit Go.Shelf
attribute [local go_sem] Oper.semAt_some

theorem keptS_b {S : Nat → Prop} {n₀ : Nat} {w : World} (hn : n₀ ≤ w.heap.size) (W : World) (l : Nat) (o o' : Obj) (hl : w.heap.size ≤ l) (_ : W.heap[l]? = some o) (_ : o.isCells = false) (_ : o.isWalk = false) : KeptS S n₀ W (W.putObj l o') :=
  (Kept.refl _ W).grown (grownBy_putObj' W l o') (fun k e => by cases e; exact Or.inr (by omega))
theorem ownsRow_above {W : World} {base : Nat} {e : TypeId} {g cap m : Nat} {ys : List Value} (h : W.ownsRow base e 1 (.slice (some ⟨g, 0, none⟩) m cap) m ys) {o : Nat} (ho : m ≤ o) (v : Value) : (W.setCell ⟨g, o, none⟩ v).ownsRow base e 1 (.slice (some ⟨g, 0, none⟩) m cap) m ys := by
  refine ⟨h.1, ?_⟩
  rcases h.2 with ⟨e', _⟩ | ⟨g', c, cur, e', h1, h2, h3, h4, h5, h6⟩
  · cases e'
  · simp only [Value.slice.injEq, Option.some.injEq, Addr.mk.injEq, and_true, true_and] at e'
    obtain ⟨rfl, rfl⟩ := e'
    refine .inr ⟨g, cap, cur.setIfInBounds o v, rfl, h1, ?_, h3, h4, by simpa using h5, ?_⟩
    · simp [World.setCell, Array.getElem?_modify, h2]
    · rw [← h6, Array.toList_setIfInBounds, List.take_set_of_le (by omega)]
theorem ownsRow_aboves {base : Nat} {e : TypeId} {g cap m : Nat} {ys : List Value} : ∀ (vs : List Value) (o : Nat) (W : World), m ≤ o → W.ownsRow base e 1 (.slice (some ⟨g, 0, none⟩) m cap) m ys → (W.setCells g o vs).ownsRow base e 1 (.slice (some ⟨g, 0, none⟩) m cap) m ys ∧ Kept1 g W (W.setCells g o vs)
  | [], _, W, _, h => ⟨h, Kept.refl _ W⟩
  | v :: vs, o, W, ho, h => by
    obtain ⟨h1, h2⟩ := ownsRow_aboves vs (o + 1) (W.setCell ⟨g, o, none⟩ v) (by omega) (ownsRow_above h ho v)
    exact ⟨h1, (Kept1.set (Kept.refl _ W) o v).trans h2⟩

theorem zeroStep (w : World) : (zeroValue 1).run Try.prog w = .ok .nilFunc w := by kernel_rfl
/-- The steps that were taken back are cleared. -/
theorem clear_back {W : World} {base bb cap n m off : Nat} {xs : List Value} (h : W.ownsRow base 1 1 (.slice (some ⟨bb, 0, none⟩) n cap) n xs) (hm : m ≤ n) (hoff : m < n → off = m) (ty : TypeId) :
    ∃ W', (Builtin.clear_ #[148] ty #[.slice (some ⟨bb, off, none⟩) (n - m) (cap - m)]).run Try.prog W = .ok (.tuple #[]) W' ∧ W'.ownsRow base 1 1 (.slice (some ⟨bb, 0, none⟩) m cap) m (xs.take m) ∧ Kept1 bb W W' := by
  have hc := ownsRow_cut h rfl hm
  rw [Nat.mul_one] at hc
  by_cases e : m < n
  · rw [hoff e]
    have hcell : ∀ j, j < n - m → (W.cell? ⟨bb, m + j, none⟩).isSome = true := fun j hj => by
      rw [h.cellAt (m + j) (by omega), List.getElem?_eq_getElem (by rw [h.1]; omega)]
      rfl
    have hr := Lib.run_clear_slice (P := Try.prog) W 148 1 ty .nilFunc Try.underlying148 zeroStep rfl rfl bb m (n - m) (cap - m) (by omega) hcell (fun j _ => h.frozenAt (m + j))
    obtain ⟨h1, h2⟩ := ownsRow_aboves (List.replicate (n - m) .nilFunc) m W (Nat.le_refl _) hc
    exact ⟨_, hr, h1, h2⟩
  · obtain rfl : m = n := by omega
    refine ⟨W, ?_, hc, Kept.refl _ W⟩
    simp [Builtin.clear_, run_underlying Try.underlying148]

/-- The row of steps is another, where it lay. -/
theorem Cz.reback {w w1 : World} {base : Nat} {l : List Tm} {z : Zs} (h : Cz w base l z) (K1 : Kept (fun k => z.bv.ownBlock = some k) w w1) (v' : Value) (ys : List Value) (hown : w1.ownsRow base 1 1 v' ys.length ys) (hv : v'.ownBlock = z.bv.ownBlock) :
    Cz (w1.setCell ⟨z.pk, 4, none⟩ v') base l { z with bv := v', bs := ys } ∧ Kept z.Foot w (w1.setCell ⟨z.pk, 4, none⟩ v') ∧ w1.cell? ⟨z.pk, 4, none⟩ = some z.bv ∧ w1.frozen? ⟨z.pk, 4, none⟩ = false := by
  have K2 : Kept (fun k => k = z.pk ∨ z.bv.ownBlock = some k) w (w1.setCell ⟨z.pk, 4, none⟩ v') := Kept.setCell (p := ⟨z.pk, 4, none⟩) (Kept.mono K1 (fun _ _ e => .inr e)) (.inl rfl) _
  have A := h.apart
  have hp : w1.rowIs z.pk 150 5 (clsC z l.length) := h.cls.of_block (K1.block _ h.cls.lt A.kb)
  have np := rowIs_type hp (by decide) hown
  obtain ⟨D, d1, d2, d3⟩ := h.known
  have hfoot : ∀ k, Zs.Foot { z with bv := v', bs := ys } k → z.Foot k := by
    rintro k (e | e | e | e | e)
    · exact .inl e
    · exact .inr (.inl e)
    · exact .inr (.inr (.inl e))
    · exact .inr (.inr (.inr (.inl e)))
    · exact .inr (.inr (.inr (.inr (hv ▸ e))))
  refine ⟨⟨(hp.set 4 v').congr ?_, h.sets.other K2 ?_ ?_ ?_, h.terms.of_block (K2.block _ h.terms.lt ?_), h.uses.of_block (K2.block _ h.uses.lt ?_), ⟨D, mapIs_block d1 (K2.block _ (World.ownsMap.lt d1) ?_), d2, d3⟩, ?_, ?_, ?_, h.argsAt, h.usesAt, h.bd, h.oks, h.len, h.bp, h.bt, h.bu, h.bm⟩, ?_, hp.cell (i := 4) (by omega), hp.frozen 4⟩
  · intro i hi
    rcases (by omega : i = 0 ∨ i = 1 ∨ i = 2 ∨ i = 3 ∨ i = 4) with rfl | rfl | rfl | rfl | rfl <;> simp [clsC]
  · rintro (e | e)
    · exact A.kp e.symm
    · exact A.pb e
  · rintro (e | e)
    · exact A.kn e.symm
    · exact A.nb e
  · rintro k hk (e | e)
    · exact A.kj (by rw [hk, e])
    · exact A.jb k hk e
  · rintro (e | e)
    · exact A.kt e.symm
    · exact A.bt e
  · rintro (e | e)
    · exact A.ku e.symm
    · exact A.ub e
  · rintro (e | e)
    · exact A.km e.symm
    · exact A.mb e
  · exact ownsRow_setCell_other hown np _
  · intro x hx
    refine (K2.block x.1 (h.st_lt hx) ?_).trans (h.sat x hx)
    rintro (e | e)
    · exact (h.far x hx).2 (.inl e)
    · exact (h.far x hx).2 (.inr (.inr (.inr (.inr e))))
  · intro x hx
    refine ⟨(h.far x hx).1, fun hk => ?_⟩
    exact (h.far x hx).2 (hfoot _ hk)
  · refine Kept.mono K2 ?_
    rintro k _ (e | e)
    · exact .inl e
    · exact .inr (.inr (.inr (.inr e)))

theorem Chain.eq_of_len {l : List Tm} {a b : Zs} (h : Chain l a b) (hl : b.bs.length = a.bs.length) : b = a := by
  by_cases e : a.bs.length < b.bs.length
  · omega
  · cases h with
    | refl => rfl
    | @like b n s bc bx v hc h1 h2 =>
      obtain ⟨r, hr⟩ := hc.bs
      have : (likeZ b n s bc bx v).bs.length = b.bs.length + 1 := by show (b.bs ++ [_]).length = _; simp
      rw [hr, List.length_append] at this
      omega
    | @join b low high bc bm bo bl jv st2 v bv hc h1 h2 h3 =>
      obtain ⟨r, hr⟩ := hc.bs
      have : (joinZ l b low high bc bm bo bl jv st2 v bv).bs.length = b.bs.length + 1 := by show (b.bs ++ [_]).length = _; simp
      rw [hr, List.length_append] at this
      omega
theorem StepOf.form {l : List Tm} {z : Zs} {f : Value} (h : StepOf l z f) : ∃ fn ca, f = .func fn #[] ca := by
  cases h with
  | del bc bx s => exact ⟨_, _, rfl⟩
  | undo bc bm bo bl => exact ⟨_, _, rfl⟩

set_option maxRecDepth 100000 in
set_option maxHeartbeats 2000000 in
theorem takeBack_in (w : World) (base : Nat) (l : List Tm) (z z0 : Zs) (h : Cz w base l z) (hc : Chain l z0 z) (hbs : z.bs.length ≤ 100000) (bb cap : Nat) (hbv : z.bv = .slice (some ⟨bb, 0, none⟩) z.bs.length cap) :
    CallsIn .wide 6 Try.prog 91 #[.pointer (some ⟨z.pk, 0, none⟩), .int .i64 (z0.bs.length : Int)] w fun e w' => e = .returned (.tuple #[]) ∧ ∃ jv, jv.ownBlock = z.jv.ownBlock ∧ Cz w' base l { z.with z0 jv with bv := .slice (some ⟨bb, 0, none⟩) z0.bs.length cap, bs := z0.bs } ∧ Kept z.Foot w w' := by
  have hml : z0.bs.length ≤ z.bs.length := by obtain ⟨r, hr⟩ := hc.bs; rw [hr]; simp
  generalize hm : z0.bs.length = m at *
  have k4 := h.k4
  rw [hbv] at k4
  have hcap : z.bs.length ≤ cap ∧ cap ≤ maxLen := by
    have hb := h.back
    rw [hbv] at hb
    rcases hb.2 with ⟨e, _⟩ | ⟨b, c, cur, e, _, _, h1, h2, _⟩
    · cases e
    · simp only [Value.slice.injEq] at e
      obtain ⟨_, _, rfl⟩ := e
      exact ⟨h1, h2⟩
  unfold maxLen at hcap
  obtain ⟨hc1, hc2⟩ := hcap
  obtain ⟨off, hoff, hsl⟩ : ∃ off, (m < z.bs.length → off = m) ∧ ∀ W, (Instr.slice 148 (.slice (some ⟨bb, 0, none⟩) z.bs.length cap) (some (.int .i64 (m : Int))) none none).run Try.prog W = .ok (.slice (some ⟨bb, off, none⟩) (z.bs.length - m) (cap - m)) W := by
    refine ⟨if cap = m then 0 else m, fun hlt => if_neg (by omega), fun W => ?_⟩
    have hsz : (sizeOf 1).run Try.prog W = .ok 1 W := by
      obtain ⟨i0, hi0, _, hz1, _⟩ := info_parts infoStep
      simp [sizeOf, typeInfo, hi0, hz1]
    rw [run_slice_l W 148 _ _ _ (by kernel_rfl) .i64 (m : Int) (by omega) (by omega)]
    rw [show Try.prog.elem 148 = 1 from by kernel_rfl, hsz]
    simp only [Result.andThen, sliced, Int.toNat_natCast]
    by_cases e : cap = m
    · simp [e]
    · simp [e, Addr.add]
      exact fun h => h.symm
  have Hoff : Hid (m < z.bs.length → off = m) := hoff
  have HM : Hid (z0.bs.length = m) := hm
  clear hoff hm
  refine callsIn_of_wp_marks Try.func91 rfl trivial ?_ rfl
  simp only [Try.ntmps91, List.size_toArray, List.length_cons, List.length_nil, Nat.reduceAdd, Nat.reduceSub, Array.replicate_succ, Array.replicate_zero, List.push_toArray, List.append_toArray, List.nil_append, List.cons_append]
  gi_wp2_with fail
  refine ⟨trivial, (kBw_in .wide _ trivial rfl _ _ _ _).mono ?_⟩
  rintro e w' ⟨rfl, rfl⟩
  gi_wp2_with fail
  have K2 : Kept0 w (w.alloc (.cells #[.slice (some ⟨bb, off, none⟩) (z.bs.length - m) (cap - m)] 148)) := (Kept.refl _ w).alloc _
  have S2 : (w.alloc (.cells #[.slice (some ⟨bb, off, none⟩) (z.bs.length - m) (cap - m)] 148)).cell? ⟨w.heap.size, 0, none⟩ = some (.slice (some ⟨bb, off, none⟩) (z.bs.length - m) (cap - m)) := (made_row w #[.slice (some ⟨bb, off, none⟩) (z.bs.length - m) (cap - m)] 148).cell (i := 0) (by simp)
  have Z2 : (w.alloc (.cells #[.slice (some ⟨bb, off, none⟩) (z.bs.length - m) (cap - m)] 148)).heap.size = w.heap.size + 1 := by simp
  generalize (w.alloc (.cells #[.slice (some ⟨bb, off, none⟩) (z.bs.length - m) (cap - m)] 148)) = W0 at *
  have H0 := h.kept0 K2
  have hbl : bb < w.heap.size := (h.back.lt bb (by rw [hbv]; rfl)).2
  have nWb : ¬ z.Wr bb := fun e => e.2 (by rw [hbv]; rfl)
  have nWw : ¬ z.Wr w.heap.size := fun e => Nat.lt_irrefl _ (h.foot_lt e.1)
  have hst : ∀ j, j < z.bs.length - m → StepOf l z (z.bs[m + j]?.getD undef) := fun j hj => by
    have hlt : m + j < z.bs.length := by omega
    rw [List.getElem?_eq_getElem hlt]
    refine hc.steps _ ?_
    rw [HM.out]
    exact List.mem_drop_iff_getElem.2 ⟨j, by omega, by simp⟩
  have hSA : StepsAt W0.heap.size z.Wr W0 (.slice (some ⟨bb, off, none⟩) (z.bs.length - m) (cap - m)) (z.bs.length - m) (fun j => z.bs[m + j]?.getD undef) := by
    refine .inr ⟨bb, off, _, rfl, by omega, nWb, fun j hj => (hst j hj).form, fun j hj => ?_⟩
    rw [Hoff.out (by omega)]
    have hb := H0.back
    rw [hbv] at hb
    have := hb.cellAt (m + j) (by omega)
    rw [this]
    simp [List.getElem?_eq_getElem (show m + j < z.bs.length by omega)]
  refine wpIn_rangeFunc_ownH rfl (by omega) (gf := 154) (lb := #[.pointer (some ⟨w.heap.size, 0, none⟩)]) rfl trivial (enters_of Try.func154 (by kernel_rfl) rfl)
    (kBw_stops .wide 5 trivial rfl (by omega) w.heap.size W0.heap.size z.Wr _ (z.bs.length - m) (fun j => z.bs[m + j]?.getD undef) (by omega) W0 (by omega) nWw (Nat.le_refl _) S2 hSA)
    (fun a b => a.trans (b.mono fun k _ hk => hk)) (keptS_b (Nat.le_refl _)) (Below.refl _ _) (fun _ => rfl)
    (MidK W0 base l z z0 (z.bs.length - m)) (fun _ _ _ => False) (midK_own W0 base l z z0 (z.bs.length - m) H0) (fun _ _ _ _ _ hs _ _ => hs)
    ?start (fun x a' W => ∃ v13 v14 v15 v16, a' = { tmps := #[.pointer (some ⟨z.pk, 0, none⟩), .int .i64 m, undef, undef, undef, z.bs[m + x.1]?.getD undef, .pointer (some ⟨z.pk, 0, none⟩), .pointer (some ⟨z.pk, 0, none⟩), .pointer (some ⟨z.pk, 4, none⟩), .slice (some ⟨bb, 0, none⟩) z.bs.length cap, .int .i64 m, .slice (some ⟨bb, off, none⟩) (z.bs.length - m) (cap - m), .func (.func 154) #[] #[.pointer (some ⟨w.heap.size, 0, none⟩)], v13, v14, v15, v16, undef, undef, undef, undef, undef, undef, undef, undef, undef, undef, undef, undef, undef, undef, undef], defers := [] }) ?hAx ?assign ?body ?done ?stop
  case start => exact ⟨⟨z, z.jv, rfl, H0, fun _ => ⟨z, hc, .refl z, by simp, rfl, rfl, rfl, rfl, rfl, rfl⟩⟩, Kept.refl _ _⟩
  case hAx =>
    rintro x a' _ A B row ⟨v13, v14, v15, v16, rfl⟩ hg hr
    exact ⟨v13, v14, v15, v16, rfl⟩
  case assign =>
    rintro lx pre x W K hM hK
    simp only [encK]
    gi_wp2
    exact hK _ _ (KeepsFrom.refl _ _) (Kept.refl _ _) hM ⟨_, _, _, _, rfl⟩
  case body =>
    rintro lx pre x a' W hl _ hM ⟨v13, v14, v15, v16, rfl⟩ hlt
    obtain ⟨y, jv, h1, C, h3⟩ := hM.st
    obtain ⟨fn, ca, hf, hsh, CALL⟩ := step_call (z0 := z0) h1 C (hst x.1 x.2)
    rw [hf]
    have FIN : ∀ W' y' jv', jv'.ownBlock = z.jv.ownBlock → Cz W' base l (z.with y' jv') → Kept z.Wr W W' → (∀ zk, Chain l zk z → Chain l z0 zk → z0.bs.length < zk.bs.length → z.bs[zk.bs.length - 1]? = some (.func (.func fn) #[] ca) → y.uv = zk.uv → y.g = zk.g → y.t = zk.t → y.us = zk.us → y.kn = zk.kn → y.ms = zk.ms → ∃ b, Chain l z0 b ∧ Chain l b z ∧ b.bs.length + 1 = zk.bs.length ∧ y'.uv = b.uv ∧ y'.g = b.g ∧ y'.t = b.t ∧ y'.us = b.us ∧ y'.kn = b.kn ∧ y'.ms = b.ms) →
        KeepsFrom W0.heap.size W W' ∧ KeptS z.Wr W0.heap.size W W' ∧ MidK W0 base l z z0 (z.bs.length - m) (pre ++ [x]) W' := fun W' y' jv' hj' C' K' hright => by
      have KS : KeptS z.Wr W0.heap.size W W' := Kept.mono K' (fun k _ e => Or.inl e)
      refine ⟨⟨K'.size, fun i o hB hi ho => ?_⟩, KS, ⟨⟨y', jv', hj', C', fun hd => ?_⟩, hM.kept.trans KS⟩⟩
      · have hlt : i < W.heap.size := (Array.getElem?_eq_some_iff.1 hi).1
        rw [K'.block i hlt (fun e => by have := H0.foot_lt e.1; omega)]
        exact hi
      · have hpre : Down (z.bs.length - m) pre := by
          intro r hr
          have := hd r (by simp; omega)
          rwa [List.getElem_append_left hr] at this
        have hxr : x.1 + pre.length + 1 = z.bs.length - m := by simpa using hd pre.length (by simp)
        obtain ⟨zk, c1, c2, c3, e1, e2, e3, e4, e5, e6⟩ := h3 hpre
        have hmm := HM.out
        have hidx : z.bs[zk.bs.length - 1]? = some (.func (.func fn) #[] ca) := by
          have hx1 : zk.bs.length - 1 = m + x.1 := by omega
          rw [hx1, List.getElem?_eq_getElem (by omega)]
          rw [List.getElem?_eq_getElem (by omega)] at hf
          simpa using hf
        obtain ⟨b, b1, b2, b3, f1, f2, f3, f4, f5, f6⟩ := hright zk c2 c1 (by omega) hidx e1 e2 e3 e4 e5 e6
        exact ⟨b, b1, b2, by simp; omega, f1, f2, f3, f4, f5, f6⟩
    rcases hsh with ⟨rfl, p1, p2, rfl⟩ | ⟨rfl, p1, p2, p3, p4, rfl⟩
    · clear h3 C hM H0 h hc hst hSA
      gi_wp2_with fail
      refine ⟨trivial, (CallsIn.inRound lx (callsIn_wide.2 CALL)).mono ?_⟩
      rintro e W' ⟨rfl, y', jv', hj', C', K', hright⟩
      gi_wp2
      rw [hf] at hright
      exact FIN W' y' jv' hj' C' K' hright
    · clear h3 C hM H0 h hc hst hSA
      gi_wp2_with fail
      refine ⟨trivial, (CallsIn.inRound lx (callsIn_wide.2 CALL)).mono ?_⟩
      rintro e W' ⟨rfl, y', jv', hj', C', K', hright⟩
      gi_wp2
      rw [hf] at hright
      exact FIN W' y' jv' hj' C' K' hright
  case done =>
    rintro D ys W hD ⟨hd, hlen⟩ hM hK
    obtain ⟨y, jv, h1, C, h3⟩ := hM.st
    obtain ⟨zk, c1, c2, c3, e1, e2, e3, e4, e5, e6⟩ := h3 hd
    have hmm := HM.out
    obtain rfl : zk = z0 := c1.eq_of_len (by omega)
    have CW : Cz W base l (z.with zk jv) := by
      have e : z.with y jv = z.with zk jv := by unfold Zs.with; rw [e1, e2, e3, e4, e5, e6]
      rw [← e]
      exact C
    have hbv2 : (z.with zk jv).bv = .slice (some ⟨bb, 0, none⟩) z.bs.length cap := hbv
    have hbk := CW.back
    rw [hbv2] at hbk
    obtain ⟨W1, hr1, O1, K1⟩ := clear_back (hbk : W.ownsRow base 1 1 (.slice (some ⟨bb, 0, none⟩) z.bs.length cap) z.bs.length z.bs) hml Hoff.out 0
    have htk : z.bs.take m = zk.bs := by
      obtain ⟨r, hr⟩ := hc.bs
      rw [hr, ← hmm, List.take_left]
    have O1' : W1.ownsRow base 1 1 (.slice (some ⟨bb, 0, none⟩) m cap) zk.bs.length zk.bs := by
      have O2 : W1.ownsRow base 1 1 (.slice (some ⟨bb, 0, none⟩) m cap) m (z.bs.take m) := O1
      rw [htk] at O2
      rw [hmm]
      exact O2
    have K1' : Kept (fun k => (z.with zk jv).bv.ownBlock = some k) W W1 := Kept.mono K1 (fun k _ e => by rw [hbv2, e]; rfl)
    obtain ⟨C2, K3, c4, f4⟩ := CW.reback K1' (.slice (some ⟨bb, 0, none⟩) m cap) zk.bs O1' (by rw [hbv2]; rfl)
    rw [hbv2] at c4
    have c4' : W1.cell? ⟨z.pk, 4, none⟩ = some (.slice (some ⟨bb, 0, none⟩) z.bs.length cap) := c4
    have f4' : W1.frozen? ⟨z.pk, 4, none⟩ = false := f4
    have k4 := CW.k4
    rw [hbv2] at k4
    have k4' : W.cell? ⟨z.pk, 4, none⟩ = some (.slice (some ⟨bb, 0, none⟩) z.bs.length cap) := k4
    have hDW : D < W.heap.size := (Array.getElem?_eq_some_iff.1 hK).1
    have hpl := h.cls.lt
    have hKD : (W1.setCell ⟨z.pk, 4, none⟩ (.slice (some ⟨bb, 0, none⟩) m cap)).heap[D]? = W.heap[D]? := (Below.heap_setCell _ _ _ _ (show D ≠ z.pk by omega)).trans (K1.block D hDW (show ¬ D = bb by omega))
    have hmc : (m : Int) ≤ (cap : Int) := by omega
    have hall : ∀ k, Zs.All { z.with zk jv with bv := .slice (some ⟨bb, 0, none⟩) m cap, bs := zk.bs } k → k < w.heap.size := fun k hk => by
      refine h.all_lt (with_all (y := zk) h1 ?_)
      rcases hk with (e | e | e | e | e) | e | e
      · exact .inl (.inl e)
      · exact .inl (.inr (.inl e))
      · exact .inl (.inr (.inr (.inl e)))
      · exact .inl (.inr (.inr (.inr (.inl e))))
      · exact .inl (.inr (.inr (.inr (.inr (by rw [hbv2]; exact e)))))
      · exact .inr (.inl e)
      · exact .inr (.inr e)
    have ALL : Hid (_ ∧ _ ∧ _ ∧ _ ∧ _ ∧ _) := ⟨h1, C2, K3, hM.kept, hKD, hall⟩
    clear k4 h3 C CW hbk O1 O1' K1 K1' C2 K3 c4 f4 hM hKD hSA hst H0 hc c1 c2 htk h hall
    gi_wp2_with fail
    obtain ⟨h1', C2, K3, hMk, hKD, hall⟩ := ALL.out
    have hK' := hKD.trans hK
    have hG := grownBy_putObj' (W1.setCell ⟨z.pk, 4, none⟩ (.slice (some ⟨bb, 0, none⟩) m cap)) D (.deferred none)
    have KP : Kept (fun k => k = D) (W1.setCell ⟨z.pk, 4, none⟩ (.slice (some ⟨bb, 0, none⟩) m cap)) ((W1.setCell ⟨z.pk, 4, none⟩ (.slice (some ⟨bb, 0, none⟩) m cap)).putObj D (.deferred none)) := (Kept.refl _ _).grown hG (fun k e => by cases e; rfl)
    refine ⟨by simp, .inl ⟨_, _, rfl, run_takeDeferred (w := W1.setCell ⟨z.pk, 4, none⟩ (.slice (some ⟨bb, 0, none⟩) m cap)) hK', ?_⟩⟩
    have KA : Kept z.Foot w W := (Kept.mono K2 (fun _ _ e => e.elim)).into hMk (fun k e => e.elim (fun x => .inl x.1) (fun x => .inr (by omega)))
    have KB := (KA.into K3 (fun k e => .inl (with_foot h1' e))).into KP (fun k e => .inr (by omega))
    exact ⟨_, results_none rfl _ _ _, rfl, jv, h1', C2.keep KP (fun k hk e => by have := hall k hk; omega), KB⟩
  case stop =>
    rintro D c pre W _ _ h _
    exact h.elim

end Go.Proofs.Ytinphcnknionmaa
