/- Package close: newClasses. Package close: newClasses' walk. Package close: unite. Package close: a Closure; New, has, Same, Mark, Classes. -/
import Derived.Test.YtinphcnknionmaaG42
import Derived.Deep.RegionHeld3
import Derived.Test.YtinphcnknionmaaG27
import Derived.WalkSmall
namespace Go.Proofs.Ytinphcnknionmaa
open Go.RowKit Go.Maps

theorem g0_lo : Uf.g0.lo = id := rfl

/-- What is known of the first k terms. -/
def Kn (l : List Tm) (k : Nat) (kn : Tm → Option Nat) : Prop := ∀ (s : Tm) (m : Nat), kn s = some m ↔ m < k ∧ ∃ t, l[m]? = some t ∧ Cc.sg id t = s
theorem Kn.step {l : List Tm} {k : Nat} {kn : Tm → Option Nat} (h : Kn l k kn) (hb : Cc.Bd l) {t : Tm} (ht : l[k]? = some t) : Kn l (k + 1) (fun u => if u = Cc.sg id t then some k else kn u) := by
  intro s m
  by_cases e : s = Cc.sg id t
  · subst e
    simp only [if_true]
    constructor
    · intro x
      cases x
      exact ⟨by omega, t, ht, rfl⟩
    · rintro ⟨_, u, hu, he⟩
      rw [Cc.sg_inj hb hu ht he]
  · simp only [e, if_false]
    rw [h s m]
    constructor
    · rintro ⟨h1, h2⟩
      exact ⟨by omega, h2⟩
    · rintro ⟨h1, u, hu, he⟩
      refine ⟨?_, u, hu, he⟩
      by_cases em : m = k
      · subst em
        rw [ht] at hu
        cases hu
        exact absurd he.symm e
      · omega

/-- The classes as they are made. -/
def z0 (l : List Tm) (pk ps nb tb ub mb : Nat) (av uv : Nat → Value) (st : List (Nat × Obj)) (kn : Tm → Option Nat) (ms : Nat) : Zs :=
  { pk := pk, ps := ps, nb := nb, tb := tb, ub := ub, mb := mb, jv := .slice none 0 0, bv := .slice none 0 0, av := av, uv := uv, g := Uf.g0, t := [], bs := [], st := st, us := fun i => Cc.usf (Cc.evs l 0) i, kn := kn, ms := ms }

theorem Cz.made {w w1 w2 : World} {base : Nat} {l : List Tm} {tb : Nat} {av : Nat → Value} {st : List (Nat × Obj)} (hR : w.rowIs tb 42 (l.length * 2) (termC l av)) (hS : Sat st w) (hA : ∀ (i : Nat) (t : Tm), l[i]? = some t → UseIs st (av i) t.args) (hb : Cc.Bd l) (hok : ∀ t ∈ l, t.ok) (hl : l.length ≤ 150)
    (hbase : base ≤ w.heap.size) (htb : base ≤ tb) (hst : ∀ x ∈ st, base ≤ x.1) (hsl : ∀ x ∈ st, x.1 < w.heap.size)
    (S1 : St w1 w.heap.size (w.heap.size + 1) w.heap.size (.slice none 0 0) l.length Uf.g0 []) (B1 : Below w.heap.size w w1) {ub : Nat} {uv : Nat → Value} {st2 : List (Nat × Obj)} (F : Fu w1 w2 ub l uv st2) :
    Cz ((w2.alloc (.map #[] 0)).alloc (.cells #[.pointer (some ⟨w.heap.size + 1, 0, none⟩), .slice (some ⟨tb, 0, none⟩) l.length l.length, .slice (some ⟨ub, 0, none⟩) l.length l.length, .map (some w2.heap.size), .slice none 0 0] 150)) base l
      (z0 l (w2.heap.size + 1) (w.heap.size + 1) w.heap.size tb ub w2.heap.size av uv (st ++ st2) (fun _ => none) 0) := by
  have k2 := F.kept
  have s1 := B1.size
  have s2 := k2.size
  have hlt1 : w.heap.size + 1 < w1.heap.size := S1.lies.sets.lt
  have hs : (w2.alloc (.map #[] 0)).heap.size = w2.heap.size + 1 := by simp
  have K4 : Kept0 w2 ((w2.alloc (.map #[] 0)).alloc (.cells #[.pointer (some ⟨w.heap.size + 1, 0, none⟩), .slice (some ⟨tb, 0, none⟩) l.length l.length, .slice (some ⟨ub, 0, none⟩) l.length l.length, .map (some w2.heap.size), .slice none 0 0] 150)) := Kept.alloc (Kept.alloc (Kept.refl _ w2) _) _
  have hlw : tb < w.heap.size := hR.lt
  have lub := F.ub
  have rub := F.row.lt
  refine ⟨?_, ?_, ?_, F.row.of_block (K4.block _ rub (fun e => e)), ?_, World.ownsRow_nil _ _ _ _, ?_, ?_, fun i t ht => (hA i t ht).mono (fun x hx => List.mem_append_left _ hx), fun i hi => (F.uses i hi).mono (fun x hx => List.mem_append_right _ hx), hb, hok, hl, ?_, htb, ?_, ?_⟩
  · have r := made_row (w2.alloc (.map #[] 0)) #[.pointer (some ⟨w.heap.size + 1, 0, none⟩), .slice (some ⟨tb, 0, none⟩) l.length l.length, .slice (some ⟨ub, 0, none⟩) l.length l.length, .map (some w2.heap.size), .slice none 0 0] 150
    rw [hs] at r
    refine r.congr (fun j hj => ?_)
    have hj' : j < 5 := hj
    rcases (by omega : j = 0 ∨ j = 1 ∨ j = 2 ∨ j = 3 ∨ j = 4) with rfl | rfl | rfl | rfl | rfl <;> rfl
  · have S2 := (S1.other F.kept (fun e => e) (fun e => e) (fun _ _ e => e)).other K4 (fun e => e) (fun e => e) (fun _ _ e => e)
    have L := S2.lies
    exact ⟨⟨L.sets, L.nodes, World.ownsRow_nil _ _ _ _, L.ne, L.jp, L.jn, by show base ≤ w.heap.size + 1; omega, hbase, L.small⟩, S2.hist, by have := K4.size; omega⟩
  · exact ((hR.of_block (B1.block _ hlw)).of_block (k2.block _ (by omega) (fun e => e))).of_block (K4.block _ (by omega) (fun e => e))
  · have m1 := World.ownsMap_made (H := Unit) w2 Try.prog 196 (plainElem Try.prog 3)
    exact ⟨.map [], mapIs_of (m1.alloc _), Nat.zero_le _, fun s _ => ⟨rfl, rfl⟩⟩
  · intro x hx
    rcases List.mem_append.1 hx with hx | hx
    · have := hsl x hx
      exact (K4.block _ (by omega) (fun e => e)).trans ((k2.block _ (by omega) (fun e => e)).trans ((B1.block _ this).trans (hS x hx)))
    · have := (Array.getElem?_eq_some_iff.1 (F.sat x hx)).1
      exact (K4.block _ this (fun e => e)).trans (F.sat x hx)
  · intro x hx
    rcases List.mem_append.1 hx with hx | hx
    · have := hsl x hx
      refine ⟨hst x hx, ?_⟩
      rintro (e | (e | e | e) | e | e | e)
      · have e' : x.1 = w2.heap.size + 1 := e; omega
      · have e' : x.1 = w.heap.size + 1 := e; omega
      · have e' : x.1 = w.heap.size := e; omega
      · simp [z0, Value.ownBlock] at e
      · have e' : x.1 = ub := e; omega
      · have e' : x.1 = w2.heap.size := e; omega
      · simp [z0, Value.ownBlock] at e
    · have h1 := F.far x hx
      have h2 := (Array.getElem?_eq_some_iff.1 (F.sat x hx)).1
      refine ⟨by omega, ?_⟩
      rintro (e | (e | e | e) | e | e | e)
      · have e' : x.1 = w2.heap.size + 1 := e; omega
      · have e' : x.1 = w.heap.size + 1 := e; omega
      · have e' : x.1 = w.heap.size := e; omega
      · simp [z0, Value.ownBlock] at e
      · exact h1.2 e
      · have e' : x.1 = w2.heap.size := e; omega
      · simp [z0, Value.ownBlock] at e
  · show base ≤ w2.heap.size + 1; omega
  · show base ≤ ub; omega
  · show base ≤ w2.heap.size; omega

end Go.Proofs.Ytinphcnknionmaa

namespace Go.Proofs.Ytinphcnknionmaa
open Go.RowKit Go.Maps

set_option maxHeartbeats 2000000 in
set_option maxRecDepth 100000 in
theorem newC_in (w : World) (base : Nat) (l : List Tm) (tb : Nat) (av : Nat → Value) (st : List (Nat × Obj)) (hR : w.rowIs tb 42 (l.length * 2) (termC l av)) (hS : Sat st w) (hA : ∀ (i : Nat) (t : Tm), l[i]? = some t → UseIs st (av i) t.args) (hb : Cc.Bd l) (hok : ∀ t ∈ l, t.ok) (hl : l.length ≤ 150)
    (hbase : base ≤ w.heap.size) (htb : base ≤ tb) (hst : ∀ x ∈ st, base ≤ x.1) :
    Calls Try.prog 87 #[.slice (some ⟨tb, 0, none⟩) l.length l.length] w fun e w' => ∃ z : Zs, e = .returned (.pointer (some ⟨z.pk, 0, none⟩)) ∧ Un w' base l z [] [] [] ∧ Kept0 w w' ∧ w.heap.size ≤ z.pk ∧ (∀ k, z.All k → base ≤ k) := by
  have hsl : ∀ x ∈ st, x.1 < w.heap.size := fun x hx => (Array.getElem?_eq_some_iff.1 (hS x hx)).1
  have NEW := New_st w l.length (by omega)
  have FIR : ∀ w1, Below w.heap.size w w1 → Calls Try.prog 120 #[.slice (some ⟨tb, 0, none⟩) l.length l.length] w1 fun e w' => ∃ ub uv st2, e = .returned (.slice (some ⟨ub, 0, none⟩) l.length l.length) ∧ Fu w1 w' ub l uv st2 := fun w1 B1 =>
    first_in w1 l tb av st (hR.of_block (B1.block _ hR.lt)) (fun x hx => (B1.block _ (hsl x hx)).trans (hS x hx)) hA hb hl
  have hmm := @run_makeMap Try.prog
  go_enter Try.func87, Try.ntmps87
  go_wp2_with (first | (go_at_call 24; refine NEW.mono ?_; rintro e w1 ⟨rfl, S1, B1⟩; have FI := FIR w1 B1) | (go_at_call 120; refine FI.mono ?_; rintro e w2 ⟨ub, uv, st2, rfl, F⟩))
  have C0 := Cz.made hR hS hA hb hok hl hbase htb hst hsl S1 B1 F
  have K0 : Kept0 w ((w2.alloc (.map #[] 0)).alloc (.cells #[.pointer (some ⟨w.heap.size + 1, 0, none⟩), .slice (some ⟨tb, 0, none⟩) l.length l.length, .slice (some ⟨ub, 0, none⟩) l.length l.length, .map (some w2.heap.size), .slice none 0 0] 150)) := Kept.alloc (Kept.alloc ((below_kept0 B1).trans F.kept) _) _
  have hs2 : w.heap.size ≤ w2.heap.size := ((below_kept0 B1).trans F.kept).size
  clear NEW FIR FI hmm S1 B1 F
  generalize (w2.alloc (.map #[] 0)).alloc (.cells #[.pointer (some ⟨w.heap.size + 1, 0, none⟩), .slice (some ⟨tb, 0, none⟩) l.length l.length, .slice (some ⟨ub, 0, none⟩) l.length l.length, .map (some w2.heap.size), .slice none 0 0] 150) = w4 at *
  generalize w2.heap.size = mb at *
  go_loopw [16] (fun t16 W => ∃ (k : Nat) (kn : Tm → Option Nat), k ≤ l.length ∧ t16 = .int .i64 (k : Int) ∧ Cz W base l (z0 l (mb + 1) (w.heap.size + 1) w.heap.size tb ub mb av uv (st ++ st2) kn k) ∧ Hid (Kn l k kn) ∧ Kept0 w W) (fun t16 _ => l.length - (intOf t16).toNat)
  case atStart => exact ⟨0, fun _ => none, by omega, rfl, C0, fun s m => by simp, K0⟩
  case round =>
    clear C0 K0
    obtain ⟨k, kn, hk, rfl, C, hkn, K⟩ := hrel
    by_cases hk2 : k < l.length
    · have dk : decide ((k : Int) < (l.length : Int)) = true := decide_eq_true (by omega)
      have ht : l[k]? = some l[k] := List.getElem?_eq_getElem hk2
      generalize hlk : l[k] = t at ht
      clear hlk
      have hsk : Sk (Cc.sg Uf.g0.lo t) := sg_sk hb (lo := Uf.g0.lo) (fun i _ => Nat.le_refl _) (by omega) ht (hok t (List.mem_of_getElem? ht))
      have c3 : wr.cell? ⟨mb + 1, 3, none⟩ = some (.map (some mb)) := C.k3
      have stay : ∀ W, Kept0 wr W → W.cell? ⟨mb + 1, 3, none⟩ = some (.map (some mb)) := fun W KW => (C.kept0 KW).k3
      have hV : sigV (Cc.sg Uf.g0.lo t) = .agg #[.string (Cc.sg Uf.g0.lo t).name, .int .i64 ((Cc.sg Uf.g0.lo t).arg 0 : Int), .int .i64 ((Cc.sg Uf.g0.lo t).arg 1 : Int), .int .i64 ((Cc.sg Uf.g0.lo t).arg 2 : Int), .int .i64 ((Cc.sg Uf.g0.lo t).arg 3 : Int)] := rfl
      have SG : ∀ W, Kept0 wr W → Calls Try.prog 121 #[.pointer (some ⟨mb + 1, 0, none⟩), .int .i64 (k : Int)] W fun e w' => e = .returned (.agg #[.string (Cc.sg Uf.g0.lo t).name, .int .i64 ((Cc.sg Uf.g0.lo t).arg 0 : Int), .int .i64 ((Cc.sg Uf.g0.lo t).arg 1 : Int), .int .i64 ((Cc.sg Uf.g0.lo t).arg 2 : Int), .int .i64 ((Cc.sg Uf.g0.lo t).arg 3 : Int)]) ∧ Kept0 W w' := fun W KW => sig_in W base l _ (C.kept0 KW) k t ht
      have STO : ∀ W, Kept0 wr W → ∃ w', (Instr.mapUpdate 147 (.map (some mb)) (.agg #[.string (Cc.sg Uf.g0.lo t).name, .int .i64 ((Cc.sg Uf.g0.lo t).arg 0 : Int), .int .i64 ((Cc.sg Uf.g0.lo t).arg 1 : Int), .int .i64 ((Cc.sg Uf.g0.lo t).arg 2 : Int), .int .i64 ((Cc.sg Uf.g0.lo t).arg 3 : Int)]) (.int .i64 (k : Int))).run Try.prog W = .ok () w' ∧ Cz w' base l (z0 l (mb + 1) (w.heap.size + 1) w.heap.size tb ub mb av uv (st ++ st2) (fun u => if u = Cc.sg Uf.g0.lo t then some k else kn u) (k + 1)) ∧ Kept1 mb W w' := fun W KW => (C.kept0 KW).store hsk (n := k) (by omega) (show k < 1000000 by omega)
      have HH : Hid (_ ∧ _ ∧ _) := ⟨ht, C, K⟩
      clear ht C K hR hS hA hst hsl hV hsk
      generalize hsE : Cc.sg Uf.g0.lo t = s at *
      have HSE : Hid (Cc.sg Uf.g0.lo t = s) := hsE
      clear hsE
      go_wp2_with fail
      go_region_held3 (fun W => W.cell? ⟨mb + 1, 3, none⟩ = some (.map (some mb))) (first | assumption | exact stay _ (by first | assumption | exact (Kept.refl _ _).drew)) (first | (go_at_call 121; refine (SG _ (by first | assumption | exact (Kept.refl _ _).drew)).mono ?_; rintro e w5 ⟨rfl, K5⟩; have KS : Kept0 wr w5 := Kept.trans (by first | assumption | exact (Kept.refl _ _).drew) K5; obtain ⟨w6, hr6, C6, K6⟩ := STO w5 KS; have s6 : w6.cell? ⟨mb + 1, 3, none⟩ = some (.map (some mb)) := C6.k3))
      all_goals
        clear SG STO stay hr6 s6
        go_wp2_with fail
        obtain ⟨ht, _, K⟩ := HH.out
        have hkn' := Kn.step hkn.out hb ht
        rw [← g0_lo, HSE.out] at hkn'
        exact ⟨⟨k + 1, _, hk2, by simp, C6, hkn', (K.trans KS).into K6 (fun i hi => .inr (by omega))⟩, by simp [intOf]; omega⟩
    · have dk : decide ((k : Int) < (l.length : Int)) = false := decide_eq_false (by omega)
      obtain rfl : k = l.length := by omega
      go_wp2_with fail
      go_ret
      refine ⟨_, rfl, ⟨C, ?_, by simp [z0], by simp [z0], by simp, Nat.le_trans hbase K.size⟩, K, by show w.heap.size ≤ mb + 1; omega, fun k hk => C.all_ge hk⟩
      have hI : Cc.Inv l [] id (fun i => Cc.usf (Cc.evs l 0) i) kn [] [] := Cc.Inv.start hb (fun r _ n => Cc.usf_uc l r n) (fun s m => by
        rw [hkn.out s m]
        exact ⟨fun x => x.2, fun x => ⟨by obtain ⟨t, ht, _⟩ := x; exact (List.getElem?_eq_some_iff.1 ht).1, x⟩⟩)
      exact hI

end Go.Proofs.Ytinphcnknionmaa

namespace Go.Proofs.Ytinphcnknionmaa
open Go.RowKit Go.Maps

theorem infoPair : (Try.prog.info? 86).map (fun i => (i.zero, i.size, i.bytes)) = some (some (.agg #[.int .i64 0, .int .i64 0]), 2, 16) := by kernel_rfl
theorem joinC_len (js : List (Nat × Nat)) : (joinC js).length = js.length * 2 := by
  induction js with
  | nil => rfl
  | cons x js ih => simp [joinC] at ih ⊢; omega
theorem joinC_app (a b : List (Nat × Nat)) : joinC (a ++ b) = joinC a ++ joinC b := by simp [joinC]

/-- What is to do, in memory. -/
structure Td (W : World) (B : Nat) (z : Zs) (v : Value) (todo : List (Nat × Nat)) : Prop where
  row : W.ownsRow B 86 2 v todo.length (joinC todo)
  far : ∀ k, v.ownBlock = some k → ¬ z.All k

theorem Td.went {l : List Tm} {W W' : World} {B : Nat} {z z' : Zs} {v : Value} {todo : List (Nat × Nat)} (h : Td W B z v todo) (g : Went l W W' z z') : Td W' B z' v todo := by
  refine ⟨ownsRow_block h.row (fun k hk => g.kept.block k (h.row.lt k hk).2 (fun e => h.far k hk (.inl e))), fun k hk hA => ?_⟩
  rcases g.grows.all hA with e | e
  · exact h.far k hk e
  · have := (h.row.lt k hk).2; omega
theorem Td.kept0 {W W' : World} {B : Nat} {z : Zs} {v : Value} {todo : List (Nat × Nat)} (h : Td W B z v todo) (K : Kept0 W W') : Td W' B z v todo :=
  ⟨h.row.kept K.grownBy (Decidable.em _), h.far⟩

/-- The last one of what is to do. -/
theorem Td.last {W : World} {B : Nat} {z : Zs} {v : Value} {rest : List (Nat × Nat)} {p : Nat × Nat} (h : Td W B z v (rest ++ [p])) :
    ∃ g cap, v = .slice (some ⟨g, 0, none⟩) (rest.length + 1) cap ∧ rest.length + 1 ≤ cap ∧ W.cell? ⟨g, rest.length * 2, none⟩ = some (.int .i64 (p.1 : Int)) ∧ W.cell? ⟨g, rest.length * 2 + 1, none⟩ = some (.int .i64 (p.2 : Int)) ∧ Td W B z (.slice (some ⟨g, 0, none⟩) rest.length cap) rest := by
  have hr := h.row
  rw [List.length_append, List.length_singleton, joinC_app] at hr
  obtain ⟨g, cap, hv⟩ := ownsRow_succ hr
  subst hv
  have hcap : rest.length + 1 ≤ cap := by
    rcases hr.2 with ⟨e, _⟩ | ⟨g', cap', cur, e, _, _, hnc, _⟩
    · cases e
    · cases e; exact hnc
  have c0 := hr.cellAt (rest.length * 2) (by omega)
  have c1 := hr.cellAt (rest.length * 2 + 1) (by omega)
  rw [List.getElem?_append_right (by rw [joinC_len]; omega), joinC_len] at c0 c1
  refine ⟨g, cap, rfl, hcap, by simpa [joinC] using c0, by simpa [joinC] using c1, ⟨ownsRow_pop (joinC_len rest) hr, fun k hk => h.far k (by simpa [Value.ownBlock] using hk)⟩⟩

theorem Chain.st {l : List Tm} {a b : Zs} (h : Chain l a b) : ∀ x ∈ a.st, x ∈ b.st := by
  induction h with
  | refl => exact fun x hx => hx
  | like n s bc bx v _ _ _ ih => exact fun x hx => List.mem_append_left _ (ih x hx)
  | join low high bc bm bo bl jv st2 v bv _ _ _ _ ih => exact fun x hx => List.mem_append_left _ (List.mem_append_left _ (ih x hx))
theorem Went.keep {l : List Tm} {w W W' : World} {z z' : Zs} (h : Went l w W z z') {S : Nat → Prop} (K : Kept S W W') (hS : ∀ k, S k → w.heap.size ≤ k) : Went l w W' z z' :=
  ⟨h.kept.into K (fun k hk => .inr (hS k hk)), h.grows, h.chain⟩

/-- One more is to do. -/
theorem Td.push {w W W' : World} {base : Nat} {l : List Tm} {z z' : Zs} {P td : List (Nat × Nat)} {pend : List Nat} {v v' : Value} {n m : Nat} (h : Td W w.heap.size z' v td) (U : Un W base l z' P (td ++ [(n, m)]) pend) (G : Went l w W z z') (O : Obj)
    (hown : W'.ownsRow w.heap.size 86 2 v' (td.length + 1) (joinC td ++ [.int .i64 (n : Int), .int .i64 (m : Int)])) (hgrow : (W.alloc O).grownBy W' v.ownBlock) (hloc : v'.ownBlock = v.ownBlock ∨ ∀ k, v'.ownBlock = some k → (W.alloc O).heap.size ≤ k) :
    Td W' w.heap.size z' v' (td ++ [(n, m)]) ∧ Un W' base l z' P (td ++ [(n, m)]) pend ∧ Went l w W' z z' := by
  have K : Kept (fun k => v.ownBlock = some k) W W' := Kept.grown ((Kept.refl _ W).alloc O) hgrow (fun _ e => e)
  refine ⟨⟨?_, fun k hk hA => ?_⟩, U.keep K (fun k hA e => h.far k e hA), G.keep K (fun k hk => (h.row.lt k hk).1)⟩
  · rw [joinC_snoc, List.length_append]
    exact hown
  · rcases hloc with e | e
    · exact h.far k (e ▸ hk) hA
    · have h1 := e k hk
      have h2 := U.cz.all_lt hA
      simp at h1
      omega

set_option maxHeartbeats 4000000 in
set_option maxRecDepth 100000 in
theorem unite_in (w : World) (base : Nat) (l : List Tm) (z : Zs) (P : List (Nat × Nat)) (a b : Nat) (h : Un w base l z P [(a, b)] []) :
    Calls Try.prog 90 #[.pointer (some ⟨z.pk, 0, none⟩), .agg #[.int .i64 (a : Int), .int .i64 (b : Int)]] w fun e w' => e = .returned (.tuple #[]) ∧ ∃ z' : Zs, Un w' base l z' P [] [] ∧ Went l w w' z z' := by
  have K1 : Kept0 w ((w.alloc (.cells #[.int .i64 (a : Int), .int .i64 (b : Int)] 86)).alloc (.cells #[.int .i64 (a : Int), .int .i64 (b : Int)] 86)) := Kept.alloc (Kept.alloc (Kept.refl _ w) _) _
  have hs1 : (w.alloc (.cells #[.int .i64 (a : Int), .int .i64 (b : Int)] 86)).heap.size = w.heap.size + 1 := by simp
  have T1 : Td ((w.alloc (.cells #[.int .i64 (a : Int), .int .i64 (b : Int)] 86)).alloc (.cells #[.int .i64 (a : Int), .int .i64 (b : Int)] 86)) w.heap.size z (.slice (some ⟨w.heap.size + 1, 0, none⟩) 1 1) [(a, b)] := by
    refine ⟨?_, fun k hk hA => ?_⟩
    · rw [← hs1]
      exact World.ownsRow_lit _ #[.int .i64 (a : Int), .int .i64 (b : Int)] 1 (by rw [hs1]; omega) (by decide) rfl
    · simp [Value.ownBlock] at hk
      have := h.cz.all_lt hA
      omega
  have hlen := h.cz.len
  go_enter Try.func90, Try.ntmps90
  go_wp2_with fail
  generalize (w.alloc (.cells #[.int .i64 (a : Int), .int .i64 (b : Int)] 86)).alloc (.cells #[.int .i64 (a : Int), .int .i64 (b : Int)] 86) = w1 at *
  have U1 := h.kept0 K1
  have W1 : Went l w w1 z z := Went.refl l z K1
  go_loopg [4] ((l.length - z.t.length) * (4 * l.length + 1) + 1) (fun k v W => ∃ (z' : Zs) (todo : List (Nat × Nat)), Hid (k = (l.length - z'.t.length) * (4 * l.length + 1) + todo.length) ∧ Td W w.heap.size z' v todo ∧ Un W base l z' P todo [] ∧ Went l w W z z')
  case atStart => exact ⟨z, [(a, b)], rfl, T1, U1, W1⟩
  case round =>
    clear T1 U1 W1 K1
    obtain ⟨z', todo, hk, T, U, G⟩ := hrel
    rcases List.eq_nil_or_concat todo with rfl | ⟨rest, p, rfl⟩
    · obtain ⟨va, vc, hv⟩ := row_form' T.row
      subst hv
      go_wp2_with fail
      go_end0
      exact ⟨rfl, z', U, G⟩
    · rw [List.concat_eq_append] at hk T U
      obtain ⟨g, cap, hv, hcap, c0, c1, T2⟩ := T.last
      subst hv
      have hpk : z'.pk = z.pk := G.grows.pk
      have hin := U.inv.inr p (by simp)
      have htd := U.td
      obtain ⟨b1, b2⟩ := U.bound
      simp only [List.length_append, List.length_cons, List.length_nil] at htd
      have dk : decide ((0 : Int) < (rest.length : Int) + 1) = true := decide_eq_true (by omega)
      have K2 : Kept0 wr (wr.alloc (.cells #[.int .i64 (p.1 : Int), .int .i64 (p.2 : Int)] 86)) := Kept.alloc (Kept.refl _ wr) _
      have R2 := made_row wr #[.int .i64 (p.1 : Int), .int .i64 (p.2 : Int)] 86
      go_wp2_with fail
      clear c0 c1 T
      have T3 := T2.kept0 K2
      have U3 := U.kept0 K2
      have G3 := G.trans (Went.refl l z' K2)
      clear T2 U G
      generalize wr.alloc (.cells #[.int .i64 (p.1 : Int), .int .i64 (p.2 : Int)] 86) = w3 at *
      generalize wr.heap.size = b6 at *
      have x0 : w3.cell? ⟨b6, 0, none⟩ = some (.int .i64 (p.1 : Int)) := R2.cell (i := 0) (by simp)
      have x1 : w3.cell? ⟨b6, 1, none⟩ = some (.int .i64 (p.2 : Int)) := R2.cell (i := 1) (by simp)
      have k0 := U3.cz.k0
      rw [hpk] at k0
      have LX := fun (m : Nat) (x : Nat) (hx : x < l.length) => (U3.cz.drewN m).least hx
      go_quiet ((go_at_call 27; exact Calls.quiet_of (LX _ _ (by first | exact hin.1 | exact hin.2))))
      have K4 : Kept0 w3 (w3.drewN nq) := (Kept.refl _ w3).drewN nq
      have T4 := T3.kept0 K4
      have U4 := U3.kept0 K4
      have G4 := G3.trans (Went.refl l z' K4)
      clear T3 U3 G3 LX x0 x1 k0 R2 K2 K4
      generalize w3.drewN nq = w4 at *
      by_cases hs : z'.g.lo p.1 = z'.g.lo p.2
      · have ds : ((z'.g.lo p.1 : Int) == (z'.g.lo p.2 : Int)) = true := by rw [hs]; simp
        have U5 : Un w4 base l z' P rest [] := by
          have hI : Cc.Inv l P z'.g.lo z'.us z'.kn (rest ++ [(p.1, p.2)]) [] := U4.inv
          exact ⟨U4.cz, hI.drop hs, U4.ms, U4.bs, by simp only [List.length_nil]; omega, U4.low⟩
        clear U4 hs
        go_wp2_with fail
        go_roundg ((l.length - z'.t.length) * (4 * l.length + 1) + rest.length)
        case measure => rw [hk.out]; simp
        case rel => exact ⟨z', rest, rfl, T4, U5, G4⟩
      · have ds : ((z'.g.lo p.1 : Int) == (z'.g.lo p.2 : Int)) = false := beq_eq_false_iff_ne.2 (by omega)
        by_cases hgt : z'.g.lo p.2 < z'.g.lo p.1
        · have dg : decide ((z'.g.lo p.2 : Int) < (z'.g.lo p.1 : Int)) = true := decide_eq_true (by omega)
          have JN := join_un w4 base l z' P rest p U4 p.2 p.1 _ _ (.inr rfl) rfl rfl hgt
          have hlh : z'.g.lo p.1 < l.length := by have := U4.inv.le p.1 hin.1; omega
          rw [hpk] at JN
          go_wp2_with (go_at_call 122; refine JN.mono ?_; rintro e w5 ⟨rfl, z5, U5, G5, ht5, huv5, hus5⟩; have k25 := U5.cz.k2; rw [G5.grows.pk, hpk] at k25; have uh5 := U5.cz.u hlh; obtain ⟨ua, uc, hua⟩ := UseIs.form (U5.cz.usesAt _ hlh); rw [hua] at uh5)
          have X5 : UseIs z5.st (.slice ua (z'.us (z'.g.lo p.1)).length uc) (z'.us (z'.g.lo p.1)) := by
            have := U5.cz.usesAt _ hlh
            rw [hua, hus5] at this
            exact this
          have T5 := T4.went G5
          have G6 := G4.trans G5
          have hmeas : Hid ((l.length - z5.t.length) * (4 * l.length + 1) + (4 * l.length + 1) = (l.length - z'.t.length) * (4 * l.length + 1)) := by
            have h1 := U5.tle
            have h2 : l.length - z'.t.length = (l.length - z5.t.length) + 1 := by omega
            show _ = _
            rw [h2, Nat.add_mul, Nat.one_mul]
          have hxl : (z'.us (z'.g.lo p.1)).length ≤ 4 * l.length := by
            have := U4.inv.ulen U4.cz.bd hlh (U4.inv.idem _ hin.1)
            exact this
          have hpk5 : z5.pk = z.pk := G5.grows.pk.trans hpk
          have htd5 := U5.td
          have hHk : Hid (_ = _) := hk.out
          clear JN k25 uh5 U4 T4 G4 G5 ds dg hs hgt hk hua huv5 hus5 htd dk hin hcap
          generalize z'.us (z'.g.lo p.1) = xs at *
          go_loopw [4, 60] (fun v t60 W => ∃ (j : Nat) (z6 : Zs) (td : List (Nat × Nat)), j ≤ xs.length ∧ t60 = .int .i64 (j : Int) ∧ Td W w.heap.size z6 v td ∧ Un W base l z6 P td (xs.drop j) ∧ Went l w W z z6 ∧ Hid (z6.t.length = z5.t.length) ∧ Hid (td.length = rest.length + j) ∧ UseIs z6.st (.slice ua xs.length uc) xs) (fun _ t60 _ => xs.length - (intOf t60).toNat)
          case atStart => exact ⟨0, z5, rest, by omega, rfl, T5, by simpa using U5, G6, rfl, rfl, X5⟩
          case round =>
            clear T5 U5 G6 X5
            obtain ⟨j, z6, td, hj, rfl, T6, U6, G6, ht6, hl6, X6⟩ := hrel
            obtain ⟨va, vc, hv⟩ := row_form' T6.row
            subst hv
            by_cases hj2 : j < xs.length
            · have dj : decide ((j : Int) < (xs.length : Int)) = true := decide_eq_true (by omega)
              have hxj : xs[j]? = some xs[j] := List.getElem?_eq_getElem hj2
              obtain ⟨bb, off, cap6, hv6, _, hc6⟩ := X6.cell U6.cz.sat hxj
              injection hv6 with e1 _ e3
              subst e1 e3
              have cj := hc6 j _ hxj
              clear hc6
              have hpk6 : z6.pk = z.pk := G6.grows.pk
              rw [List.drop_eq_getElem_cons hj2] at U6
              have LK := like_un wr base l z6 P td xs[j] (xs.drop (j + 1)) U6
              rw [hpk6] at LK
              have b6' := U6.bound
              have htd6 := U6.td
              obtain ⟨i0, hi0, hz0, hz1, hz2⟩ := info_parts infoPair
              generalize hxn : xs[j] = xn at *
              go_wp2_with (first | (go_at_call 123; refine LK.mono ?_; rintro e w7 ⟨m7, z7, rfl, U7, G7, ht7, huv7, hus7⟩; have T7 := T6.went G7; have hB7 : w.heap.size ≤ w7.heap.size := Nat.le_trans G6.kept.size G7.kept.size) | (at_builtin; refine wpList_append_here rfl _ _ 77 rfl w.heap.size 86 i0 _ 2 16 Try.underlying77 hi0 hz0 hz1 hz2 rfl (by decide) _ td.length (joinC td) rfl (T7.row.alloc _) ⟨w7.heap.size, 0, none⟩ 1 1 [.int .i64 (xn : Int), .int .i64 (m7 : Int)] rfl rfl (cell_two_news w7 0 _ _ _) (by simp [Value.oneCell']) (by unfold maxLen; omega) (by omega) (by simp; omega) ?_; intro v8 w8 hown8 hgrow8 hloc8; obtain ⟨ga, gc, hg8⟩ := row_form' hown8; subst hg8))
              obtain ⟨T8, U8, G8⟩ := T7.push U7 (G6.trans G7) _ hown8 hgrow8 hloc8
              refine ⟨⟨j + 1, z7, td ++ [(xn, m7)], by omega, by simp, T8, U8, G8, ?_, ?_, X6.mono G7.chain.st⟩, by simp [intOf]; omega⟩
              · show z7.t.length = z5.t.length
                rw [ht7]; exact ht6.out
              · show (td ++ [(xn, m7)]).length = rest.length + (j + 1)
                have := hl6.out
                simp; omega
            · have dj : decide ((j : Int) < (xs.length : Int)) = false := decide_eq_false (by omega)
              obtain rfl : j = xs.length := by omega
              rw [List.drop_length] at U6
              go_wp2_with fail
              go_roundg ((l.length - z6.t.length) * (4 * l.length + 1) + td.length)
              case measure =>
                have h1 := hHk.out
                have h2 := hmeas.out
                have h3 := hl6.out
                have h4 := ht6.out
                rw [h1, h4, h3, ← h2]
                simp
                omega
              case rel => exact ⟨z6, td, rfl, T6, U6, G6⟩
        · have dg : decide ((z'.g.lo p.2 : Int) < (z'.g.lo p.1 : Int)) = false := decide_eq_false (by omega)
          have JN := join_un w4 base l z' P rest p U4 p.1 p.2 _ _ (.inl rfl) rfl rfl (by omega)
          have hlh : z'.g.lo p.2 < l.length := by have := U4.inv.le p.2 hin.2; omega
          rw [hpk] at JN
          go_wp2_with (go_at_call 122; refine JN.mono ?_; rintro e w5 ⟨rfl, z5, U5, G5, ht5, huv5, hus5⟩; have k25 := U5.cz.k2; rw [G5.grows.pk, hpk] at k25; have uh5 := U5.cz.u hlh; obtain ⟨ua, uc, hua⟩ := UseIs.form (U5.cz.usesAt _ hlh); rw [hua] at uh5)
          have X5 : UseIs z5.st (.slice ua (z'.us (z'.g.lo p.2)).length uc) (z'.us (z'.g.lo p.2)) := by
            have := U5.cz.usesAt _ hlh
            rw [hua, hus5] at this
            exact this
          have T5 := T4.went G5
          have G6 := G4.trans G5
          have hmeas : Hid ((l.length - z5.t.length) * (4 * l.length + 1) + (4 * l.length + 1) = (l.length - z'.t.length) * (4 * l.length + 1)) := by
            have h1 := U5.tle
            have h2 : l.length - z'.t.length = (l.length - z5.t.length) + 1 := by omega
            show _ = _
            rw [h2, Nat.add_mul, Nat.one_mul]
          have hxl : (z'.us (z'.g.lo p.2)).length ≤ 4 * l.length := by
            have := U4.inv.ulen U4.cz.bd hlh (U4.inv.idem _ hin.2)
            exact this
          have hpk5 : z5.pk = z.pk := G5.grows.pk.trans hpk
          have htd5 := U5.td
          have hHk : Hid (_ = _) := hk.out
          clear JN k25 uh5 U4 T4 G4 G5 ds dg hs hgt hk hua huv5 hus5 htd dk hin hcap
          generalize z'.us (z'.g.lo p.2) = xs at *
          go_loopw [4, 60] (fun v t60 W => ∃ (j : Nat) (z6 : Zs) (td : List (Nat × Nat)), j ≤ xs.length ∧ t60 = .int .i64 (j : Int) ∧ Td W w.heap.size z6 v td ∧ Un W base l z6 P td (xs.drop j) ∧ Went l w W z z6 ∧ Hid (z6.t.length = z5.t.length) ∧ Hid (td.length = rest.length + j) ∧ UseIs z6.st (.slice ua xs.length uc) xs) (fun _ t60 _ => xs.length - (intOf t60).toNat)
          case atStart => exact ⟨0, z5, rest, by omega, rfl, T5, by simpa using U5, G6, rfl, rfl, X5⟩
          case round =>
            clear T5 U5 G6 X5
            obtain ⟨j, z6, td, hj, rfl, T6, U6, G6, ht6, hl6, X6⟩ := hrel
            obtain ⟨va, vc, hv⟩ := row_form' T6.row
            subst hv
            by_cases hj2 : j < xs.length
            · have dj : decide ((j : Int) < (xs.length : Int)) = true := decide_eq_true (by omega)
              have hxj : xs[j]? = some xs[j] := List.getElem?_eq_getElem hj2
              obtain ⟨bb, off, cap6, hv6, _, hc6⟩ := X6.cell U6.cz.sat hxj
              injection hv6 with e1 _ e3
              subst e1 e3
              have cj := hc6 j _ hxj
              clear hc6
              have hpk6 : z6.pk = z.pk := G6.grows.pk
              rw [List.drop_eq_getElem_cons hj2] at U6
              have LK := like_un wr base l z6 P td xs[j] (xs.drop (j + 1)) U6
              rw [hpk6] at LK
              have b6' := U6.bound
              have htd6 := U6.td
              obtain ⟨i0, hi0, hz0, hz1, hz2⟩ := info_parts infoPair
              generalize hxn : xs[j] = xn at *
              go_wp2_with (first | (go_at_call 123; refine LK.mono ?_; rintro e w7 ⟨m7, z7, rfl, U7, G7, ht7, huv7, hus7⟩; have T7 := T6.went G7; have hB7 : w.heap.size ≤ w7.heap.size := Nat.le_trans G6.kept.size G7.kept.size) | (at_builtin; refine wpList_append_here rfl _ _ 77 rfl w.heap.size 86 i0 _ 2 16 Try.underlying77 hi0 hz0 hz1 hz2 rfl (by decide) _ td.length (joinC td) rfl (T7.row.alloc _) ⟨w7.heap.size, 0, none⟩ 1 1 [.int .i64 (xn : Int), .int .i64 (m7 : Int)] rfl rfl (cell_two_news w7 0 _ _ _) (by simp [Value.oneCell']) (by unfold maxLen; omega) (by omega) (by simp; omega) ?_; intro v8 w8 hown8 hgrow8 hloc8; obtain ⟨ga, gc, hg8⟩ := row_form' hown8; subst hg8))
              obtain ⟨T8, U8, G8⟩ := T7.push U7 (G6.trans G7) _ hown8 hgrow8 hloc8
              refine ⟨⟨j + 1, z7, td ++ [(xn, m7)], by omega, by simp, T8, U8, G8, ?_, ?_, X6.mono G7.chain.st⟩, by simp [intOf]; omega⟩
              · show z7.t.length = z5.t.length
                rw [ht7]; exact ht6.out
              · show (td ++ [(xn, m7)]).length = rest.length + (j + 1)
                have := hl6.out
                simp; omega
            · have dj : decide ((j : Int) < (xs.length : Int)) = false := decide_eq_false (by omega)
              obtain rfl : j = xs.length := by omega
              rw [List.drop_length] at U6
              go_wp2_with fail
              go_roundg ((l.length - z6.t.length) * (4 * l.length + 1) + td.length)
              case measure =>
                have h1 := hHk.out
                have h2 := hmeas.out
                have h3 := hl6.out
                have h4 := ht6.out
                rw [h1, h4, h3, ← h2]
                simp
                omega
              case rel => exact ⟨z6, td, rfl, T6, U6, G6⟩

end Go.Proofs.Ytinphcnknionmaa

namespace Go.Proofs.Ytinphcnknionmaa
open Go.RowKit Go.Maps

/-- All of a Closure. -/
structure Ks where
  pc : Nat
  tv : Value
  told : List Nat
  z : Zs
def Ks.Foot (k : Ks) (i : Nat) : Prop := i = k.pc ∨ k.tv.ownBlock = some i ∨ k.z.Foot i
def Ks.All (k : Ks) (i : Nat) : Prop := i = k.pc ∨ k.tv.ownBlock = some i ∨ k.z.All i
theorem Ks.Foot.all {k : Ks} {i : Nat} (h : k.Foot i) : k.All i := h.imp id (fun h => h.imp id .inl)
def cloC (pk : Nat) (tv : Value) (j : Nat) : Value := if j = 0 then .pointer (some ⟨pk, 0, none⟩) else tv

structure Cl (w : World) (base : Nat) (l : List Tm) (c : Ks) (P : List (Nat × Nat)) : Prop where
  clo : w.rowIs c.pc 145 2 (cloC c.z.pk c.tv)
  told : w.ownsRow base 3 1 c.tv c.told.length (natC c.told)
  un : Un w base l c.z P [] []
  farP : ¬ c.z.All c.pc
  farT : ∀ k, c.tv.ownBlock = some k → ¬ c.z.All k
  bp : base ≤ c.pc
  num : c.told.length = P.length

theorem Cl.all_lt {w : World} {base : Nat} {l : List Tm} {c : Ks} {P : List (Nat × Nat)} (h : Cl w base l c P) {k : Nat} (hk : c.All k) : k < w.heap.size := by
  rcases hk with e | e | e
  · rw [e]; exact h.clo.lt
  · exact (h.told.lt k e).2
  · exact h.un.cz.all_lt e
theorem Cl.all_ge {w : World} {base : Nat} {l : List Tm} {c : Ks} {P : List (Nat × Nat)} (h : Cl w base l c P) {k : Nat} (hk : c.All k) : base ≤ k := by
  rcases hk with e | e | e
  · rw [e]; exact h.bp
  · exact (h.told.lt k e).1
  · exact h.un.cz.all_ge e
theorem Cl.keep {w w' : World} {base : Nat} {l : List Tm} {c : Ks} {P : List (Nat × Nat)} (h : Cl w base l c P) {S : Nat → Prop} (K : Kept S w w') (hS : ∀ k, c.All k → ¬ S k) : Cl w' base l c P :=
  ⟨h.clo.of_block (K.block _ h.clo.lt (hS _ (.inl rfl))), ownsRow_block h.told (fun k hk => K.block k (h.told.lt k hk).2 (hS k (.inr (.inl hk)))), h.un.keep K (fun k hk => hS k (.inr (.inr hk))), h.farP, h.farT, h.bp, h.num⟩
theorem Cl.kept0 {w w' : World} {base : Nat} {l : List Tm} {c : Ks} {P : List (Nat × Nat)} (h : Cl w base l c P) (K : Kept0 w w') : Cl w' base l c P := h.keep K (fun _ _ e => e)
theorem Cl.c0 {w : World} {base : Nat} {l : List Tm} {c : Ks} {P : List (Nat × Nat)} (h : Cl w base l c P) : w.cell? ⟨c.pc, 0, none⟩ = some (.pointer (some ⟨c.z.pk, 0, none⟩)) := h.clo.cell (i := 0) (by omega)
theorem Cl.c1 {w : World} {base : Nat} {l : List Tm} {c : Ks} {P : List (Nat × Nat)} (h : Cl w base l c P) : w.cell? ⟨c.pc, 1, none⟩ = some c.tv := h.clo.cell (i := 1) (by omega)

set_option maxHeartbeats 1000000 in
theorem khas_in (w : World) (base : Nat) (l : List Tm) (c : Ks) (P : List (Nat × Nat)) (h : Cl w base l c P) (a : Int) :
    Calls Try.prog 89 #[.pointer (some ⟨c.pc, 0, none⟩), .int .i64 a] w fun e w' => e = .returned (.bool (inB l.length a)) ∧ w = w' := by
  have c0 := h.c0
  have k1 := h.un.cz.k1
  have hl := h.un.cz.len
  clear h
  go_enter Try.func89, Try.ntmps89
  go_wp2
  · go_ret
    exact ⟨ret_bool (inB_ge ‹_›), rfl⟩
  · go_ret
    exact ⟨ret_bool (inB_lt ‹_›), rfl⟩

set_option maxHeartbeats 1000000 in
theorem kSame_in (w : World) (base : Nat) (l : List Tm) (c : Ks) (P : List (Nat × Nat)) (h : Cl w base l c P) (a b : Int) :
    Calls Try.prog 47 #[.pointer (some ⟨c.pc, 0, none⟩), .int .i64 a, .int .i64 b] w fun e w' => e = .returned (.bool (sameB l.length c.z.g a b)) ∧ ∃ m, w' = w.drewN m := by
  have c0 := h.c0
  have k0 := h.un.cz.k0
  have SM := Same_in w base c.z.ps c.z.nb l.length c.z.g c.z.jv _ h.un.cz.sets.lies _ h.un.cz.ok a b
  clear h
  go_enter Try.func47, Try.ntmps47
  go_wp2_with (go_at_call 34; refine SM.mono ?_; rintro e w2 ⟨rfl, m, rfl⟩)
  go_ret
  exact ⟨rfl, m, rfl⟩

set_option maxHeartbeats 1000000 in
theorem kMark_in (w : World) (base : Nat) (l : List Tm) (c : Ks) (P : List (Nat × Nat)) (h : Cl w base l c P) :
    Calls Try.prog 46 #[.pointer (some ⟨c.pc, 0, none⟩)] w fun e w' => e = .returned (.int .i64 (P.length : Int)) ∧ w = w' := by
  have c1 := h.c1
  obtain ⟨ta, tc, htv⟩ := row_form' h.told
  rw [htv] at c1
  have hn := h.num
  rw [← hn]
  clear h hn
  go_enter Try.func46, Try.ntmps46
  go_wp2
  go_ret
  exact ⟨rfl, rfl⟩

/-- The least terms of all classes. -/
def lows (l : List Tm) (g : Uf.G) : List Nat := (List.range l.length).map g.lo
theorem lows_get {l : List Tm} {g : Uf.G} {i : Nat} (hi : i < l.length) : (lows l g)[i]? = some (g.lo i) := by simp [lows, hi]
theorem lows_len (l : List Tm) (g : Uf.G) : (lows l g).length = l.length := by simp [lows]

set_option maxHeartbeats 2000000 in
set_option maxRecDepth 100000 in
theorem kClasses_in (w : World) (base : Nat) (l : List Tm) (c : Ks) (P : List (Nat × Nat)) (h : Cl w base l c P) :
    Calls Try.prog 44 #[.pointer (some ⟨c.pc, 0, none⟩)] w fun e w' => e = .returned (.slice (some ⟨w.heap.size, 0, none⟩) l.length l.length) ∧ w'.rowIs w.heap.size 3 l.length (fun i => .int .i64 (c.z.g.lo i : Int)) ∧ Kept0 w w' := by
  have hlen := h.un.cz.len
  have M1 := make_ints w 40 Try.underlying40 l.length (by omega)
  have R1 := World.rowIs_made w (.int .i64 0) l.length 3
  have K1 : Kept0 w (w.alloc (.cells (madeCells #[.int .i64 0] l.length) 3)) := Kept.alloc (Kept.refl _ w) _
  have c0 := h.c0
  have k1 := h.un.cz.k1
  go_enter Try.func44, Try.ntmps44
  go_wp2_with fail
  clear M1 c0 k1
  generalize w.alloc (.cells (madeCells #[.int .i64 0] l.length) 3) = w1 at *
  go_loopw [16] (fun t16 W => ∃ k : Nat, k ≤ l.length ∧ t16 = .int .i64 (k : Int) ∧ W.rowIs w.heap.size 3 l.length (fun i => .int .i64 (if i < k then (c.z.g.lo i : Int) else 0)) ∧ Kept0 w W) (fun t16 _ => l.length - (intOf t16).toNat)
  case atStart => exact ⟨0, by omega, rfl, R1.congr (fun i _ => by simp), K1⟩
  case round =>
    clear R1 K1
    obtain ⟨k, hk, rfl, R, K⟩ := hrel
    by_cases hk2 : k < l.length
    · have dk : decide ((k : Int) < (l.length : Int)) = true := decide_eq_true (by omega)
      have H := h.kept0 K
      have c0 := H.c0
      have k0 := H.un.cz.k0
      have LE := H.un.cz.least hk2
      have ck := R.cell (i := k) hk2
      have fk := R.frozen k
      have HH : Hid (_ ∧ _) := ⟨R, K⟩
      clear R K H
      go_wp2_with (go_at_call 27; refine LE.mono ?_; rintro e w9 ⟨rfl, m9, rfl⟩)
      obtain ⟨R, K⟩ := HH.out
      refine ⟨⟨k + 1, hk2, by simp, ?_, Kept.setNew (K.drewN _) (Nat.le_refl _) _⟩, by simp [intOf]; omega⟩
      refine World.rowIs.congr (World.rowIs.set (World.rowIs.of_block R rfl : (wr.drewN m9).rowIs w.heap.size 3 l.length _) k _) (fun i hi => ?_)
      by_cases e : i = k
      · rw [if_pos e, e, if_pos (Nat.lt_succ_self k)]
      · rw [if_neg e]
        by_cases e2 : i < k
        · rw [if_pos e2, if_pos (by omega)]
        · rw [if_neg e2, if_neg (by omega)]
    · have dk : decide ((k : Int) < (l.length : Int)) = false := decide_eq_false (by omega)
      obtain rfl : k = l.length := by omega
      go_wp2_with fail
      go_ret
      exact ⟨rfl, R.congr (fun i hi => by rw [if_pos hi]), K⟩

set_option maxHeartbeats 1000000 in
set_option maxRecDepth 100000 in
theorem kNew_in (w : World) (base p : Nat) (ev : Value) (nb fb : Nat) (l : List Tm) (h : Bk w base p ev nb fb l) (hb : Cc.Bd l) (hl : l.length ≤ 150) :
    Calls Try.prog 38 #[.pointer (some ⟨p, 0, none⟩)] w fun e w' => ∃ c : Ks, e = .returned (.pointer (some ⟨c.pc, 0, none⟩)) ∧ Cl w' w.heap.size l c [] ∧ Kept0 w w' := by
  have TO := termsOf_in w base p ev nb fb l h
  have NC : ∀ w1 tb av st, Tf w w1 tb l l.length av st → Calls Try.prog 87 #[.slice (some ⟨tb, 0, none⟩) l.length l.length] w1 fun e w' => ∃ z : Zs, e = .returned (.pointer (some ⟨z.pk, 0, none⟩)) ∧ Un w' w.heap.size l z [] [] [] ∧ Kept0 w1 w' ∧ w1.heap.size ≤ z.pk ∧ (∀ k, z.All k → w.heap.size ≤ k) := fun w1 tb av st T => by
    obtain ⟨f, R, hf⟩ := T.row
    exact newC_in w1 w.heap.size l tb av st (R.congr (fun j hj => hf j hj)) T.sat (fun i t ht => T.args i t (List.getElem?_eq_some_iff.1 ht).1 ht) hb h.oks hl T.kept.size T.tb (fun x hx => (T.far x hx).1)
  go_enter Try.func38, Try.ntmps38
  go_wp2_with (first | (go_at_call 88; refine TO.mono ?_; rintro e w1 ⟨tb, av, st, rfl, T⟩; have NC1 := NC w1 tb av st T) | (go_at_call 87; refine NC1.mono ?_; rintro e w2 ⟨z, rfl, U, K2, hz, hA⟩))
  go_ret
  have K3 : Kept0 w2 (w2.alloc (.cells #[.pointer (some ⟨z.pk, 0, none⟩), .slice none 0 0] 145)) := Kept.alloc (Kept.refl _ w2) _
  have hw2 : w.heap.size ≤ w2.heap.size := Nat.le_trans T.kept.size K2.size
  refine ⟨⟨w2.heap.size, .slice none 0 0, [], z⟩, rfl, ⟨?_, World.ownsRow_nil _ _ _ _, U.kept0 K3, fun hA' => ?_, fun k hk => by simp [Value.ownBlock] at hk, hw2, rfl⟩, (T.kept.trans K2).trans K3⟩
  · exact (box_row w2 (.pointer (some ⟨z.pk, 0, none⟩)) (.slice none 0 0) 145)
  · have := U.cz.all_lt hA'
    exact Nat.lt_irrefl _ this

end Go.Proofs.Ytinphcnknionmaa
