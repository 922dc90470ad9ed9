/- Package close: a Closure; New, has, Same, Mark, Classes. -/
import Derived.Test.YtpipihllofpnaaaCloL
import Derived.Test.YtpipihllofpnaaaCloH
namespace Go.Proofs.Ytpipihllofpnaaa
open Go.RowKit Go.Maps

/-- All of a Closure. -/
structure Ks where
  pc : Nat
  tv : Value
  told : List Nat
  z : Zs
def Ks.Foot (k : Ks) (i : Nat) : Prop := i = k.pc ∨ k.tv.ownBlock = some i ∨ k.z.Foot i
def Ks.All (k : Ks) (i : Nat) : Prop := i = k.pc ∨ k.tv.ownBlock = some i ∨ k.z.All i
theorem Ks.Foot.all {k : Ks} {i : Nat} (h : k.Foot i) : k.All i := h.imp id (fun h => h.imp id .inl)
def cloC (pk : Nat) (tv : Value) (j : Nat) : Value := if j = 0 then .pointer (some ⟨pk, 0, none⟩) else tv

structure Cl (w : World) (base : Nat) (l : List Tm) (c : Ks) (P : List (Nat × Nat)) : Prop where
  clo : w.rowIs c.pc 145 2 (cloC c.z.pk c.tv)
  told : w.ownsRow base 3 1 c.tv c.told.length (natC c.told)
  un : Un w base l c.z P [] []
  farP : ¬ c.z.All c.pc
  farT : ∀ k, c.tv.ownBlock = some k → ¬ c.z.All k
  bp : base ≤ c.pc
  num : c.told.length = P.length

theorem Cl.all_lt {w : World} {base : Nat} {l : List Tm} {c : Ks} {P : List (Nat × Nat)} (h : Cl w base l c P) {k : Nat} (hk : c.All k) : k < w.heap.size := by
  rcases hk with e | e | e
  · rw [e]; exact h.clo.lt
  · exact (h.told.lt k e).2
  · exact h.un.cz.all_lt e
theorem Cl.all_ge {w : World} {base : Nat} {l : List Tm} {c : Ks} {P : List (Nat × Nat)} (h : Cl w base l c P) {k : Nat} (hk : c.All k) : base ≤ k := by
  rcases hk with e | e | e
  · rw [e]; exact h.bp
  · exact (h.told.lt k e).1
  · exact h.un.cz.all_ge e
theorem Cl.keep {w w' : World} {base : Nat} {l : List Tm} {c : Ks} {P : List (Nat × Nat)} (h : Cl w base l c P) {S : Nat → Prop} (K : Kept S w w') (hS : ∀ k, c.All k → ¬ S k) : Cl w' base l c P :=
  ⟨h.clo.of_block (K.block _ h.clo.lt (hS _ (.inl rfl))), ownsRow_block h.told (fun k hk => K.block k (h.told.lt k hk).2 (hS k (.inr (.inl hk)))), h.un.keep K (fun k hk => hS k (.inr (.inr hk))), h.farP, h.farT, h.bp, h.num⟩
theorem Cl.kept0 {w w' : World} {base : Nat} {l : List Tm} {c : Ks} {P : List (Nat × Nat)} (h : Cl w base l c P) (K : Kept0 w w') : Cl w' base l c P := h.keep K (fun _ _ e => e)
theorem Cl.c0 {w : World} {base : Nat} {l : List Tm} {c : Ks} {P : List (Nat × Nat)} (h : Cl w base l c P) : w.cell? ⟨c.pc, 0, none⟩ = some (.pointer (some ⟨c.z.pk, 0, none⟩)) := h.clo.cell (i := 0) (by omega)
theorem Cl.c1 {w : World} {base : Nat} {l : List Tm} {c : Ks} {P : List (Nat × Nat)} (h : Cl w base l c P) : w.cell? ⟨c.pc, 1, none⟩ = some c.tv := h.clo.cell (i := 1) (by omega)

set_option maxHeartbeats 1000000 in
theorem khas_in (w : World) (base : Nat) (l : List Tm) (c : Ks) (P : List (Nat × Nat)) (h : Cl w base l c P) (a : Int) :
    Calls Try.prog 89 #[.pointer (some ⟨c.pc, 0, none⟩), .int .i64 a] w fun e w' => e = .returned (.bool (inB l.length a)) ∧ w = w' := by
  have c0 := h.c0
  have k1 := h.un.cz.k1
  have hl := h.un.cz.len
  clear h
  go_enter Try.func89, Try.ntmps89
  go_wp2
  · go_ret
    exact ⟨ret_bool (inB_ge ‹_›), rfl⟩
  · go_ret
    exact ⟨ret_bool (inB_lt ‹_›), rfl⟩

set_option maxHeartbeats 1000000 in
theorem kSame_in (w : World) (base : Nat) (l : List Tm) (c : Ks) (P : List (Nat × Nat)) (h : Cl w base l c P) (a b : Int) :
    Calls Try.prog 47 #[.pointer (some ⟨c.pc, 0, none⟩), .int .i64 a, .int .i64 b] w fun e w' => e = .returned (.bool (sameB l.length c.z.g a b)) ∧ ∃ m, w' = w.drewN m := by
  have c0 := h.c0
  have k0 := h.un.cz.k0
  have SM := Same_in w base c.z.ps c.z.nb l.length c.z.g c.z.jv _ h.un.cz.sets.lies _ h.un.cz.ok a b
  clear h
  go_enter Try.func47, Try.ntmps47
  go_wp2_with (go_at_call 34; refine SM.mono ?_; rintro e w2 ⟨rfl, m, rfl⟩)
  go_ret
  exact ⟨rfl, m, rfl⟩

set_option maxHeartbeats 1000000 in
theorem kMark_in (w : World) (base : Nat) (l : List Tm) (c : Ks) (P : List (Nat × Nat)) (h : Cl w base l c P) :
    Calls Try.prog 46 #[.pointer (some ⟨c.pc, 0, none⟩)] w fun e w' => e = .returned (.int .i64 (P.length : Int)) ∧ w = w' := by
  have c1 := h.c1
  obtain ⟨ta, tc, htv⟩ := row_form' h.told
  rw [htv] at c1
  have hn := h.num
  rw [← hn]
  clear h hn
  go_enter Try.func46, Try.ntmps46
  go_wp2
  go_ret
  exact ⟨rfl, rfl⟩

/-- The least terms of all classes. -/
def lows (l : List Tm) (g : Uf.G) : List Nat := (List.range l.length).map g.lo
theorem lows_get {l : List Tm} {g : Uf.G} {i : Nat} (hi : i < l.length) : (lows l g)[i]? = some (g.lo i) := by simp [lows, hi]
theorem lows_len (l : List Tm) (g : Uf.G) : (lows l g).length = l.length := by simp [lows]

set_option maxHeartbeats 2000000 in
set_option maxRecDepth 100000 in
theorem kClasses_in (w : World) (base : Nat) (l : List Tm) (c : Ks) (P : List (Nat × Nat)) (h : Cl w base l c P) :
    Calls Try.prog 44 #[.pointer (some ⟨c.pc, 0, none⟩)] w fun e w' => e = .returned (.slice (some ⟨w.heap.size, 0, none⟩) l.length l.length) ∧ w'.rowIs w.heap.size 3 l.length (fun i => .int .i64 (c.z.g.lo i : Int)) ∧ Kept0 w w' := by
  have hlen := h.un.cz.len
  have M1 := make_ints w 40 Try.underlying40 l.length (by omega)
  have R1 := World.rowIs_made w (.int .i64 0) l.length 3
  have K1 : Kept0 w (w.alloc (.cells (madeCells #[.int .i64 0] l.length) 3)) := Kept.alloc (Kept.refl _ w) _
  have c0 := h.c0
  have k1 := h.un.cz.k1
  go_enter Try.func44, Try.ntmps44
  go_wp2_with fail
  clear M1 c0 k1
  generalize w.alloc (.cells (madeCells #[.int .i64 0] l.length) 3) = w1 at *
  go_loopw [16] (fun t16 W => ∃ k : Nat, k ≤ l.length ∧ t16 = .int .i64 (k : Int) ∧ W.rowIs w.heap.size 3 l.length (fun i => .int .i64 (if i < k then (c.z.g.lo i : Int) else 0)) ∧ Kept0 w W) (fun t16 _ => l.length - (intOf t16).toNat)
  case atStart => exact ⟨0, by omega, rfl, R1.congr (fun i _ => by simp), K1⟩
  case round =>
    clear R1 K1
    obtain ⟨k, hk, rfl, R, K⟩ := hrel
    by_cases hk2 : k < l.length
    · have dk : decide ((k : Int) < (l.length : Int)) = true := decide_eq_true (by omega)
      have H := h.kept0 K
      have c0 := H.c0
      have k0 := H.un.cz.k0
      have LE := H.un.cz.least hk2
      have ck := R.cell (i := k) hk2
      have fk := R.frozen k
      have HH : Hid (_ ∧ _) := ⟨R, K⟩
      clear R K H
      go_wp2_with (go_at_call 27; refine LE.mono ?_; rintro e w9 ⟨rfl, m9, rfl⟩)
      obtain ⟨R, K⟩ := HH.out
      refine ⟨⟨k + 1, hk2, by simp, ?_, Kept.setNew (K.drewN _) (Nat.le_refl _) _⟩, by simp [intOf]; omega⟩
      refine World.rowIs.congr (World.rowIs.set (World.rowIs.of_block R rfl : (wr.drewN m9).rowIs w.heap.size 3 l.length _) k _) (fun i hi => ?_)
      by_cases e : i = k
      · rw [if_pos e, e, if_pos (Nat.lt_succ_self k)]
      · rw [if_neg e]
        by_cases e2 : i < k
        · rw [if_pos e2, if_pos (by omega)]
        · rw [if_neg e2, if_neg (by omega)]
    · have dk : decide ((k : Int) < (l.length : Int)) = false := decide_eq_false (by omega)
      obtain rfl : k = l.length := by omega
      go_wp2_with fail
      go_ret
      exact ⟨rfl, R.congr (fun i hi => by rw [if_pos hi]), K⟩

set_option maxHeartbeats 1000000 in
set_option maxRecDepth 100000 in
theorem kNew_in (w : World) (base p : Nat) (ev : Value) (nb fb : Nat) (l : List Tm) (h : Bk w base p ev nb fb l) (hb : Cc.Bd l) (hl : l.length ≤ 150) :
    Calls Try.prog 38 #[.pointer (some ⟨p, 0, none⟩)] w fun e w' => ∃ c : Ks, e = .returned (.pointer (some ⟨c.pc, 0, none⟩)) ∧ Cl w' w.heap.size l c [] ∧ Kept0 w w' := by
  have TO := termsOf_in w base p ev nb fb l h
  have NC : ∀ w1 tb av st, Tf w w1 tb l l.length av st → Calls Try.prog 87 #[.slice (some ⟨tb, 0, none⟩) l.length l.length] w1 fun e w' => ∃ z : Zs, e = .returned (.pointer (some ⟨z.pk, 0, none⟩)) ∧ Un w' w.heap.size l z [] [] [] ∧ Kept0 w1 w' ∧ w1.heap.size ≤ z.pk ∧ (∀ k, z.All k → w.heap.size ≤ k) := fun w1 tb av st T => by
    obtain ⟨f, R, hf⟩ := T.row
    exact newC_in w1 w.heap.size l tb av st (R.congr (fun j hj => hf j hj)) T.sat (fun i t ht => T.args i t (List.getElem?_eq_some_iff.1 ht).1 ht) hb h.oks hl T.kept.size T.tb (fun x hx => (T.far x hx).1)
  go_enter Try.func38, Try.ntmps38
  go_wp2_with (first | (go_at_call 88; refine TO.mono ?_; rintro e w1 ⟨tb, av, st, rfl, T⟩; have NC1 := NC w1 tb av st T) | (go_at_call 87; refine NC1.mono ?_; rintro e w2 ⟨z, rfl, U, K2, hz, hA⟩))
  go_ret
  have K3 : Kept0 w2 (w2.alloc (.cells #[.pointer (some ⟨z.pk, 0, none⟩), .slice none 0 0] 145)) := Kept.alloc (Kept.refl _ w2) _
  have hw2 : w.heap.size ≤ w2.heap.size := Nat.le_trans T.kept.size K2.size
  refine ⟨⟨w2.heap.size, .slice none 0 0, [], z⟩, rfl, ⟨?_, World.ownsRow_nil _ _ _ _, U.kept0 K3, fun hA' => ?_, fun k hk => by simp [Value.ownBlock] at hk, hw2, rfl⟩, (T.kept.trans K2).trans K3⟩
  · exact (box_row w2 (.pointer (some ⟨z.pk, 0, none⟩)) (.slice none 0 0) 145)
  · have := U.cz.all_lt hA'
    exact Nat.lt_irrefl _ this
