/- Package close: signature. -/
import Derived.Test.YtpipihllofpnaaaCloA
namespace Go.Proofs.Ytpipihllofpnaaa
open Go.RowKit Go.Maps

theorem Kept.setNew {S : Nat → Prop} {w W : World} (h : Kept S w W) {b off : Nat} (hb : w.heap.size ≤ b) (u : Value) : Kept S w (W.setCell ⟨b, off, none⟩ u) :=
  ⟨h.os, h.tape, h.output, by simpa [World.setCell] using h.size, fun k hk hs => (Below.heap_setCell _ _ _ _ (fun e => by have : k = b := e; omega)).trans (h.block k hk hs)⟩

/-- A signature that is filled in as far as k. -/
def sgF (s : Tm) (k : Nat) (j : Nat) : Value := if j = 0 then .string s.name else if j ≤ k then .int .i64 (s.arg (j - 1) : Int) else .int .i64 0

theorem sgF_step {lo : Nat → Nat} {t : Tm} {k a : Nat} (h4 : t.args.length ≤ 4) (hk : t.args[k]? = some a) : ∀ j, j < 5 → (if j = 1 + k then Value.int .i64 (lo a : Int) else sgF (Cc.sg lo t) k j) = sgF (Cc.sg lo t) (k + 1) j := by
  intro j hj
  have hkl := (List.getElem?_eq_some_iff.1 hk).1
  have ha : (Cc.sg lo t).arg k = lo a := by rw [Cc.sg_arg _ _ _ (by omega), Cc.ar_some hk]
  unfold sgF
  by_cases e : j = 1 + k
  · subst e
    rw [if_pos rfl, if_neg (by omega), if_pos (by omega), show 1 + k - 1 = k by omega, ha]
  · rw [if_neg e]
    by_cases e0 : j = 0
    · rw [if_pos e0, if_pos e0]
    · rw [if_neg e0, if_neg e0]
      by_cases e1 : j ≤ k
      · rw [if_pos e1, if_pos (by omega)]
      · rw [if_neg e1, if_neg (by omega)]


theorem sgF_all {lo : Nat → Nat} {t : Tm} {j : Nat} (h4 : t.args.length ≤ 4) (hj : j < 5) : (sigL (Cc.sg lo t)).toArray[j]?.getD undef = sgF (Cc.sg lo t) t.args.length j := by
  have hz : ∀ k, t.args.length ≤ k → k < 4 → (Cc.sg lo t).arg k = 0 := fun k h1 h2 => by
    rw [Cc.sg_arg _ _ _ h2]
    unfold Cc.ar
    rw [List.getElem?_eq_none h1]
  unfold sgF
  rcases (by omega : j = 0 ∨ j = 1 ∨ j = 2 ∨ j = 3 ∨ j = 4) with rfl | rfl | rfl | rfl | rfl
  · rfl
  · by_cases e : 1 ≤ t.args.length
    · simp [sigL, e]
    · simp [sigL, e, hz 0 (by omega)]
  · by_cases e : 2 ≤ t.args.length
    · simp [sigL, e]
    · simp [sigL, e, hz 1 (by omega)]
  · by_cases e : 3 ≤ t.args.length
    · simp [sigL, e]
    · simp [sigL, e, hz 2 (by omega)]
  · by_cases e : 4 ≤ t.args.length
    · simp [sigL, e]
    · simp [sigL, e, hz 3 (by omega)]

set_option maxHeartbeats 1000000 in
set_option maxRecDepth 100000 in
theorem sig_in (w : World) (base : Nat) (l : List Tm) (z : Zs) (h : Cz w base l z) (n : Nat) (t : Tm) (ht : l[n]? = some t) :
    Calls Try.prog 121 #[.pointer (some ⟨z.pk, 0, none⟩), .int .i64 (n : Int)] w fun e w' => e = .returned (sigV (Cc.sg z.g.lo t)) ∧ Kept0 w w' := by
  have hn : n < l.length := (List.getElem?_eq_some_iff.1 ht).1
  have hlen := h.len
  have hok := h.oks t (List.mem_of_getElem? ht)
  have h4 := hok.args
  have hargs := h.argsAt n t ht
  have hV : sigV (Cc.sg z.g.lo t) = .agg #[.string (Cc.sg z.g.lo t).name, .int .i64 ((Cc.sg z.g.lo t).arg 0 : Int), .int .i64 ((Cc.sg z.g.lo t).arg 1 : Int), .int .i64 ((Cc.sg z.g.lo t).arg 2 : Int), .int .i64 ((Cc.sg z.g.lo t).arg 3 : Int)] := rfl
  rw [hV]
  clear hV
  have K1 : Kept0 w (w.alloc (.cells #[.string ⟨#[]⟩, .int .i64 0, .int .i64 0, .int .i64 0, .int .i64 0] 196)) := Kept.alloc (Kept.refl _ w) _
  have R1 := made_row w #[.string ⟨#[]⟩, .int .i64 0, .int .i64 0, .int .i64 0, .int .i64 0] 196
  have k1 := (h.kept0 K1).k1
  have t0 := (h.kept0 K1).t0 ht
  have t1 := (h.kept0 K1).t1 ht
  obtain ⟨aa, ac, hav⟩ := hargs.form
  rw [hav] at t1 hargs
  go_enter Try.func121, Try.ntmps121
  go_wp2_with fail
  have F0 : ∀ W : World, (W.alloc (.cells #[.string t.name, .int .i64 0, .int .i64 0, .int .i64 0, .int .i64 0] 196)).rowIs W.heap.size 196 5 (sgF (Cc.sg z.g.lo t) 0) := fun W => (made_row W #[.string t.name, .int .i64 0, .int .i64 0, .int .i64 0, .int .i64 0] 196).congr (fun j hj => by
    have hj' : j < 5 := hj
    rcases (by omega : j = 0 ∨ j = 1 ∨ j = 2 ∨ j = 3 ∨ j = 4) with rfl | rfl | rfl | rfl | rfl <;> rfl)
  have F1 := F0 ((w.alloc (.cells #[.string ⟨#[]⟩, .int .i64 0, .int .i64 0, .int .i64 0, .int .i64 0] 196)).alloc (.cells #[.string t.name, .slice aa t.args.length ac] 42))
  have hsz : ((w.alloc (.cells #[.string ⟨#[]⟩, .int .i64 0, .int .i64 0, .int .i64 0, .int .i64 0] 196)).alloc (.cells #[.string t.name, .slice aa t.args.length ac] 42)).heap.size = w.heap.size + 1 + 1 := by simp
  rw [hsz] at F1
  have K3 := (K1.alloc (.cells #[.string t.name, .slice aa t.args.length ac] 42)).alloc (.cells #[.string t.name, .int .i64 0, .int .i64 0, .int .i64 0, .int .i64 0] 196)
  have R3 := World.rowIs.alloc (World.rowIs.alloc R1 (.cells #[.string t.name, .slice aa t.args.length ac] 42)) (.cells #[.string t.name, .int .i64 0, .int .i64 0, .int .i64 0, .int .i64 0] 196)
  generalize ((w.alloc (.cells #[.string ⟨#[]⟩, .int .i64 0, .int .i64 0, .int .i64 0, .int .i64 0] 196)).alloc (.cells #[.string t.name, .slice aa t.args.length ac] 42)).alloc (.cells #[.string t.name, .int .i64 0, .int .i64 0, .int .i64 0, .int .i64 0] 196) = w3 at F1 K3 R3 ⊢
  clear F0 hsz K1 R1 k1 t0 t1
  have hb6 : w.heap.size < w.heap.size + 1 + 1 := by omega
  generalize w.heap.size + 1 + 1 = b6 at F1 hb6 ⊢
  go_loopw [22] (fun t22 W => ∃ k : Nat, k ≤ t.args.length ∧ t22 = .int .i64 (k : Int) ∧ W.rowIs b6 196 5 (sgF (Cc.sg z.g.lo t) k) ∧ (∃ f, W.rowIs w.heap.size 196 5 f) ∧ Kept0 w W) (fun t22 _ => t.args.length - (intOf t22).toNat)
  case atStart => exact ⟨0, by omega, rfl, F1, ⟨_, R3⟩, K3⟩
  case round =>
    clear F1 R3 K3
    obtain ⟨k, hk, rfl, F, ⟨f4, R4⟩, K⟩ := hrel
    have H := h.kept0 K
    have k0 := H.k0
    by_cases hk2 : k < t.args.length
    · have dk : decide ((k : Int) < (t.args.length : Int)) = true := decide_eq_true (by omega)
      have hka : t.args[k]? = some t.args[k] := List.getElem?_eq_getElem hk2
      obtain ⟨b, off, cap, hv, _, hc⟩ := hargs.cell H.sat hka
      injection hv with e1 e2 e3
      subst e1 e3
      have ck := hc k _ hka
      have hlt := h.bd.args n t ht _ (List.getElem_mem hk2)
      have LE := fun m => (H.drewN m).least hlt
      have hka4 := h.bd.four t (List.mem_of_getElem? ht)
      have x1 : wr.cell? ⟨b6, 1 + k, none⟩ = some (.int .i64 0) := by
        rw [F.cell (i := 1 + k) (by omega)]
        simp [sgF]
        omega
      have x2 := F.frozen (1 + k)
      clear hc
      go_wp2_with (go_at_call 27; refine (LE 0).mono ?_; rintro e w9 ⟨rfl, m9, rfl⟩)
      refine ⟨⟨k + 1, by omega, by simp, ?_, ⟨_, World.rowIs.setOther (World.rowIs.of_block R4 rfl) (show w.heap.size ≠ b6 by omega) _⟩, Kept.setNew (K.drewN _) (by omega) _⟩, by simp [intOf]; omega⟩
      exact World.rowIs.congr (World.rowIs.set (World.rowIs.of_block F rfl : (wr.drewN m9).rowIs b6 196 5 _) (1 + k) _) (sgF_step hka4 hka)
    · have dk : decide ((k : Int) < (t.args.length : Int)) = false := decide_eq_false (by omega)
      obtain rfl : k = t.args.length := by omega
      have FA : wr.rowIs b6 196 5 (fun j => (sigL (Cc.sg z.g.lo t)).toArray[j]?.getD undef) := F.congr (fun j hj => (sgF_all h4 hj).symm)
      have x0 : wr.cell? ⟨b6, 0, none⟩ = some (.string (Cc.sg z.g.lo t).name) := FA.cell (i := 0) (by omega)
      have x1 : wr.cell? ⟨b6, 1, none⟩ = some (.int .i64 ((Cc.sg z.g.lo t).arg 0 : Int)) := FA.cell (i := 1) (by omega)
      have x2 : wr.cell? ⟨b6, 2, none⟩ = some (.int .i64 ((Cc.sg z.g.lo t).arg 1 : Int)) := FA.cell (i := 2) (by omega)
      have x3 : wr.cell? ⟨b6, 3, none⟩ = some (.int .i64 ((Cc.sg z.g.lo t).arg 2 : Int)) := FA.cell (i := 3) (by omega)
      have x4 : wr.cell? ⟨b6, 4, none⟩ = some (.int .i64 ((Cc.sg z.g.lo t).arg 3 : Int)) := FA.cell (i := 4) (by omega)
      have y0 := R4.cell (i := 0) (by omega)
      have y1 := R4.cell (i := 1) (by omega)
      have y2 := R4.cell (i := 2) (by omega)
      have y3 := R4.cell (i := 3) (by omega)
      have y4 := R4.cell (i := 4) (by omega)
      have v0 := R4.frozen 0
      have v1 := R4.frozen 1
      have v2 := R4.frozen 2
      have v3 := R4.frozen 3
      have v4 := R4.frozen 4
      have hbne : ¬ w.heap.size = b6 := by omega
      go_wp2_with fail
      generalize Cc.sg z.g.lo t = s at *
      have K5 := Kept.setNew (off := 4) (Kept.setNew (off := 3) (Kept.setNew (off := 2) (Kept.setNew (off := 1) (Kept.setNew (off := 0) K (Nat.le_refl _) (.string s.name)) (Nat.le_refl _) (.int .i64 (s.arg 0 : Int))) (Nat.le_refl _) (.int .i64 (s.arg 1 : Int))) (Nat.le_refl _) (.int .i64 (s.arg 2 : Int))) (Nat.le_refl _) (.int .i64 (s.arg 3 : Int))
      have R5 := ((((R4.set 0 (.string s.name)).set 1 (.int .i64 (s.arg 0 : Int))).set 2 (.int .i64 (s.arg 1 : Int))).set 3 (.int .i64 (s.arg 2 : Int))).set 4 (.int .i64 (s.arg 3 : Int))
      generalize ((((wr.setCell ⟨w.heap.size, 0, none⟩ (.string s.name)).setCell ⟨w.heap.size, 1, none⟩ (.int .i64 (s.arg 0 : Int))).setCell ⟨w.heap.size, 2, none⟩ (.int .i64 (s.arg 1 : Int))).setCell ⟨w.heap.size, 3, none⟩ (.int .i64 (s.arg 2 : Int))).setCell ⟨w.heap.size, 4, none⟩ (.int .i64 (s.arg 3 : Int)) = w5 at K5 R5 ⊢
      have z0 : w5.cell? ⟨w.heap.size, 0, none⟩ = some (.string s.name) := R5.cell (i := 0) (by omega)
      have z1 : w5.cell? ⟨w.heap.size, 1, none⟩ = some (.int .i64 (s.arg 0 : Int)) := R5.cell (i := 1) (by omega)
      have z2 : w5.cell? ⟨w.heap.size, 2, none⟩ = some (.int .i64 (s.arg 1 : Int)) := R5.cell (i := 2) (by omega)
      have z3 : w5.cell? ⟨w.heap.size, 3, none⟩ = some (.int .i64 (s.arg 2 : Int)) := R5.cell (i := 3) (by omega)
      have z4 : w5.cell? ⟨w.heap.size, 4, none⟩ = some (.int .i64 (s.arg 3 : Int)) := R5.cell (i := 4) (by omega)
      refine ⟨rfl, .agg #[.string s.name, .int .i64 (s.arg 0 : Int), .int .i64 (s.arg 1 : Int), .int .i64 (s.arg 2 : Int), .int .i64 (s.arg 3 : Int)], by simp [results, Try.results121, go_sem, z0, z1, z2, z3, z4], rfl, K5⟩
