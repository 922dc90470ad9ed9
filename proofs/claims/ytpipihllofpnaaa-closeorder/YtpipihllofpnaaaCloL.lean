/- Package close: newClasses' walk. -/
import Derived.Test.YtpipihllofpnaaaCloK
import Derived.Deep.RegionHeld3
namespace Go.Proofs.Ytpipihllofpnaaa
open Go.RowKit Go.Maps

set_option maxHeartbeats 2000000 in
set_option maxRecDepth 100000 in
theorem newC_in (w : World) (base : Nat) (l : List Tm) (tb : Nat) (av : Nat → Value) (st : List (Nat × Obj)) (hR : w.rowIs tb 42 (l.length * 2) (termC l av)) (hS : Sat st w) (hA : ∀ (i : Nat) (t : Tm), l[i]? = some t → UseIs st (av i) t.args) (hb : Cc.Bd l) (hok : ∀ t ∈ l, t.ok) (hl : l.length ≤ 150)
    (hbase : base ≤ w.heap.size) (htb : base ≤ tb) (hst : ∀ x ∈ st, base ≤ x.1) :
    Calls Try.prog 87 #[.slice (some ⟨tb, 0, none⟩) l.length l.length] w fun e w' => ∃ z : Zs, e = .returned (.pointer (some ⟨z.pk, 0, none⟩)) ∧ Un w' base l z [] [] [] ∧ Kept0 w w' ∧ w.heap.size ≤ z.pk ∧ (∀ k, z.All k → base ≤ k) := by
  have hsl : ∀ x ∈ st, x.1 < w.heap.size := fun x hx => (Array.getElem?_eq_some_iff.1 (hS x hx)).1
  have NEW := New_st w l.length (by omega)
  have FIR : ∀ w1, Below w.heap.size w w1 → Calls Try.prog 120 #[.slice (some ⟨tb, 0, none⟩) l.length l.length] w1 fun e w' => ∃ ub uv st2, e = .returned (.slice (some ⟨ub, 0, none⟩) l.length l.length) ∧ Fu w1 w' ub l uv st2 := fun w1 B1 =>
    first_in w1 l tb av st (hR.of_block (B1.block _ hR.lt)) (fun x hx => (B1.block _ (hsl x hx)).trans (hS x hx)) hA hb hl
  have hmm := @run_makeMap Try.prog
  go_enter Try.func87, Try.ntmps87
  go_wp2_with (first | (go_at_call 24; refine NEW.mono ?_; rintro e w1 ⟨rfl, S1, B1⟩; have FI := FIR w1 B1) | (go_at_call 120; refine FI.mono ?_; rintro e w2 ⟨ub, uv, st2, rfl, F⟩))
  have C0 := Cz.made hR hS hA hb hok hl hbase htb hst hsl S1 B1 F
  have K0 : Kept0 w ((w2.alloc (.map #[] 0)).alloc (.cells #[.pointer (some ⟨w.heap.size + 1, 0, none⟩), .slice (some ⟨tb, 0, none⟩) l.length l.length, .slice (some ⟨ub, 0, none⟩) l.length l.length, .map (some w2.heap.size), .slice none 0 0] 150)) := Kept.alloc (Kept.alloc ((below_kept0 B1).trans F.kept) _) _
  have hs2 : w.heap.size ≤ w2.heap.size := ((below_kept0 B1).trans F.kept).size
  clear NEW FIR FI hmm S1 B1 F
  generalize (w2.alloc (.map #[] 0)).alloc (.cells #[.pointer (some ⟨w.heap.size + 1, 0, none⟩), .slice (some ⟨tb, 0, none⟩) l.length l.length, .slice (some ⟨ub, 0, none⟩) l.length l.length, .map (some w2.heap.size), .slice none 0 0] 150) = w4 at *
  generalize w2.heap.size = mb at *
  go_loopw [16] (fun t16 W => ∃ (k : Nat) (kn : Tm → Option Nat), k ≤ l.length ∧ t16 = .int .i64 (k : Int) ∧ Cz W base l (z0 l (mb + 1) (w.heap.size + 1) w.heap.size tb ub mb av uv (st ++ st2) kn k) ∧ Hid (Kn l k kn) ∧ Kept0 w W) (fun t16 _ => l.length - (intOf t16).toNat)
  case atStart => exact ⟨0, fun _ => none, by omega, rfl, C0, fun s m => by simp, K0⟩
  case round =>
    clear C0 K0
    obtain ⟨k, kn, hk, rfl, C, hkn, K⟩ := hrel
    by_cases hk2 : k < l.length
    · have dk : decide ((k : Int) < (l.length : Int)) = true := decide_eq_true (by omega)
      have ht : l[k]? = some l[k] := List.getElem?_eq_getElem hk2
      generalize hlk : l[k] = t at ht
      clear hlk
      have hsk : Sk (Cc.sg Uf.g0.lo t) := sg_sk hb (lo := Uf.g0.lo) (fun i _ => Nat.le_refl _) (by omega) ht (hok t (List.mem_of_getElem? ht))
      have c3 : wr.cell? ⟨mb + 1, 3, none⟩ = some (.map (some mb)) := C.k3
      have stay : ∀ W, Kept0 wr W → W.cell? ⟨mb + 1, 3, none⟩ = some (.map (some mb)) := fun W KW => (C.kept0 KW).k3
      have hV : sigV (Cc.sg Uf.g0.lo t) = .agg #[.string (Cc.sg Uf.g0.lo t).name, .int .i64 ((Cc.sg Uf.g0.lo t).arg 0 : Int), .int .i64 ((Cc.sg Uf.g0.lo t).arg 1 : Int), .int .i64 ((Cc.sg Uf.g0.lo t).arg 2 : Int), .int .i64 ((Cc.sg Uf.g0.lo t).arg 3 : Int)] := rfl
      have SG : ∀ W, Kept0 wr W → Calls Try.prog 121 #[.pointer (some ⟨mb + 1, 0, none⟩), .int .i64 (k : Int)] W fun e w' => e = .returned (.agg #[.string (Cc.sg Uf.g0.lo t).name, .int .i64 ((Cc.sg Uf.g0.lo t).arg 0 : Int), .int .i64 ((Cc.sg Uf.g0.lo t).arg 1 : Int), .int .i64 ((Cc.sg Uf.g0.lo t).arg 2 : Int), .int .i64 ((Cc.sg Uf.g0.lo t).arg 3 : Int)]) ∧ Kept0 W w' := fun W KW => sig_in W base l _ (C.kept0 KW) k t ht
      have STO : ∀ W, Kept0 wr W → ∃ w', (Instr.mapUpdate 147 (.map (some mb)) (.agg #[.string (Cc.sg Uf.g0.lo t).name, .int .i64 ((Cc.sg Uf.g0.lo t).arg 0 : Int), .int .i64 ((Cc.sg Uf.g0.lo t).arg 1 : Int), .int .i64 ((Cc.sg Uf.g0.lo t).arg 2 : Int), .int .i64 ((Cc.sg Uf.g0.lo t).arg 3 : Int)]) (.int .i64 (k : Int))).run Try.prog W = .ok () w' ∧ Cz w' base l (z0 l (mb + 1) (w.heap.size + 1) w.heap.size tb ub mb av uv (st ++ st2) (fun u => if u = Cc.sg Uf.g0.lo t then some k else kn u) (k + 1)) ∧ Kept1 mb W w' := fun W KW => (C.kept0 KW).store hsk (n := k) (by omega) (show k < 1000000 by omega)
      have HH : Hid (_ ∧ _ ∧ _) := ⟨ht, C, K⟩
      clear ht C K hR hS hA hst hsl hV hsk
      generalize hsE : Cc.sg Uf.g0.lo t = s at *
      have HSE : Hid (Cc.sg Uf.g0.lo t = s) := hsE
      clear hsE
      go_wp2_with fail
      go_region_held3 (fun W => W.cell? ⟨mb + 1, 3, none⟩ = some (.map (some mb))) (first | assumption | exact stay _ (by first | assumption | exact (Kept.refl _ _).drew)) (first | (go_at_call 121; refine (SG _ (by first | assumption | exact (Kept.refl _ _).drew)).mono ?_; rintro e w5 ⟨rfl, K5⟩; have KS : Kept0 wr w5 := Kept.trans (by first | assumption | exact (Kept.refl _ _).drew) K5; obtain ⟨w6, hr6, C6, K6⟩ := STO w5 KS; have s6 : w6.cell? ⟨mb + 1, 3, none⟩ = some (.map (some mb)) := C6.k3))
      all_goals
        clear SG STO stay hr6 s6
        go_wp2_with fail
        obtain ⟨ht, _, K⟩ := HH.out
        have hkn' := Kn.step hkn.out hb ht
        rw [← g0_lo, HSE.out] at hkn'
        exact ⟨⟨k + 1, _, hk2, by simp, C6, hkn', (K.trans KS).into K6 (fun i hi => .inr (by omega))⟩, by simp [intOf]; omega⟩
    · have dk : decide ((k : Int) < (l.length : Int)) = false := decide_eq_false (by omega)
      obtain rfl : k = l.length := by omega
      go_wp2_with fail
      go_ret
      refine ⟨_, rfl, ⟨C, ?_, by simp [z0], by simp [z0], by simp, Nat.le_trans hbase K.size⟩, K, by show w.heap.size ≤ mb + 1; omega, fun k hk => C.all_ge hk⟩
      have hI : Cc.Inv l [] id (fun i => Cc.usf (Cc.evs l 0) i) kn [] [] := Cc.Inv.start hb (fun r _ n => Cc.usf_uc l r n) (fun s m => by
        rw [hkn.out s m]
        exact ⟨fun x => x.2, fun x => ⟨by obtain ⟨t, ht, _⟩ := x; exact (List.getElem?_eq_some_iff.1 ht).1, x⟩⟩)
      exact hI
