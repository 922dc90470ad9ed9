/- The document's Show. -/
import Derived.Test.YtjfekcjhflcnaaaRefJ
namespace Go.Proofs.Ytjfekcjhflcnaaa
open Go.RowKit

/-- Bytes as a text. -/
def bt (l : List UInt8) : ByteArray := ⟨l.toArray⟩
theorem bt_size (l : List UInt8) : (bt l).size = l.length := by simp [bt, ByteArray.size]
theorem bt_app (a b : List UInt8) : bt a ++ bt b = bt (a ++ b) := by
  apply ByteArray.ext
  simp [bt]
theorem bt_name (n : ByteArray) : bt n.data.toList = n := by cases n; simp [bt]

def RShowAt (f : Nat) : Prop := ∀ (w : World) (base : Nat) (av : Value) (l : List Tm) (vs : List Value) (n : Nat), Ls w base av l vs → Hgt l f n → (∀ t ∈ l, t.ok) → l.length ≤ 1000 → f ≤ 13 →
  Calls Try.prog 71 #[av, .int .i64 (n : Int)] w fun e w' => e = .returned (.string (bt (shw l f n))) ∧ Kept0 w w'

set_option maxHeartbeats 4000000 in
set_option maxRecDepth 100000 in
theorem rshow_step (f : Nat) (IH : RShowAt f) : RShowAt (f + 1) := by
  intro w base av l vs n h hg hoks hl hf13
  obtain ⟨t, ht, hargs⟩ := hg
  have hnl : n < l.length := (List.getElem?_eq_some_iff.1 ht).1
  have hok := hoks t (List.mem_of_getElem? ht)
  have hshw : shw l (f + 1) n = t.name.data.toList ++ (if t.args.length = 0 then [] else 40 :: (joinTo (fun j => shw l f (t.arg j)) t.args.length ++ [41])) := by rw [shw, ht]
  obtain ⟨g, cap, v, rfl, _, g0, g1, hv⟩ := h.at ht
  obtain ⟨va, vc, rfl⟩ := row_form hv
  have K1 : Kept0 w (w.alloc (.cells #[.string t.name, .slice va t.args.length vc] 114)) := Kept.alloc (Kept.refl _ w) _
  have R1 := made_row w #[.string t.name, .slice va t.args.length vc] 114
  have hnm := hok.name
  have ha4 := hok.args
  generalize hw1 : w.alloc (.cells #[.string t.name, .slice va t.args.length vc] 114) = w1 at *
  have y0 : w1.cell? ⟨w.heap.size, 0, none⟩ = some (.string t.name) := World.rowIs.cell R1 (i := 0) (by simp)
  have y1 : w1.cell? ⟨w.heap.size, 1, none⟩ = some (.slice va t.args.length vc) := World.rowIs.cell R1 (i := 1) (by simp)
  have dlo : decide ((n : Int) < 0) = false := decide_eq_false (by omega)
  have dhi : decide (l.length ≤ n) = false := decide_eq_false (by omega)
  have dhi' : decide ((l.length : Int) ≤ (n : Int)) = false := decide_eq_false (by omega)
  by_cases hz : t.args.length = 0
  · have d0 : ((t.args.length : Int) == 0) = true := beq_iff_eq.2 (by omega)
    rw [if_pos hz, List.append_nil] at hshw
    clear hz
    go_enter Try.func71, Try.ntmps71
    go_wp2_with fail
    go_ret
    exact ⟨by rw [hshw, bt_name]; rfl, K1⟩
  · have d0 : ((t.args.length : Int) == 0) = false := beq_eq_false_iff_ne.2 (by omega)
    rw [if_neg hz] at hshw
    have hs1 : ¬ (9223372036854775807 < t.name.size + (ByteArray.mk #[40]).size) := by have : (ByteArray.mk #[40]).size = 1 := rfl; omega
    have e1 : t.name ++ ByteArray.mk #[40] = bt (t.name.data.toList ++ 40 :: joinTo (fun j => shw l f (t.arg j)) 0) := by
      rw [show ByteArray.mk #[40] = bt [40] from rfl, ← bt_name t.name, bt_app, bt_name]
      rfl
    go_enter Try.func71, Try.ntmps71
    go_wp2_with fail
    clear hw1 hs1 e1 g0 g1
    generalize w.heap.size = x at R1 y0 y1 ⊢
    have hM : 12 * 5 ^ f ≤ 2929687500 := by
      have : 5 ^ f ≤ 5 ^ 12 := Nat.pow_le_pow_right (by omega) (by omega)
      have e : (5 : Nat) ^ 12 = 244140625 := rfl
      omega
    have hJ : ∀ k, k ≤ 4 → (joinTo (fun j => shw l f (t.arg j)) k).length ≤ 12000000000 := fun k hk => by
      have h1 := joinTo_len (f := fun j => shw l f (t.arg j)) (M := 12 * 5 ^ f) (k := k) (fun j _ => shw_len hoks f (t.arg j))
      have h2 : k * (12 * 5 ^ f + 1) ≤ 4 * (12 * 5 ^ f + 1) := Nat.mul_le_mul_right _ hk
      omega
    have hnl6 : t.name.data.toList.length ≤ 6 := by simpa using hnm
    have HM : Hid (12 * 5 ^ f ≤ 2929687500) := hM
    have HJ : Hid (∀ k, k ≤ 4 → (joinTo (fun j => shw l f (t.arg j)) k).length ≤ 12000000000) := hJ
    clear hM hJ
    go_loopw [6, 7] (fun t6 t7 W => ∃ k : Nat, k ≤ t.args.length ∧ t7 = .int .i64 (k : Int) ∧ t6 = .string (bt (t.name.data.toList ++ 40 :: joinTo (fun j => shw l f (t.arg j)) k)) ∧ Hid (Kept0 w1 W)) (fun _ t7 _ => t.args.length - (intOf t7).toNat)
    case atStart => exact ⟨0, by omega, rfl, rfl, Kept.refl _ w1⟩
    case round =>
      obtain ⟨k, hk, rfl, rfl, KK⟩ := hrel
      clear y0 y1
      have RW := World.rowIs.of_block R1 (KK.out.block x (World.rowIs.lt R1) (fun e => e))
      have y1 : wr.cell? ⟨x, 1, none⟩ = some (.slice va t.args.length vc) := World.rowIs.cell RW (i := 1) (by simp)
      have KA : Kept0 w wr := Kept.trans K1 KK.out
      have LW := h.kept0 KA
      have hX : Hid ((t.name.data.toList ++ 40 :: joinTo (fun j => shw l f (t.arg j)) k).length ≤ 12000000007) := by
        show _ ≤ _
        have := HJ.out k (by omega)
        simp only [List.length_append, List.length_cons]
        omega
      by_cases hk2 : k < t.args.length
      · have dk : decide ((k : Int) < (t.args.length : Int)) = true := decide_eq_true (by omega)
        obtain ⟨g', cap', hg1, hg2⟩ := arg_cell (LW.args n t _ ht ‹vs[n]? = some _›) hk2
        injection hg1 with e1 _ e3
        subst e1 e3
        have harg : t.arg k = t.args[k] := by
          unfold Tm.arg
          rw [List.getD_eq_getElem?_getD, List.getElem?_eq_getElem hk2]
          rfl
        rw [← harg] at hg2
        have hH := hargs _ (arg_mem hk2)
        have SH := fun (W : World) (L : Ls W base (.slice (some ⟨g, 0, none⟩) l.length cap) l vs) => IH W base _ l vs (t.arg k) L hH hoks hl (by omega)
        have hSl : Hid ((shw l f (t.arg k)).length ≤ 2929687500) := Nat.le_trans (shw_len hoks f (t.arg k)) HM.out
        have hnext : t.name.data.toList ++ 40 :: joinTo (fun j => shw l f (t.arg j)) (k + 1) = (t.name.data.toList ++ 40 :: joinTo (fun j => shw l f (t.arg j)) k) ++ ((if k = 0 then [] else [44]) ++ shw l f (t.arg k)) := by rw [joinTo]; simp
        generalize t.name.data.toList ++ 40 :: joinTo (fun j => shw l f (t.arg j)) k = X at *
        generalize hY : t.name.data.toList ++ 40 :: joinTo (fun j => shw l f (t.arg j)) (k + 1) = Y at *
        generalize hZ : shw l f (t.arg k) = Z at *
        have SHW := SH wr LW
        clear SH
        have HY : Hid (t.name.data.toList ++ 40 :: joinTo (fun j => shw l f (t.arg j)) (k + 1) = Y) := hY
        clear hY hZ hH hargs hshw harg
        by_cases h0 : k = 0
        · subst h0
          have e9 : bt X ++ bt Z = bt Y := by rw [bt_app, hnext]; simp
          have s9 : ¬ (9223372036854775807 < (bt X).size + (bt Z).size) := by rw [bt_size, bt_size]; have := hX.out; have := hSl.out; omega
          clear hnext
          go_wp2_with (first | (go_at_call 71; refine SHW.mono ?_; rintro e w4 ⟨rfl, K4⟩))
          go_roundw
          case rel => exact ⟨1, by omega, by simp, by rw [HY.out], Kept.trans KK.out K4⟩
          case measure => simp [intOf]; omega
        · have dz : decide ((0 : Int) < (k : Int)) = true := decide_eq_true (by omega)
          have e8 : bt X ++ ByteArray.mk #[44] = bt (X ++ [44]) := bt_app X [44]
          have s8 : ¬ (9223372036854775807 < (bt X).size + 1) := by rw [bt_size]; have := hX.out; omega
          have e9 : bt (X ++ [44]) ++ bt Z = bt Y := by rw [bt_app, hnext]; simp [h0]
          have s9 : ¬ (9223372036854775807 < (bt (X ++ [44])).size + (bt Z).size) := by rw [bt_size, bt_size, List.length_append]; have := hX.out; have := hSl.out; simp; omega
          clear hnext
          go_wp2_with (first | (go_at_call 71; refine SHW.mono ?_; rintro e w4 ⟨rfl, K4⟩))
          go_roundw
          case rel => exact ⟨k + 1, by omega, by go_num, by rw [HY.out], Kept.trans KK.out K4⟩
          case measure => simp [intOf]; omega
      · have dk : decide ((k : Int) < (t.args.length : Int)) = false := decide_eq_false (by omega)
        have hke : k = t.args.length := by omega
        have e9 : bt (t.name.data.toList ++ 40 :: joinTo (fun j => shw l f (t.arg j)) k) ++ ByteArray.mk #[41] = bt (shw l (f + 1) n) := by
          rw [hshw, show ByteArray.mk #[41] = bt [41] from rfl, bt_app, hke]
          simp
        have s9 : ¬ (9223372036854775807 < (bt (t.name.data.toList ++ 40 :: joinTo (fun j => shw l f (t.arg j)) k)).size + 1) := by rw [bt_size]; have := hX.out; omega
        clear hke hshw
        go_wp2_with fail
        go_ret
        exact ⟨rfl, KA⟩

theorem rshow_all : ∀ f, RShowAt f
  | 0 => fun _ _ _ _ _ _ _ hg => hg.elim
  | f + 1 => rshow_step f (rshow_all f)
