/- law01.alive; what reading keeps. -/
import Derived.Test.YtjfekcjhflcnaaaRefM
namespace Go.Proofs.Ytjfekcjhflcnaaa
open Go.RowKit

/-- What a bank keeps to. -/
structure Kp (l : List Tm) : Prop where
  hs : Hs l
  good : Good l
  len : l.length ≤ 150

theorem Kp.nil : Kp [] := ⟨Hs_nil, Good_nil, by simp⟩
theorem Kp.read {l : List Tm} (h : Kp l) (s : ByteArray) : Kp (pRead s l).2.2.2 := by
  unfold pRead
  split
  · exact h
  · unfold pWhole
    have hb := bl_le (s := s) (i := 0) (by omega)
    split
    · exact h
    · next n k l' hx =>
      split
      · exact h
      · split
        · exact h
        · exact ⟨((p_hs s _).1 0 (bl s 0) l n k l' hb h.hs hx).1, (p_good s _).1 0 (bl s 0) l n k l' hb h.good hx, by show l'.length ≤ 150; omega⟩

set_option maxHeartbeats 400000 in
theorem num1_any (w : World) (a : Int) : Calls Try.prog 18 #[.int .i64 a] w fun e w' => e = .returned (.int .i64 a) ∧ w = w' := by
  go_enter Try.func18, Try.ntmps18
  go_wp2
  go_ret
  exact ⟨rfl, rfl⟩

set_option maxHeartbeats 2000000 in
set_option maxRecDepth 100000 in
theorem alive1_any (w : World) : Calls Try.prog 20 #[] w fun e w' => e = .returned (.bool true) ∧ Below w.heap.size w w' := by
  have NEW := tNew_any w
  have hKt : Kp [tA, tG, tF] := by have := Kp.nil.read txt; rw [tx_read] at this; exact this
  have TSX : ∀ (w2 : World) (p : Nat) (ev2 : Value) (nb fb : Nat), Bk w2 w.heap.size p ev2 nb fb [tA, tG, tF] → Calls Try.prog 23 #[.pointer (some ⟨p, 0, none⟩), .int .i64 2] w2 fun e w3 => ∃ g vc, e = .returned (.tuple #[.agg #[.string ⟨#[102]⟩, .slice (some ⟨g, 0, none⟩) 2 vc], .bool true]) ∧ w3.cell? ⟨g, 1, none⟩ = some (.int .i64 1) ∧ Below w2.heap.size w2 w3 := by
    intro w2 p ev2 nb fb H2
    refine (term_some w2 w.heap.size p ev2 nb fb _ H2 2 tF rfl).mono ?_
    rintro e w3 ⟨v, he, O3, B3⟩
    obtain ⟨g, cap, hv, hc⟩ := arg_cell (xs := tF.args) O3 (j := 1) (by decide)
    exact ⟨g, cap, by rw [he, hv]; rfl, hc, B3⟩
  have hsh : shwB [tA, tG, tF] 2 = ⟨#[102, 40, 97, 44, 103, 40, 97, 41, 41]⟩ := by
    have := shwB_in (l := [tA, tG, tF]) (n := 2) (by decide)
    rw [tx_shw] at this
    exact this
  go_enter Try.func20, Try.ntmps20
  go_wp2_with (first | (go_at_call 15; refine NEW.mono ?_; rintro e w1 ⟨p, nb, fb, rfl, H1, B1⟩; have RD := tRead_in w1 w.heap.size p _ nb fb [] H1 (by simp) B1.size txt; rw [tx_read] at RD; unfold txt at RD) | (go_at_call 16; refine RD.mono ?_; rintro e w2 ⟨rfl, ev2, H2, K2, _⟩; have TS := TSX w2 p ev2 nb fb H2) | (go_at_call 23; refine TS.mono ?_; rintro e w3 ⟨g, vc, rfl, c3, B3⟩; have H3 := H2.below H2.low B3; have y4 := ans_box w3 (.string ⟨#[102]⟩) (.slice (some ⟨g, 0, none⟩) 2 vc); have K4 : Kept0 w3 (w3.alloc (.cells #[.string ⟨#[102]⟩, .slice (some ⟨g, 0, none⟩) 2 vc] 42)) := Kept.alloc (Kept.refl _ w3) _; have SZ := size_in _ w.heap.size p ev2 nb fb _ (H3.kept0 K4); have SH := show_in _ w.heap.size p ev2 nb fb _ (H3.kept0 K4) hKt.hs 2; rw [hsh] at SH; have c4 := (World.cell?_of_block (K4.block g (World.block_lt_of_cell? w3 _ c3) (fun e => e))).trans c3) | (go_at_call 18; refine (num1_any _ _).mono ?_; rintro e w9 ⟨rfl, rfl⟩) | (go_at_call 21; refine SZ.mono ?_; rintro e w9 ⟨rfl, rfl⟩) | (go_at_call 22; refine SH.mono ?_; rintro e w5 ⟨rfl, B5⟩; have d0 := (B5.cell (World.block_lt_of_cell? _ _ y4.1)).trans y4.1; have d1 := (B5.cell (World.block_lt_of_cell? _ _ y4.2)).trans y4.2; have d2 := (B5.cell (World.block_lt_of_cell? _ _ c4)).trans c4))
  go_ret
  have b2 : Below w.heap.size w1 w2 := Kept.below K2 B1.size (fun k e => by
    rcases e with e | e | e | e
    · rw [e]; exact H1.bp
    · rw [e]; exact H1.bn
    · rw [e]; exact H1.bf
    · simp [Value.ownBlock] at e)
  have s1 := B1.size
  have s2 := b2.size
  have s3 := B3.size
  have s4 := K4.size
  exact ⟨rfl, (((B1.trans b2).trans (B3.mono (by omega))).trans (Kept.below K4 (by omega) (fun _ e => e.elim))).trans (B5.mono (by omega))⟩
