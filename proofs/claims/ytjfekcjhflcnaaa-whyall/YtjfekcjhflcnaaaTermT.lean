/- Package term: Term. -/
import Derived.Test.YtjfekcjhflcnaaaTermS
import Derived.Test.YtjfekcjhflcnaaaFiG
namespace Go.Proofs.Ytjfekcjhflcnaaa
open Go.RowKit Go.Maps

def argC (l : List Nat) : List Value := l.map fun x : Nat => Value.int .i64 (x : Int)
theorem argC_len (l : List Nat) : (argC l).length = l.length := by simp [argC]
theorem argC_one (l : List Nat) : ∀ u ∈ argC l, u.oneCell' = true := by
  intro u hu
  simp [argC] at hu
  obtain ⟨a, _, rfl⟩ := hu
  rfl
theorem infoI : (Try.prog.info? 3).map (fun i => (i.zero, i.size, i.bytes)) = some (some (.int .i64 0), 1, 8) := by kernel_rfl

theorem argC_cells {w : World} {x : Nat} {t : Tm} (h : Boxed w x t) (h4 : t.args.length ≤ 4) : ∀ j u, (argC t.args)[j]? = some u → w.cell? ((⟨x, 2, none⟩ : Addr).add j) = some u := by
  intro j u hj
  have hlt : j < t.args.length := by
    have := (List.getElem?_eq_some_iff.1 hj).1
    rwa [argC_len] at this
  have := h.arg (k := j) (by omega)
  have e : u = .int .i64 (t.arg j : Int) := by
    simp [argC, List.getElem?_eq_getElem hlt] at hj
    rw [← hj]
    unfold Tm.arg
    rw [List.getD_eq_getElem?_getD, List.getElem?_eq_getElem hlt]
    rfl
  rw [e]
  simp only [Addr.add]
  by_cases hj0 : j = 0
  · subst hj0; simpa using this
  · simpa [hj0] using this

theorem row_form {w : World} {base : Nat} {e : TypeId} {size : Nat} {v : Value} {n : Nat} {xs : List Value} (h : w.ownsRow base e size v n xs) : ∃ a c, v = .slice a n c := by
  rcases h.2 with ⟨rfl, h0⟩ | ⟨b, cap, cur, rfl, _⟩
  · rw [h0]; exact ⟨none, 0, rfl⟩
  · exact ⟨_, cap, rfl⟩

/-- What Term answers for a term of the bank. -/
def TermAns (w : World) (t : Tm) (e : Ending) (w' : World) : Prop := ∃ v, e = .returned (.tuple #[.agg #[.string t.name, v], .bool true]) ∧ w'.ownsRow w.heap.size 3 1 v t.args.length (argC t.args) ∧ Below w.heap.size w w'

set_option maxHeartbeats 1000000 in
set_option maxRecDepth 100000 in
theorem term_out (w : World) (base p : Nat) (ev : Value) (nb fb : Nat) (l : List Tm) (h : Bk w base p ev nb fb l) (n : Int) (hi : inB l.length n = false) :
    Calls Try.prog 23 #[.pointer (some ⟨p, 0, none⟩), .int .i64 n] w fun e w' => e = .returned (.tuple #[.agg #[.string ⟨#[]⟩, .slice none 0 0], .bool false]) ∧ Below w.heap.size w w' := by
  have K1 : Below w.heap.size w (w.alloc (.cells #[.string ⟨#[]⟩, .slice none 0 0] 42)) := (Below.refl _ w).alloc (Nat.le_refl _) _
  have HAS := thas_in _ base p ev nb fb l (h.below h.low K1) n
  rw [hi] at HAS
  go_enter Try.func23, Try.ntmps23
  go_wp2_with (go_at_call 72; refine HAS.mono ?_; rintro e w2 ⟨rfl, rfl⟩)
  have R1 := made_row w #[.string ⟨#[]⟩, .slice none 0 0] 42
  generalize w.alloc (.cells #[.string ⟨#[]⟩, .slice none 0 0] 42) = w1 at *
  have z0 : w1.cell? ⟨w.heap.size, 0, none⟩ = some (.string ⟨#[]⟩) := World.rowIs.cell R1 (i := 0) (by simp)
  have z1 : w1.cell? ⟨w.heap.size, 1, none⟩ = some (.slice none 0 0) := World.rowIs.cell R1 (i := 1) (by simp)
  refine ⟨rfl, .tuple #[.agg #[.string ⟨#[]⟩, .slice none 0 0], .bool false], by simp [results, Try.results23, go_sem, z0, z1], rfl, K1⟩

set_option maxHeartbeats 1000000 in
set_option maxRecDepth 100000 in
theorem term_some (w : World) (base p : Nat) (ev : Value) (nb fb : Nat) (l : List Tm) (h : Bk w base p ev nb fb l) (n : Nat) (t : Tm) (ht : l[n]? = some t) :
    Calls Try.prog 23 #[.pointer (some ⟨p, 0, none⟩), .int .i64 (n : Int)] w (TermAns w t) := by
  have hnl : n < l.length := (List.getElem?_eq_some_iff.1 ht).1
  have hsm := h.small
  have hok := h.oks t (List.mem_of_getElem? ht)
  have K1 : Below w.heap.size w (w.alloc (.cells #[.string ⟨#[]⟩, .slice none 0 0] 42)) := (Below.refl _ w).alloc (Nat.le_refl _) _
  have H1 := h.below h.low K1
  have HAS := thas_in _ base p ev nb fb l H1 n
  rw [inB_nat hnl] at HAS
  have R1 := made_row w #[.string ⟨#[]⟩, .slice none 0 0] 42
  have hs1 : (w.alloc (.cells #[.string ⟨#[]⟩, .slice none 0 0] 42)).heap.size = w.heap.size + 1 := by simp
  generalize hw1 : w.alloc (.cells #[.string ⟨#[]⟩, .slice none 0 0] 42) = w1 at *
  have c0 := H1.c0
  obtain ⟨g, cap, rfl, hgc⟩ := H1.at ht
  have g0 : w1.cell? ⟨g, n * 6, none⟩ = some (.string t.name) := hgc 0 _ rfl
  have g1 := hgc 1 _ rfl
  have g2 := hgc 2 _ rfl
  have g3 := hgc 3 _ rfl
  have g4 := hgc 4 _ rfl
  have g5 := hgc 5 _ rfl
  clear hgc
  have ha4 := hok.args
  go_enter Try.func23, Try.ntmps23
  go_wp2_with (go_at_call 72; refine HAS.mono ?_; rintro e w2 ⟨rfl, rfl⟩)
  clear HAS c0 g0 g1 g2 g3 g4 g5 hw1
  have bR := boxed_row w1 t
  have hEL : (entryL t).toArray = #[.string t.name, .int .i64 (t.args.length : Int), .int .i64 (t.arg 0 : Int), .int .i64 (t.arg 1 : Int), .int .i64 (t.arg 2 : Int), .int .i64 (t.arg 3 : Int)] := rfl
  have K2 : Kept0 w1 (w1.alloc (.cells (entryL t).toArray 124)) := Kept.alloc (Kept.refl _ w1) _
  rw [hEL] at bR K2
  generalize w1.alloc (Obj.cells #[.string t.name, .int .i64 (t.args.length : Int), .int .i64 (t.arg 0 : Int), .int .i64 (t.arg 1 : Int), .int .i64 (t.arg 2 : Int), .int .i64 (t.arg 3 : Int)] 124) = w2 at *
  have R2 := World.rowIs.of_block R1 (K2.block w.heap.size (World.rowIs.lt R1) (fun e => e))
  rw [hs1] at bR
  have hs2 := K2.size
  rw [hs1] at hs2
  have y0 := bR.c0
  have y1 := bR.c1
  have SL := slice4 (w.heap.size + 1) t.args.length ha4
  have NEWS : ∀ j u, (argC t.args)[j]? = some u → w2.drew.cell? ((⟨w.heap.size + 1, 2, none⟩ : Addr).add j) = some u := argC_cells (World.rowIs.of_block bR rfl : Boxed w2.drew (w.heap.size + 1) t) ha4
  obtain ⟨i0, hi0, hz0, hz1, hz2⟩ := info_parts infoI
  go_region_law (refine step_append_here rfl (.const (.slice none 0 0)) (.tmp 24) 40 rfl w.heap.size 3 i0 _ 1 8 Try.underlying40 hi0 hz0 hz1 hz2 rfl (by decide) (.slice none 0 0) 0 [] (by simp [Act.eval]) (by exact World.ownsRow_nil _ _ _ _) ⟨w.heap.size + 1, 2, none⟩ t.args.length 4 (argC t.args) (by simp [Act.eval, Act.put]) (by simp [argC_len]) (by exact NEWS) (argC_one _) (by unfold maxLen; omega) (by omega) (by exact (by omega : w.heap.size ≤ w2.heap.size)) ?_; intro v' w4 hown hgrow hloc; obtain ⟨va, vc, rfl⟩ := row_form hown; have R4 := World.rowIs.of_block (World.rowIs.of_block R2 rfl : w2.drew.rowIs w.heap.size 42 _ _) (hgrow.block w.heap.size (World.rowIs.lt R2) (by simp [Value.ownBlock])); have b4 : Boxed w4 (w.heap.size + 1) t := World.rowIs.of_block (World.rowIs.of_block bR rfl : Boxed w2.drew (w.heap.size + 1) t) (hgrow.block (w.heap.size + 1) (World.rowIs.lt bR) (by simp [Value.ownBlock])); have y04 := b4.c0; have q0 := World.rowIs.cell R4 (i := 0) (by simp); have q1 := World.rowIs.cell R4 (i := 1) (by simp); have p0 := World.rowIs.frozen R4 0; have p1 := World.rowIs.frozen R4 1)
  all_goals
    have KB : Below w.heap.size w w4 := (K1.trans (Kept.below K2 (by omega) (fun _ e => e.elim))).drew.grown hgrow (by exact (by omega : w.heap.size ≤ w2.heap.size)) (by simp [Value.ownBlock])
    have hvb : (Value.slice va (0 + t.args.length) vc).ownBlock ≠ some w.heap.size := by
      rcases hloc with e | e
      · rw [e]; simp [Value.ownBlock]
      · intro e2
        have h1 : w2.heap.size ≤ w.heap.size := e _ e2
        omega
    clear NEWS y0 y1 SL y04 hloc hgrow
    go_wp2_with fail
    rw [Nat.zero_add] at hown hvb
    have R5 := World.rowIs.set (World.rowIs.set R4 0 (.string t.name)) 1 (.slice va t.args.length vc)
    have O5 := ownsRow_setCell_other (a := ⟨w.heap.size, 1, none⟩) (ownsRow_setCell_other (a := ⟨w.heap.size, 0, none⟩) hown hvb (.string t.name)) hvb (.slice va t.args.length vc)
    have KC := (KB.setCell (p := ⟨w.heap.size, 0, none⟩) (Nat.le_refl _) (.string t.name)).setCell (p := ⟨w.heap.size, 1, none⟩) (Nat.le_refl _) (.slice va t.args.length vc)
    generalize (w4.setCell ⟨w.heap.size, 0, none⟩ (.string t.name)).setCell ⟨w.heap.size, 1, none⟩ (.slice va t.args.length vc) = w5 at *
    have z0 : w5.cell? ⟨w.heap.size, 0, none⟩ = some (.string t.name) := World.rowIs.cell R5 (i := 0) (by simp)
    have z1 : w5.cell? ⟨w.heap.size, 1, none⟩ = some (.slice va t.args.length vc) := World.rowIs.cell R5 (i := 1) (by simp)
    refine ⟨rfl, .tuple #[.agg #[.string t.name, .slice va t.args.length vc], .bool true], by simp [results, Try.results23, go_sem, z0, z1], _, rfl, ?_, KC⟩
    simpa using O5
