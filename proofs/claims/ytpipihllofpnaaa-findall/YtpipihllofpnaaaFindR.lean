/- The document's own Sets (equateref02): what it is in memory; has, Now, Count, Least, Same, Undo. -/
import Derived.Test.YtpipihllofpnaaaLawB
import Derived.Test.YtpipihllofpnaaaUr
namespace Go.Proofs.Ytpipihllofpnaaa
open Go.RowKit

def rsetsC (n : Nat) (lv : Value) (j : Nat) : Value := if j = 0 then .int .i64 (n : Int) else lv
def intsC (l : List Nat) : List Value := l.map fun x : Nat => Value.int .i64 (x : Int)

/-- The document's Sets at block rp: n numbers, its log. -/
structure Ref (w : World) (base rp n : Nat) (lv : Value) (log : List (List Nat)) : Prop where
  sets : w.rowIs rp 133 2 (rsetsC n lv)
  low : base ≤ rp
  rows : ∃ vals : List Value, vals.length = log.length ∧ w.ownsRow base 40 1 lv log.length vals ∧ ∀ (k : Nat) (l : List Nat), log[k]? = some l → ∃ v, vals[k]? = some v ∧ w.ownsRow base 3 1 v l.length (intsC l)
  small : n ≤ 60

theorem Ref.form {w : World} {base rp n : Nat} {lv : Value} {log : List (List Nat)} (h : Ref w base rp n lv log) : ∃ a cap, lv = .slice a log.length cap := by
  obtain ⟨vals, _, h2, _⟩ := h.rows
  rcases h2.2 with ⟨rfl, h0⟩ | ⟨b, cap, cur, rfl, _⟩
  · rw [h0]; exact ⟨none, 0, rfl⟩
  · exact ⟨_, cap, rfl⟩
theorem Ref.c0 {w : World} {base rp n : Nat} {lv : Value} {log : List (List Nat)} (h : Ref w base rp n lv log) : w.cell? ⟨rp, 0, none⟩ = some (.int .i64 (n : Int)) := h.sets.cell (by omega)
theorem Ref.c1 {w : World} {base rp n : Nat} {lv : Value} {log : List (List Nat)} (h : Ref w base rp n lv log) : w.cell? ⟨rp, 1, none⟩ = some lv := h.sets.cell (i := 1) (by omega)
theorem Ref.drewN {w : World} {base rp n : Nat} {lv : Value} {log : List (List Nat)} (h : Ref w base rp n lv log) {m : Nat} : Ref (w.drewN m) base rp n lv log := ⟨h.sets, h.low, h.rows, h.small⟩

/-- A row's own block is a row of that type. -/
theorem row_block {w : World} {base e size n k : Nat} {v : Value} {xs : List Value} (h : w.ownsRow base e size v n xs) (hk : v.ownBlock = some k) : ∃ cur, w.heap[k]? = some (.cells cur e (0, 0)) := by
  rcases h.2 with ⟨rfl, _⟩ | ⟨g, cap, cur, rfl, _, hg, _⟩
  · simp [Value.ownBlock] at hk
  · simp [Value.ownBlock] at hk
    subst hk
    exact ⟨cur, hg⟩

theorem owns_kept {w w' : World} {base e size n : Nat} {v : Value} {xs : List Value} (h : w.ownsRow base e size v n xs) {S : Nat → Prop} (hK : Kept S w w') (hS : ∀ k, v.ownBlock = some k → ¬ S k) : w'.ownsRow base e size v n xs := by
  refine ⟨h.1, ?_⟩
  rcases h.2 with hn | ⟨g, cap, cur, e1, h1, h2, h3⟩
  · exact .inl hn
  · refine .inr ⟨g, cap, cur, e1, h1, ?_, h3⟩
    rw [hK.block g (Array.getElem?_eq_some_iff.1 h2).1 (hS g (by rw [e1]; rfl))]
    exact h2

/-- What turns blocks of other types alone leaves it. -/
theorem Ref.other {w w' : World} {base rp n : Nat} {lv : Value} {log : List (List Nat)} (h : Ref w base rp n lv log) {S : Nat → Prop} (hK : Kept S w w')
    (hS : ∀ k cur e, w.heap[k]? = some (.cells cur e (0, 0)) → e = 133 ∨ e = 40 ∨ e = 3 → ¬ S k) : Ref w' base rp n lv log := by
  obtain ⟨vals, h1, h2, h3⟩ := h.rows
  have hrp : ∃ cur, w.heap[rp]? = some (.cells cur 133 (0, 0)) := by obtain ⟨c, hc, _⟩ := h.sets; exact ⟨c, hc⟩
  obtain ⟨cr, hcr⟩ := hrp
  refine ⟨h.sets.of_block (hK.block rp h.sets.lt (hS rp cr _ hcr (Or.inl rfl))), h.low, ⟨vals, h1, owns_kept h2 hK ?_, ?_⟩, h.small⟩
  · intro k hk
    obtain ⟨cur, hc⟩ := row_block h2 hk
    exact hS k cur _ hc (Or.inr (Or.inl rfl))
  · intro k l hl
    obtain ⟨v, hv, ho⟩ := h3 k l hl
    refine ⟨v, hv, owns_kept ho hK ?_⟩
    intro j hj
    obtain ⟨cur, hc⟩ := row_block ho hj
    exact hS j cur _ hc (Or.inr (Or.inr rfl))

/-- A Sets' own blocks are of other types. -/
theorem foot_types {w : World} {B p nb n : Nat} {jv : Value} {g : Uf.G} {t : List Uf.Rec} (h : St w B p nb jv n g t) : ∀ k cur e, w.heap[k]? = some (.cells cur e (0, 0)) → e = 133 ∨ e = 40 ∨ e = 3 → ¬ Foot p nb jv k := by
  intro k cur e hk he hf
  have key : e = 128 ∨ e = 130 ∨ e = 135 := by
    rcases hf with rfl | rfl | hf
    · obtain ⟨c, hc, _⟩ := h.lies.sets
      rw [hc] at hk; cases hk; exact Or.inl rfl
    · obtain ⟨c, hc, _⟩ := h.lies.nodes
      rw [hc] at hk; cases hk; exact Or.inr (Or.inl rfl)
    · obtain ⟨c, hc⟩ := row_block h.lies.joins hf
      rw [hc] at hk; cases hk; exact Or.inr (Or.inr rfl)
  rcases key with rfl | rfl | rfl <;> rcases he with h | h | h <;> exact absurd h (by decide)

/-- The document's blocks that it turns: the Sets itself, the log's row. -/
abbrev RFoot (rp : Nat) (lv : Value) (k : Nat) : Prop := k = rp ∨ lv.ownBlock = some k
theorem rfoot_types {w : World} {B rp n : Nat} {lv : Value} {log : List (List Nat)} (h : Ref w B rp n lv log) {k : Nat} {cur : Array Value} {e : TypeId} (hk : w.heap[k]? = some (.cells cur e (0, 0))) (hf : RFoot rp lv k) : e = 133 ∨ e = 40 := by
  rcases hf with rfl | hf
  · obtain ⟨c, hc, _⟩ := h.sets
    rw [hc] at hk; cases hk; exact Or.inl rfl
  · obtain ⟨vals, _, h2, _⟩ := h.rows
    obtain ⟨c, hc⟩ := row_block h2 hf
    rw [hc] at hk; cases hk; exact Or.inr rfl

set_option maxHeartbeats 400000 in
theorem rhas_in (w : World) (base rp n : Nat) (lv : Value) (log : List (List Nat)) (h : Ref w base rp n lv log) (a : Int) :
    Calls Try.prog 78 #[.pointer (some ⟨rp, 0, none⟩), .int .i64 a] w fun e w' => e = .returned (.bool (inB n a)) ∧ w = w' := by
  have c0 := h.c0
  have hn := h.small
  clear h
  go_enter Try.func78, Try.ntmps78
  go_wp2
  · go_ret
    exact ⟨ret_bool (inB_ge ‹_›), rfl⟩
  · go_ret
    exact ⟨ret_bool (inB_lt ‹_›), rfl⟩

set_option maxHeartbeats 400000 in
theorem rNow_in (w : World) (base rp n : Nat) (lv : Value) (log : List (List Nat)) (h : Ref w base rp n lv log) (t : Nat) (ht : log.length = t + 1) (hts : t ≤ 60) (l : List Nat) (hl : log[t]? = some l) :
    Calls Try.prog 80 #[.pointer (some ⟨rp, 0, none⟩)] w fun e w' => ∃ v m, e = .returned v ∧ w' = w.drewN m ∧ w.ownsRow base 3 1 v l.length (intsC l) := by
  obtain ⟨vals, h1, h2, h3⟩ := h.rows
  obtain ⟨v, hv, ho⟩ := h3 t l hl
  have c1 := h.c1
  obtain ⟨av, lv2, cv, hvf⟩ : ∃ a l c, v = .slice a l c := by
    rcases ho.2 with ⟨rfl, _⟩ | ⟨b, cap, cur, rfl, _⟩
    · exact ⟨none, 0, 0, rfl⟩
    · exact ⟨_, _, _, rfl⟩
  subst hvf
  obtain ⟨b, cap, rfl⟩ : ∃ b cap, lv = .slice (some ⟨b, 0, none⟩) (t + 1) cap := by
    rw [ht] at h2
    exact ownsRow_succ h2
  have hcell : w.cell? ⟨b, t, none⟩ = some (.slice av lv2 cv) := by
    rw [ht] at h2
    rw [h2.cellAt t (by omega), hv]
  have HO : Hid (w.ownsRow base 3 1 (.slice av lv2 cv) l.length (intsC l)) := ho
  clear h1 h2 h3 hv ho hl h ht
  go_enter Try.func80, Try.ntmps80
  go_wp2_with fail
  go_quiet (fail)
  go_wp2
  go_ret
  exact ⟨_, _, rfl, rfl, HO.out⟩

set_option maxHeartbeats 400000 in
theorem rCount_in (w : World) (base rp n : Nat) (lv : Value) (log : List (List Nat)) (h : Ref w base rp n lv log) (t : Nat) (ht : log.length = t + 1) (hts : t ≤ 60) :
    Calls Try.prog 83 #[.pointer (some ⟨rp, 0, none⟩)] w fun e w' => e = .returned (.int .i64 ((n : Int) - t)) ∧ ∃ m, w' = w.drewN m := by
  have c0 := h.c0
  have c1 := h.c1
  have hn := h.small
  obtain ⟨a, cap, rfl⟩ := h.form
  rw [ht] at c1
  clear h ht
  go_enter Try.func83, Try.ntmps83
  go_wp2_with fail
  go_quiet (fail)
  go_wp2
  go_ret
  exact ⟨rfl, _, rfl⟩

end Go.Proofs.Ytpipihllofpnaaa
