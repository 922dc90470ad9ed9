/- Package find: the contracts, over one state. -/
import Derived.Test.YtinphcnknionmaaSFindF
namespace Go.Proofs.Ytinphcnknionmaa
open Go.RowKit Go.Shelf

set_option maxRecDepth 100000 in
set_option maxHeartbeats 1000000 in
theorem Undo_no (w : World) (base p nb n : Nat) (g : Uf.G) (jv : Value) (js : List (Nat × Nat)) (h : Lies w base p nb n g jv js) (m : Int) (hm : m < 0 ∨ (js.length : Int) < m) :
    Calls Try.prog 31 #[.pointer (some ⟨p, 0, none⟩), .int .i64 m] w fun e w' => e = .returned (.bool false) ∧
      Lies w' base p nb n g jv js ∧ Kept (Foot p nb jv) w w' := by
  have hA := h.alloc (.cells #[.pointer (some ⟨p, 0, none⟩)] 47)
  have hK : Kept (Foot p nb jv) w (w.alloc (.cells #[.pointer (some ⟨p, 0, none⟩)] 47)) := (Kept.refl _ w).alloc _
  have MA := Mark_in _ _ _ _ _ _ _ _ hA
  have HA : Hid (_ ∧ _) := ⟨hA, hK⟩
  clear hA hK h
  by_cases h0 : m < 0
  · clear MA
    go_enter Try.func31, Try.ntmps31
    go_wp2
    go_ret
    exact ⟨rfl, HA.out.1, HA.out.2⟩
  · have h1 : (js.length : Int) < m := by omega
    go_enter Try.func31, Try.ntmps31
    go_wp2_with fail
    refine MA.mono ?_
    rintro e w' ⟨rfl, rfl⟩
    go_wp2
    go_ret
    exact ⟨rfl, HA.out.1, HA.out.2⟩

/-- A Sets with its joins. -/
structure St (w : World) (base p nb : Nat) (jv : Value) (n : Nat) (g : Uf.G) (t : List Uf.Rec) : Prop where
  lies : Lies w base p nb n g jv (Uf.recs t)
  hist : Uf.Hist n g t
  low : base ≤ w.heap.size

theorem St.ok {w : World} {base p nb n : Nat} {jv : Value} {g : Uf.G} {t : List Uf.Rec} (h : St w base p nb jv n g t) : Uf.Ok n g t.length := Uf.ok_hist n t g h.hist

/-- What Join does. -/
def joins (n : Nat) (g : Uf.G) (a b : Int) : Bool := inB n a && inB n b && !(decide (g.rt a.toNat = g.rt b.toNat))
def joinG (n : Nat) (g : Uf.G) (a b : Int) : Uf.G := if joins n g a b then Uf.hang g (Uf.pick g a.toNat b.toNat).1 (Uf.pick g a.toNat b.toNat).2 else g
def joinT (n : Nat) (g : Uf.G) (t : List Uf.Rec) (a b : Int) : List Uf.Rec := if joins n g a b then ⟨(Uf.pick g a.toNat b.toNat).1, (g.N (Uf.pick g a.toNat b.toNat).2).lst, g⟩ :: t else t

theorem Join_st (w : World) (base p nb : Nat) (jv : Value) (n : Nat) (g : Uf.G) (t : List Uf.Rec) (h : St w base p nb jv n g t) (a b : Int) :
    Calls Try.prog 29 #[.pointer (some ⟨p, 0, none⟩), .int .i64 a, .int .i64 b] w fun e w' => e = .returned (.bool (joins n g a b)) ∧ ∃ jv', St w' base p nb jv' n (joinG n g a b) (joinT n g t a b) ∧
      Kept (Foot p nb jv) w w' ∧ (jv'.ownBlock = jv.ownBlock ∨ ∀ k, jv'.ownBlock = some k → w.heap.size ≤ k) := by
  have hok := h.ok
  cases hj : joins n g a b
  · have hno : inB n a = false ∨ inB n b = false ∨ sameB n g a b = true := by
      cases ha : inB n a
      · exact Or.inl rfl
      · cases hb : inB n b
        · exact Or.inr (Or.inl rfl)
        · refine Or.inr (Or.inr ?_)
          simpa [joins, sameB, ha, hb] using hj
    refine (Join_no w base p nb n g jv _ h.lies _ hok a b hno).mono ?_
    rintro e w' ⟨he, rfl⟩
    refine ⟨he, jv, ?_, Kept.refl _ _, Or.inl rfl⟩
    rw [joinG, joinT, hj]
    exact h
  · have h3 : inB n a = true ∧ inB n b = true ∧ g.rt a.toNat ≠ g.rt b.toNat := by
      simp only [joins, Bool.and_eq_true, Bool.not_eq_true', decide_eq_false_iff_not] at hj
      exact ⟨hj.1.1, hj.1.2, hj.2⟩
    obtain ⟨ha, hb, hne⟩ := h3
    obtain ⟨a1, a2⟩ := inB_true ha
    obtain ⟨b1, b2⟩ := inB_true hb
    obtain ⟨i, rfl⟩ := Int.eq_ofNat_of_zero_le a1
    obtain ⟨j, rfl⟩ := Int.eq_ofNat_of_zero_le b1
    have hi : i < n := by omega
    have hjn : j < n := by omega
    rw [Int.toNat_natCast, Int.toNat_natCast] at hne
    have hok' : Uf.Ok n g (Uf.recs t).length := by rw [Uf.recs_length]; exact hok
    refine (Join_yes w base p nb n g jv (Uf.recs t) h.lies hok' i j hi hjn hne h.low).mono ?_
    rintro e w' ⟨he, jv', hL, hK, hloc⟩
    refine ⟨he, jv', ⟨?_, ?_, Nat.le_trans h.low hK.size⟩, hK, hloc⟩
    · rw [joinG, joinT, hj, if_pos rfl, if_pos rfl, Uf.recs_cons, Int.toNat_natCast, Int.toNat_natCast]
      exact hL
    · rw [joinG, joinT, hj, if_pos rfl, if_pos rfl, Int.toNat_natCast, Int.toNat_natCast]
      obtain ⟨p1, p2, p3, p4, p5⟩ := hok.pick i j hi hjn hne
      exact ⟨_, p2, p1, p3, p4, p5, rfl, rfl, h.hist⟩

/-- What Undo does. -/
def undoes (t : List Uf.Rec) (m : Int) : Bool := decide (0 ≤ m ∧ m ≤ t.length)
def undoK (t : List Uf.Rec) (m : Int) : Nat := if undoes t m then t.length - m.toNat else 0

theorem back_zero (g : Uf.G) (t : List Uf.Rec) : Uf.back g t 0 = g := by cases t <;> rfl

theorem Undo_st (w : World) (base p nb : Nat) (jv : Value) (n : Nat) (g : Uf.G) (t : List Uf.Rec) (h : St w base p nb jv n g t) (m : Int) :
    Calls Try.prog 31 #[.pointer (some ⟨p, 0, none⟩), .int .i64 m] w fun e w' => e = .returned (.bool (undoes t m)) ∧ ∃ jv', St w' base p nb jv' n (Uf.back g t (undoK t m)) (t.drop (undoK t m)) ∧
      Kept (Foot p nb jv) w w' ∧ jv'.ownBlock = jv.ownBlock := by
  cases hu : undoes t m
  · have hno : m < 0 ∨ ((Uf.recs t).length : Int) < m := by
      rw [Uf.recs_length]
      have := of_decide_eq_false hu
      omega
    refine (Undo_no w base p nb n g jv _ h.lies m hno).mono ?_
    rintro e w' ⟨he, hL, hK⟩
    have hk0 : undoK t m = 0 := by rw [undoK, hu]; rfl
    refine ⟨he, jv, ?_, hK, rfl⟩
    rw [hk0, back_zero]
    exact ⟨hL, h.hist, Nat.le_trans h.low hK.size⟩
  · obtain ⟨h1, h2⟩ : 0 ≤ m ∧ m ≤ t.length := of_decide_eq_true hu
    obtain ⟨k, rfl⟩ := Int.eq_ofNat_of_zero_le h1
    have hk : k ≤ t.length := by omega
    have hk0 : undoK t k = t.length - k := by rw [undoK, hu, if_pos rfl, Int.toNat_natCast]
    rw [hk0]
    rcases h.lies.joins.2 with ⟨rfl, h0⟩ | ⟨jb, cap, cur, rfl, _⟩
    · rw [Uf.recs_length] at h0
      obtain rfl : t = [] := List.eq_nil_of_length_eq_zero h0
      obtain rfl : k = 0 := by simpa using hk
      refine (callsIn_wide.1 (Undo_nil w base p nb n g h.lies)).mono ?_
      rintro e w' ⟨he, hL, hK⟩
      exact ⟨he, _, ⟨hL, h.hist, Nat.le_trans h.low hK.size⟩, hK, rfl⟩
    · have hl := h.lies
      rw [Uf.recs_length] at hl
      refine (callsIn_wide.1 (Undo_in w base p nb n g t jb cap hl h.hist k hk)).mono ?_
      rintro e w' ⟨he, hL, hK⟩
      refine ⟨he, _, ⟨hL, Uf.hist_back n _ t g h.hist, Nat.le_trans h.low hK.size⟩, ?_, rfl⟩
      rw [Uf.recs_length]
      exact hK

theorem New_st (w : World) (n : Nat) (hn : n ≤ 100000) :
    Calls Try.prog 24 #[.int .i64 n] w fun e w' => e = .returned (.pointer (some ⟨w.heap.size + 1, 0, none⟩)) ∧ St w' w.heap.size (w.heap.size + 1) w.heap.size (.slice none 0 0) n Uf.g0 [] ∧ Below w.heap.size w w' :=
  (New_in w n hn).mono fun _ _ ⟨he, hL, hB⟩ => ⟨he, ⟨hL, rfl, hB.size⟩, hB⟩

/-- Another Sets is as it was, if the two share no block. -/
theorem St.other {w w' : World} {base p nb n : Nat} {jv : Value} {g : Uf.G} {t : List Uf.Rec} (h : St w base p nb jv n g t) {S : Nat → Prop} (hK : Kept S w w') (hp : ¬ S p) (hn : ¬ S nb) (hj : ∀ k, jv.ownBlock = some k → ¬ S k) : St w' base p nb jv n g t := by
  refine ⟨⟨h.lies.sets.of_block (hK.block p h.lies.sets.lt hp), h.lies.nodes.of_block (hK.block nb h.lies.nodes.lt hn), ?_, h.lies.ne, h.lies.jp, h.lies.jn, h.lies.bp, h.lies.bn, h.lies.small⟩, h.hist, Nat.le_trans h.low hK.size⟩
  refine ⟨h.lies.joins.1, ?_⟩
  rcases h.lies.joins.2 with hn | ⟨b, cap, cur, e, h1, h2, h3⟩
  · exact .inl hn
  · refine .inr ⟨b, cap, cur, e, h1, ?_, h3⟩
    rw [hK.block b (Array.getElem?_eq_some_iff.1 h2).1 (hj b (by rw [e]; rfl))]
    exact h2

theorem St.drewN {w : World} {base p nb n : Nat} {jv : Value} {g : Uf.G} {t : List Uf.Rec} (h : St w base p nb jv n g t) {m : Nat} : St (w.drewN m) base p nb jv n g t := ⟨h.lies.drewN, h.hist, h.low⟩

end Go.Proofs.Ytinphcnknionmaa
