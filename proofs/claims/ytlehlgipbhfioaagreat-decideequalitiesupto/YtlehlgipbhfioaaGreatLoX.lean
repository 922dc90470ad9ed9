/- Package logic: equalities. -/
import Derived.Test.YtlehlgipbhfioaaGreatLoP
import Derived.Stop.RegionWithIn
namespace Go.Proofs.YtlehlgipbhfioaaGreat
open Go.RowKit Go.Shelf

attribute [local go_sem] Oper.semAt_some

/-- How many of the first i are taken. -/
def cnt {α β : Type} (f : α → Option β) (L : List α) (i : Nat) : Nat := ((L.take i).filterMap f).length
theorem cnt_step {α β : Type} {f : α → Option β} {L : List α} {x : α} {i : Nat} (h : L[i]? = some x) : (∀ y, f x = some y → (L.filterMap f)[cnt f L i]? = some y ∧ cnt f L (i + 1) = cnt f L i + 1) ∧ (f x = none → cnt f L (i + 1) = cnt f L i) := by
  have hlt := (List.getElem?_eq_some_iff.1 h).1
  have e1 : L.take (i + 1) = L.take i ++ [x] := by
    rw [List.take_add_one, h]; rfl
  have e2 : L = L.take i ++ x :: L.drop (i + 1) := by
    have := List.take_append_drop i L
    rw [List.drop_eq_getElem_cons hlt] at this
    rw [(List.getElem?_eq_some_iff.1 h).2] at this
    exact this.symm
  constructor
  · intro y he
    refine ⟨?_, ?_⟩
    · have e3 : L.filterMap f = (L.take i).filterMap f ++ y :: (L.drop (i + 1)).filterMap f := by
        conv => lhs; rw [e2]
        rw [List.filterMap_append, List.filterMap_cons_some he]
      rw [e3, cnt]
      simp
    · unfold cnt
      rw [e1, List.filterMap_append, List.filterMap_cons_some he]
      simp
  · intro he
    unfold cnt
    rw [e1, List.filterMap_append]
    simp [he]
theorem cnt_all {α β : Type} (f : α → Option β) (L : List α) : cnt f L L.length = (L.filterMap f).length := by simp [cnt]

/-- An equality's Pair. -/
def isEq (x : Lf) : Option (Int × Int) := if x.op = 0 then some (x.x, x.y) else none
def eqs (t : Lf) : List (Int × Int) := (es t).filterMap isEq
def encP (p : Int × Int) : Array Value := #[.agg #[.int .i64 p.1, .int .i64 p.2]]

set_option maxHeartbeats 1000000 in
theorem equs_in (w : World) (a : Option Addr) :
    Calls Tryz.prog 121 #[.pointer a] w fun e w' => e = .returned (.func (.func 159) #[] #[.pointer (some ⟨w.heap.size, 0, none⟩)]) ∧ w' = w.alloc (.cells #[.pointer a] 161) := by
  go_enter Tryz.func121, Tryz.ntmps121
  go_wp2
  go_ret
  exact ⟨rfl, rfl⟩

theorem es_in {W : World} {t x : Lf} (ht : Here W t) (h : x ∈ es t) : Here W x := by
  unfold es at h
  obtain ⟨⟨y, d⟩, h1, h2⟩ := List.mem_filterMap.1 h
  unfold isEnd at h2
  split at h2
  · cases h2
    exact (wk_here t 0 ht (Nat.zero_le _) _ h1).1
  · cases h2

set_option maxRecDepth 100000 in
set_option maxHeartbeats 2000000 in
theorem equs1_in (n : Nat) (hn : 5 ≤ n) (Bf : Nat) (t : Lf) (w0 : World) (hb : w0.rowIs Bf 161 1 (fun _ => .pointer (some ⟨t.b, t.o, none⟩))) (ht : Here w0 t) (hN : (wk t 0).length * 16 ≤ 140737488355328) :
    SeqT n Tryz.prog WTy 335 159 #[.pointer (some ⟨Bf, 0, none⟩)] encP (eqs t) w0 := by
  intro l J W hW hJ hY h0
  have h1n : 1 ≤ n := by omega
  have hBf : Bf < W.heap.size := Nat.lt_of_lt_of_le hb.lt hW.size
  have hbW := (hW.cell (p := ⟨Bf, 0, none⟩) hb.lt).trans (hb.cell (i := 0) (by omega))
  refine callsIn_of_wp_marks Tryz.func159 rfl trivial ?_ rfl
  simp only [Tryz.ntmps159, List.size_toArray, List.length_cons, List.length_nil, Nat.reduceAdd, Nat.reduceSub, Array.replicate_succ, Array.replicate_zero, List.push_toArray, List.append_toArray, List.nil_append, List.cons_append]
  gi_wp2_with (first | (refine ⟨trivial, ?_⟩; gi_at_call 155; refine (callsIn_wide.2 (ends_in _ _)).mono ?_; rintro e w5 ⟨rfl, rfl⟩) | (gi_at_call 155; refine (callsIn_wide.2 (ends_in _ _)).mono ?_; rintro e w5 ⟨rfl, rfl⟩))
  have hz2 : ((W.alloc (.cells #[.func (.yield l) #[] #[]] 241)).alloc (.cells #[.pointer (some ⟨t.b, t.o, none⟩)] 161)).heap.size = W.heap.size + 2 := by simp
  have hz1 : (W.alloc (.cells #[.func (.yield l) #[] #[]] 241)).heap.size = W.heap.size + 1 := by simp
  have one : ∀ (w : World) (v : Value) (ty : TypeId), (w.alloc (.cells #[v] ty)).rowIs w.heap.size ty 1 (fun _ => v) := fun w v ty => World.rowIs.congr (made_row w #[v] ty) (fun j hj => by
    have : j = 0 := by simp at hj; omega
    subst this; rfl)
  have y2 : ((W.alloc (.cells #[.func (.yield l) #[] #[]] 241)).alloc (.cells #[.pointer (some ⟨t.b, t.o, none⟩)] 161)).rowIs W.heap.size 241 1 (fun _ => .func (.yield l) #[] #[]) := (one W _ _).of_block (Below.heap_alloc _ _ _ (by simp))
  have b2 : ((W.alloc (.cells #[.func (.yield l) #[] #[]] 241)).alloc (.cells #[.pointer (some ⟨t.b, t.o, none⟩)] 161)).rowIs (W.heap.size + 1) 161 1 (fun _ => .pointer (some ⟨t.b, t.o, none⟩)) := hz1 ▸ one _ (.pointer (some ⟨t.b, t.o, none⟩)) 161
  have ht2 : Here ((W.alloc (.cells #[.func (.yield l) #[] #[]] 241)).alloc (.cells #[.pointer (some ⟨t.b, t.o, none⟩)] 161)) t := (ht.keep (fun k c fz _ hk => (hW.block k (Array.getElem?_eq_some_iff.1 hk).1).trans hk)).keep (((FKeep.alloc 0 W _).trans (FKeep.alloc 0 _ _)).toA _)
  have J2 : J 0 ((W.alloc (.cells #[.func (.yield l) #[] #[]] 241)).alloc (.cells #[.pointer (some ⟨t.b, t.o, none⟩)] 161)) := hJ 0 _ _ h0 ((Ow.alloc W _).trans (Ow.alloc _ _))
  generalize (W.alloc (.cells #[.func (.yield l) #[] #[]] 241)).alloc (.cells #[.pointer (some ⟨t.b, t.o, none⟩)] 161) = w2 at hz2 y2 b2 ht2 J2 ⊢
  clear one hz1 hbW h0
  refine rangeT h1n (gf := 195) (lb := #[.pointer (some ⟨W.heap.size + 1, 0, none⟩)]) rfl (enters_of Tryz.func195 (by kernel_rfl) rfl) (ends1_in (n - 1) (by omega) (W.heap.size + 1) t w2 b2 ht2 hN) (Below.refl _ _) (fun _ => rfl)
    (fun i W1 => J (cnt isEq (es t) i) W1 ∧ Here W1 t ∧ W1.rowIs W.heap.size 241 1 (fun _ => .func (.yield l) #[] #[]) ∧ W.heap.size ≤ W1.heap.size)
    ?hI ?h0 (fun x => { tmps := #[.func (.yield l) #[] #[], .pointer (some ⟨Bf, 0, none⟩), .pointer (some ⟨W.heap.size, 0, none⟩), .pointer (some ⟨x.b, x.o, none⟩), .pointer (some ⟨t.b, t.o, none⟩), .func (.func 195) #[] #[.pointer (some ⟨W.heap.size + 1, 0, none⟩)], .pointer (some ⟨x.b, x.o, none⟩), undef, undef, undef, undef, undef, undef, undef, undef, undef, undef, undef, undef, undef, undef], defers := [] }) ?assign ?body ?done
  case hI =>
    rintro i A B ⟨j1, j2, j3, j4⟩ hO
    exact ⟨hJ _ _ _ j1 (hO.mono (by omega)), j2.keep (hO.fkeep.toA _), hO.rowIs (by decide) j3, Nat.le_trans j4 hO.size⟩
  case h0 => exact ⟨J2, ht2, y2, by omega⟩
  case assign =>
    intro l2 x W1 K hK
    unfold encE
    gi_wp2
    exact hK
  case body =>
    rintro l2 i x W1 hx hw1 ⟨j1, j2, j3, j4⟩
    obtain ⟨hE1, hE2⟩ := cnt_step (f := isEq) hx
    have hxh := es_in j2 (List.mem_of_getElem? hx)
    have c0 := hxh.cells.c0
    have c1 := hxh.cells.c1
    have c2 := hxh.cells.c2
    have cy := j3.cell (i := 0) (by omega)
    have hr1 : 1 ≤ n - 1 - 1 := by omega
    have hd1 : Kr WTy w2.heap.size W1 W1.drew := ⟨Nat.le_refl _, fun _ _ hh _ => hh⟩
    have O1 : Ow 335 W.heap.size W1 W1.drew := Ow.drewN W1 1
    by_cases h0 : x.op = 0
    · obtain ⟨hE3, hE4⟩ := hE1 (x.x, x.y) (by simp [isEq, h0])
      obtain ⟨fn, tmps, assign, body, hy, hR⟩ := hY (cnt isEq (es t) i) (x.x, x.y) W1.drew hE3 (hJ _ _ _ j1 O1)
      unfold encP at hy
      rw [h0] at c0
      gi_wp2
      gi_region_with (refine (round_any hR).mono ?_; rintro e w6 ⟨rfl, hJ6, hK6⟩)
      all_goals
        gi_wp2
        have hK7 : Kr WTy W.heap.size W1 w6 := ⟨hK6.size, hK6.same⟩
        exact ⟨hK7.mono (by omega), hE4 ▸ hJ6, j2.keep (hK7.fkeep.toA _), hK7.rowIs (Or.inr (Or.inr (Or.inr (Or.inr rfl)))) j3, Nat.le_trans j4 hK7.size⟩
    · have dE : (x.op == 0) = false := by simpa using h0
      gi_wp2
      gi_region_with (refine ⟨fun _ h => (by cases h), ?_⟩)
      all_goals
        gi_wp2
        exact ⟨hd1, (hE2 (by simp [isEq, h0])) ▸ hJ _ _ _ j1 O1, j2.keep (O1.fkeep.toA _), O1.rowIs (by decide) j3, j4⟩
  case done =>
    rintro D W3 hD ⟨j1, j2, j3, j4⟩ hK
    gi_wp2
    refine ⟨by simp, .inl ⟨_, _, rfl, run_takeDeferred hK, ?_⟩⟩
    exact ⟨_, results_none rfl _ _ _, ⟨_, rfl⟩, cnt_all isEq (es t) ▸ hJ _ _ _ j1 (Ow.putObj _ (by omega) hK rfl)⟩

end Go.Proofs.YtlehlgipbhfioaaGreat
