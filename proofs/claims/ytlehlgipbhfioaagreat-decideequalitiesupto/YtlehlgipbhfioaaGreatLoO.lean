/- Package logic: ends. -/
import Derived.Test.YtlehlgipbhfioaaGreatLoN
namespace Go.Proofs.YtlehlgipbhfioaaGreat
open Go.RowKit Go.Shelf

attribute [local go_sem] Oper.semAt_some

/-- A Form behind its Kids. -/
def isEnd (x : Lf × Nat) : Option Lf := if x.2 = x.1.ks.length then some x.1 else none
def es (t : Lf) : List Lf := (wk t 0).filterMap isEnd
def encE (x : Lf) : Array Value := #[.pointer (some ⟨x.b, x.o, none⟩)]
/-- How many have come to their end. -/
def cntE (t : Lf) (i : Nat) : Nat := (((wk t 0).take i).filterMap isEnd).length

theorem cntE_step {t x : Lf} {d i : Nat} (h : (wk t 0)[i]? = some (x, d)) : (d = x.ks.length → (es t)[cntE t i]? = some x ∧ cntE t (i + 1) = cntE t i + 1) ∧ (d ≠ x.ks.length → cntE t (i + 1) = cntE t i) := by
  have hlt := (List.getElem?_eq_some_iff.1 h).1
  have e1 : (wk t 0).take (i + 1) = (wk t 0).take i ++ [(x, d)] := by
    rw [List.take_add_one, h]; rfl
  have e2 : wk t 0 = (wk t 0).take i ++ (x, d) :: (wk t 0).drop (i + 1) := by
    have := List.take_append_drop i (wk t 0)
    rw [List.drop_eq_getElem_cons hlt] at this
    rw [(List.getElem?_eq_some_iff.1 h).2] at this
    exact this.symm
  constructor
  · intro hd
    have he : isEnd (x, d) = some x := by simp [isEnd, hd]
    refine ⟨?_, ?_⟩
    · unfold es cntE
      rw [e2, List.filterMap_append, List.filterMap_cons_some he]
      have : (List.take i (List.take i (wk t 0) ++ (x, d) :: List.drop (i + 1) (wk t 0))) = (wk t 0).take i := by rw [← e2]
      rw [this]
      simp
    · unfold cntE
      rw [e1, List.filterMap_append, List.filterMap_cons_some he]
      simp
  · intro hd
    unfold cntE
    rw [e1, List.filterMap_append]
    simp [isEnd, hd]
theorem cntE_all (t : Lf) : cntE t (wk t 0).length = (es t).length := by simp [cntE, es]

theorem ks_sub {t k : Lf} (h : k ∈ t.ks) : k ∈ t.kids := by
  unfold Lf.ks at h
  split at h
  · cases h
  · exact h
/-- A step through a formula is a Form of it. -/
theorem wk_here {W : World} (t : Lf) (d : Nat) (ht : Here W t) (hd : d ≤ t.ks.length) : ∀ y ∈ wk t d, Here W y.1 ∧ y.2 ≤ y.1.ks.length := by
  intro y hy
  cases h : t.ks[d]? with
  | none =>
    rw [wk_end h] at hy
    obtain rfl := List.mem_singleton.1 hy
    exact ⟨ht, hd⟩
  | some k =>
    have hlt := (List.getElem?_eq_some_iff.1 h).1
    rw [wk_step h] at hy
    rcases List.mem_cons.1 hy with rfl | hy
    · exact ⟨ht, hd⟩
    · rcases List.mem_append.1 hy with hy | hy
      · exact wk_here k 0 (ht.kid (ks_sub (List.mem_of_getElem? h))) (Nat.zero_le _) y hy
      · exact wk_here t (d + 1) ht hlt y hy
termination_by (SizeOf.sizeOf t, t.ks.length - d)
decreasing_by
  · exact Prod.Lex.left _ _ (ks_lt (List.mem_of_getElem? h))
  · exact Prod.Lex.right _ (by omega)
theorem Ow.fkeep {B : Nat} {W W' : World} (h : Ow 335 B W W') : FKeep 0 W W' := fun k c fz _ hk => h.same k _ hk (Or.inr ⟨rfl, by rintro ⟨c', ty', fz', e, e'⟩; cases e; cases e'⟩)
theorem Ow.rowIs {B : Nat} {W W' : World} (h : Ow 335 B W W') {b n : Nat} {ty : TypeId} {f : Nat → Value} (hne : ty ≠ 335) (hr : W.rowIs b ty n f) : W'.rowIs b ty n f := by
  obtain ⟨c, h1, h2⟩ := hr
  exact ⟨c, h.same b _ h1 (Or.inr ⟨rfl, by rintro ⟨c', ty', fz', e, e'⟩; cases e; exact hne e'⟩), h2⟩
theorem Kr.rowIs {B : Nat} {W W' : World} (h : Kr WTy B W W') {b n : Nat} {ty : TypeId} {f : Nat → Value} (ht : WTy ty) (hr : W.rowIs b ty n f) : W'.rowIs b ty n f := by
  obtain ⟨c, h1, h2⟩ := hr
  exact ⟨c, h.same b _ h1 (Or.inr ⟨c, ty, (0, 0), rfl, ht⟩), h2⟩

/-- A round of the wide fence, in a round. -/
theorem round_any {n m l l2 : Nat} {P : Program} {f : FuncId} {tmps : Array Value} {assign body : Code} {w : World} {R : Ending → World → Prop} (h : RoundIn Fence.wide n P l f tmps assign body w R) : RoundIn (Fence.wide.inRound l2) m P l f tmps assign body w R :=
  ⟨trivial, fun c cs _ => h.2 c cs (room_wide _)⟩

set_option maxHeartbeats 1000000 in
theorem ends_in (w : World) (a : Option Addr) :
    Calls Tryz.prog 155 #[.pointer a] w fun e w' => e = .returned (.func (.func 195) #[] #[.pointer (some ⟨w.heap.size, 0, none⟩)]) ∧ w' = w.alloc (.cells #[.pointer a] 161) := by
  go_enter Tryz.func155, Tryz.ntmps155
  go_wp2
  go_ret
  exact ⟨rfl, rfl⟩

set_option maxRecDepth 100000 in
set_option maxHeartbeats 2000000 in
theorem ends1_in (n : Nat) (hn : 3 ≤ n) (Bf : Nat) (t : Lf) (w0 : World) (hb : w0.rowIs Bf 161 1 (fun _ => .pointer (some ⟨t.b, t.o, none⟩))) (ht : Here w0 t) (hN : (wk t 0).length * 16 ≤ 140737488355328) :
    SeqT n Tryz.prog WTy 335 195 #[.pointer (some ⟨Bf, 0, none⟩)] encE (es t) w0 := by
  intro l J W hW hJ hY h0
  have h1n : 1 ≤ n := by omega
  have hBf : Bf < W.heap.size := Nat.lt_of_lt_of_le hb.lt hW.size
  have hbW := (hW.cell (p := ⟨Bf, 0, none⟩) hb.lt).trans (hb.cell (i := 0) (by omega))
  refine callsIn_of_wp_marks Tryz.func195 rfl trivial ?_ rfl
  simp only [Tryz.ntmps195, List.size_toArray, List.length_cons, List.length_nil, Nat.reduceAdd, Nat.reduceSub, Array.replicate_succ, Array.replicate_zero, List.push_toArray, List.append_toArray, List.nil_append, List.cons_append]
  gi_wp2_with (first | (refine ⟨trivial, ?_⟩; gi_at_call 196; refine (callsIn_wide.2 (steps_in _ _)).mono ?_; rintro e w5 ⟨rfl, rfl⟩) | (gi_at_call 196; refine (callsIn_wide.2 (steps_in _ _)).mono ?_; rintro e w5 ⟨rfl, rfl⟩))
  have hz2 : ((W.alloc (.cells #[.func (.yield l) #[] #[]] 243)).alloc (.cells #[.pointer (some ⟨t.b, t.o, none⟩)] 161)).heap.size = W.heap.size + 2 := by simp
  have hz1 : (W.alloc (.cells #[.func (.yield l) #[] #[]] 243)).heap.size = W.heap.size + 1 := by simp
  have one : ∀ (w : World) (v : Value) (ty : TypeId), (w.alloc (.cells #[v] ty)).rowIs w.heap.size ty 1 (fun _ => v) := fun w v ty => World.rowIs.congr (made_row w #[v] ty) (fun j hj => by
    have : j = 0 := by simp at hj; omega
    subst this; rfl)
  have y2 : ((W.alloc (.cells #[.func (.yield l) #[] #[]] 243)).alloc (.cells #[.pointer (some ⟨t.b, t.o, none⟩)] 161)).rowIs W.heap.size 243 1 (fun _ => .func (.yield l) #[] #[]) := (one W _ _).of_block (Below.heap_alloc _ _ _ (by simp))
  have b2 : ((W.alloc (.cells #[.func (.yield l) #[] #[]] 243)).alloc (.cells #[.pointer (some ⟨t.b, t.o, none⟩)] 161)).rowIs (W.heap.size + 1) 161 1 (fun _ => .pointer (some ⟨t.b, t.o, none⟩)) := hz1 ▸ one _ (.pointer (some ⟨t.b, t.o, none⟩)) 161
  have ht2 : Here ((W.alloc (.cells #[.func (.yield l) #[] #[]] 243)).alloc (.cells #[.pointer (some ⟨t.b, t.o, none⟩)] 161)) t := (ht.keep (fun k c fz _ hk => (hW.block k (Array.getElem?_eq_some_iff.1 hk).1).trans hk)).keep (((FKeep.alloc 0 W _).trans (FKeep.alloc 0 _ _)).toA _)
  have J2 : J 0 ((W.alloc (.cells #[.func (.yield l) #[] #[]] 243)).alloc (.cells #[.pointer (some ⟨t.b, t.o, none⟩)] 161)) := hJ 0 _ _ h0 ((Ow.alloc W _).trans (Ow.alloc _ _))
  generalize (W.alloc (.cells #[.func (.yield l) #[] #[]] 243)).alloc (.cells #[.pointer (some ⟨t.b, t.o, none⟩)] 161) = w2 at hz2 y2 b2 ht2 J2 ⊢
  clear one hz1 hbW h0
  refine rangeT h1n (gf := 234) (lb := #[.pointer (some ⟨W.heap.size + 1, 0, none⟩)]) rfl (enters_of Tryz.func234 (by kernel_rfl) rfl) (steps1_in (n - 1) (by omega) (W.heap.size + 1) t w2 b2 ht2 hN) (Below.refl _ _) (fun _ => rfl)
    (fun i W1 => J (cntE t i) W1 ∧ Here W1 t ∧ W1.rowIs W.heap.size 243 1 (fun _ => .func (.yield l) #[] #[]) ∧ W.heap.size ≤ W1.heap.size)
    ?hI ?h0 (fun x => { tmps := #[.func (.yield l) #[] #[], .pointer (some ⟨Bf, 0, none⟩), .pointer (some ⟨W.heap.size, 0, none⟩), .pointer (some ⟨x.1.b, x.1.o, none⟩), .int .i64 (x.2 : Int), .pointer (some ⟨t.b, t.o, none⟩), .func (.func 234) #[] #[.pointer (some ⟨W.heap.size + 1, 0, none⟩)], .pointer (some ⟨x.1.b, x.1.o, none⟩), .int .i64 (x.2 : Int), undef, undef, undef, undef, undef, undef, undef, undef, undef, undef, undef], defers := [] }) ?assign ?body ?done
  case hI =>
    rintro i A B ⟨j1, j2, j3, j4⟩ hO
    exact ⟨hJ _ _ _ j1 (hO.mono (by omega)), j2.keep (hO.fkeep.toA _), hO.rowIs (by decide) j3, Nat.le_trans j4 hO.size⟩
  case h0 => exact ⟨J2, ht2, y2, by omega⟩
  case assign =>
    intro l2 x W1 K hK
    unfold encS
    gi_wp2
    exact hK
  case body =>
    rintro l2 i ⟨x, d⟩ W1 hx hw1 ⟨j1, j2, j3, j4⟩
    obtain ⟨hE1, hE2⟩ := cntE_step hx
    obtain ⟨hxh, hxd⟩ := wk_here t 0 j2 (Nat.zero_le _) (x, d) (List.mem_of_getElem? hx)
    obtain ⟨ka, kc, hkf⟩ := kids_form hxh
    have KD : CallsIn (Fence.wide.inRound l2) (n - 1 - 1 - 1) Tryz.prog 156 #[.pointer (some ⟨x.b, x.o, none⟩)] W1 fun e w' => e = .returned (.slice ka x.ks.length kc) ∧ w' = W1 := by
      have := kids_in W1 x hxh
      rw [hkf] at this
      exact CallsIn.inRound l2 (callsIn_wide.2 this)
    have cy := j3.cell (i := 0) (by omega)
    have hr1 : 1 ≤ n - 1 - 1 := by omega
    by_cases hd : d = x.ks.length
    · obtain ⟨hE3, hE4⟩ := hE1 hd
      obtain ⟨fn, tmps, assign, body, hy, hR⟩ := hY (cntE t i) x W1 hE3 j1
      unfold encE at hy
      have dE : ((d : Int) == (x.ks.length : Int)) = true := by simp; omega
      have dE' : (d : Int) = (x.ks.length : Int) := by omega
      gi_wp2_with (first | (refine ⟨trivial, ?_⟩; gi_at_call 156; refine KD.mono ?_; rintro e w5 ⟨rfl, rfl⟩))
      refine (round_any hR).mono ?_
      rintro e w6 ⟨rfl, hJ6, hK6⟩
      gi_wp2
      exact ⟨hK6.mono (by omega), hE4 ▸ hJ6, j2.keep (hK6.fkeep.toA _), hK6.rowIs (Or.inr (Or.inr (Or.inr (Or.inl rfl)))) j3, Nat.le_trans j4 hK6.size⟩
    · have dE : ((d : Int) == (x.ks.length : Int)) = false := by simp; omega
      have dE' : ¬ (d : Int) = (x.ks.length : Int) := by omega
      gi_wp2_with (first | (refine ⟨trivial, ?_⟩; gi_at_call 156; refine KD.mono ?_; rintro e w5 ⟨rfl, rfl⟩))
      refine ⟨fun _ h => (by cases h), ?_⟩
      gi_wp2
      exact ⟨Kr.refl _ _ _, (hE2 hd) ▸ j1, j2, j3, j4⟩
  case done =>
    rintro D W3 hD ⟨j1, j2, j3, j4⟩ hK
    gi_wp2
    refine ⟨by simp, .inl ⟨_, _, rfl, run_takeDeferred hK, ?_⟩⟩
    exact ⟨_, results_none rfl _ _ _, ⟨_, rfl⟩, cntE_all t ▸ hJ _ _ _ j1 (Ow.putObj _ (by omega) hK rfl)⟩

end Go.Proofs.YtlehlgipbhfioaaGreat
