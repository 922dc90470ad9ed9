/- Package close: join. -/
import Derived.Test.YtlehlgipbhfioaaGreatP05
import Derived.Deep.RegionHeld3
import Derived.Deep.DeepCutAuto
namespace Go.Proofs.YtlehlgipbhfioaaGreat
open Go.RowKit Go.Maps

theorem Cz.mark {w : World} {base : Nat} {l : List Tm} {z : Zs} (h : Cz w base l z) {W : World} (K : Kept0 w W) :
    Calls Tryz.prog 70 #[.pointer (some ⟨z.ps, 0, none⟩)] W fun e w' => e = .returned (.int .i64 (z.t.length : Int)) ∧ W = w' := by
  have := Mark_in W base z.ps z.nb l.length z.g z.jv _ (h.kept0 K).sets.lies
  rw [Uf.recs_length] at this
  exact this

theorem two_boxes (w : World) (A B : Obj) : ((w.alloc A).alloc B).drew.heap[w.heap.size]? = some A ∧ ((w.alloc A).alloc B).drew.heap[w.heap.size + 1]? = some B ∧ Kept0 w ((w.alloc A).alloc B).drew := by
  refine ⟨?_, ?_, (((Kept.refl _ w).alloc A).alloc B).drew⟩
  · show ((w.alloc A).alloc B).heap[w.heap.size]? = some A
    rw [Below.heap_alloc _ _ _ (by simp)]
    exact Deep.blk_alloc_new w A
  · have := Deep.blk_alloc_new (w.alloc A) B
    rw [show (w.alloc A).heap.size = w.heap.size + 1 by simp] at this
    exact this

theorem Kept.into {S T : Nat → Prop} {a b c : World} (h : Kept S a b) (k : Kept T b c) (hT : ∀ i, T i → S i ∨ a.heap.size ≤ i) : Kept S a c :=
  ⟨k.os.trans h.os, k.tape.trans h.tape, k.output.trans h.output, Nat.le_trans h.size k.size, fun i hi hs => (k.block i (Nat.lt_of_lt_of_le hi h.size) (fun t => (hT i t).elim hs (fun x => by omega))).trans (h.block i hi hs)⟩

/-- The step that takes a join back, and the boxes that it holds. -/
def undoF (bc bm bo bl : Nat) : Value := .func (.func 73) #[] #[.pointer (some ⟨bc, 0, none⟩), .pointer (some ⟨bm, 0, none⟩), .pointer (some ⟨bo, 0, none⟩), .pointer (some ⟨bl, 0, none⟩)]
def undoS (z : Zs) (low : Nat) (bc bm bo bl : Nat) : List (Nat × Obj) := [(bc, .cells #[.pointer (some ⟨z.pk, 0, none⟩)] 57), (bl, .cells #[.int .i64 (low : Int)] 3), (bm, .cells #[.int .i64 (z.t.length : Int)] 3), (bo, .cells #[z.uv low] 110)]

/-- What join leaves. -/
def joinZ (l : List Tm) (z : Zs) (low high bc bm bo bl : Nat) (jv' : Value) (st2 : List (Nat × Obj)) (v' bv' : Value) : Zs :=
  { z with jv := jv', g := joinG l.length z.g low high, t := joinT l.length z.g z.t low high, st := z.st ++ undoS z low bc bm bo bl ++ st2, uv := fun i => if i = low then v' else z.uv i, us := fun i => if i = low then z.us low ++ z.us high else z.us i, bv := bv', bs := z.bs ++ [undoF bc bm bo bl] }

theorem Cz.addStats {w : World} {base : Nat} {l : List Tm} {z : Zs} (h : Cz w base l z) (xs : List (Nat × Obj)) (hx : Sat xs w) (hf : ∀ x ∈ xs, base ≤ x.1 ∧ ¬ z.Foot x.1) : Cz w base l { z with st := z.st ++ xs } := by
  refine ⟨h.cls, h.sets, h.terms, h.uses, h.known, h.back, ?_, ?_, fun i t ht => (h.argsAt i t ht).mono (fun y hy => List.mem_append_left _ hy), fun i hi => (h.usesAt i hi).mono (fun y hy => List.mem_append_left _ hy), h.bd, h.oks, h.len, h.bp, h.bt, h.bu, h.bm⟩
  · intro y hy
    rcases List.mem_append.1 hy with hy | hy
    · exact h.sat y hy
    · exact hx y hy
  · intro y hy
    rcases List.mem_append.1 hy with hy | hy
    · exact h.far y hy
    · exact hf y hy

/-- Two classes of the Sets become one. -/
theorem Cz.join {w : World} {base : Nat} {l : List Tm} {z : Zs} (h : Cz w base l z) (a b : Nat) :
    Calls Tryz.prog 71 #[.pointer (some ⟨z.ps, 0, none⟩), .int .i64 (a : Int), .int .i64 (b : Int)] w fun e w' => e = .returned (.bool (joins l.length z.g a b)) ∧ ∃ jv', Cz w' base l { z with jv := jv', g := joinG l.length z.g a b, t := joinT l.length z.g z.t a b } ∧ Kept z.Foot w w' ∧ Grows w z { z with jv := jv', g := joinG l.length z.g a b, t := joinT l.length z.g z.t a b } := by
  refine (Join_st w base z.ps z.nb z.jv l.length z.g z.t h.sets a b).mono ?_
  rintro e w' ⟨he, jv', hS, K, hloc⟩
  have A := h.apart
  obtain ⟨D, d1, d2, d3⟩ := h.known
  have hfoot : ∀ k, Zs.Foot { z with jv := jv', g := joinG l.length z.g a b, t := joinT l.length z.g z.t a b } k → z.Foot k ∨ w.heap.size ≤ k := by
    rintro k (e | (e | e | e) | e | e | e)
    · exact .inl (.inl e)
    · exact .inl (.inr (.inl (.inl e)))
    · exact .inl (.inr (.inl (.inr (.inl e))))
    · rcases hloc with e2 | e2
      · exact .inl (.inr (.inl (.inr (.inr (e2 ▸ e)))))
      · exact .inr (e2 k e)
    · exact .inl (.inr (.inr (.inl e)))
    · exact .inl (.inr (.inr (.inr (.inl e))))
    · exact .inl (.inr (.inr (.inr (.inr e))))
  refine ⟨he, jv', ⟨h.cls.of_block (K.block _ h.cls.lt ?_), hS, h.terms.of_block (K.block _ h.terms.lt ?_), h.uses.of_block (K.block _ h.uses.lt ?_), ⟨D, mapIs_block d1 (K.block _ (World.ownsMap.lt d1) ?_), d2, d3⟩, ownsRow_blockC h.back (fun k hk => K.block k (h.back.lt k hk).2 ?_), fun x hx => (K.block x.1 (h.st_lt hx) (fun e => (h.far x hx).2 (.inr (.inl e)))).trans (h.sat x hx), fun x hx => ⟨(h.far x hx).1, fun hk => ?_⟩, h.argsAt, h.usesAt, h.bd, h.oks, h.len, h.bp, h.bt, h.bu, h.bm⟩, Kept.mono K (fun k _ e => .inr (.inl e)), ⟨rfl, hfoot, rfl, fun _ hx => .inl hx⟩⟩
  · rintro (e | e | e)
    · exact A.kp e
    · exact A.kn e
    · exact A.kj e
  · rintro (e | e | e)
    · exact A.pt e.symm
    · exact A.nt e.symm
    · exact A.jt e
  · rintro (e | e | e)
    · exact A.pu e.symm
    · exact A.nu e.symm
    · exact A.ju e
  · rintro (e | e | e)
    · exact A.pm e.symm
    · exact A.nm e.symm
    · exact A.jm e
  · rintro (e | e | e)
    · exact A.pb (by rw [hk, e])
    · exact A.nb (by rw [hk, e])
    · exact A.jb k e hk
  · rcases hfoot _ hk with e | e
    · exact (h.far x hx).2 e
    · have := h.st_lt hx; omega

/-- The uses of a class are others now. -/
theorem Cz.setUse {w : World} {base : Nat} {l : List Tm} {z : Zs} (h : Cz w base l z) (low : Nat) (v : Value) (ys : List Nat) (hv : UseIs z.st v ys) :
    Cz (w.setCell ⟨z.ub, low, none⟩ v) base l { z with uv := fun i => if i = low then v else z.uv i, us := fun i => if i = low then ys else z.us i } ∧ Kept z.Foot w (w.setCell ⟨z.ub, low, none⟩ v) := by
  have K : Kept1 z.ub w (w.setCell ⟨z.ub, low, none⟩ v) := Kept1.set (Kept.refl _ w) low v
  have A := h.apart
  obtain ⟨D, d1, d2, d3⟩ := h.known
  refine ⟨⟨h.cls.of_block (K.block _ h.cls.lt A.ku), h.sets.other K A.pu A.nu (fun k hk e => A.ju (by rw [hk, e])), h.terms.of_block (K.block _ h.terms.lt A.ut.symm), h.uses.set low v, ⟨D, mapIs_block d1 (K.block _ (World.ownsMap.lt d1) A.um.symm), d2, d3⟩,
    ownsRow_blockC h.back (fun k hk => K.block k (h.back.lt k hk).2 (fun e => A.ub (by rw [hk, e]))), fun x hx => (K.block x.1 (h.st_lt hx) (fun e => (h.far x hx).2 (.inr (.inr (.inl e))))).trans (h.sat x hx), h.far, h.argsAt, fun i hi => ?_, h.bd, h.oks, h.len, h.bp, h.bt, h.bu, h.bm⟩, Kept.mono K (fun k _ e => .inr (.inr (.inl e)))⟩
  show UseIs z.st (if i = low then v else z.uv i) (if i = low then ys else z.us i)
  by_cases e : i = low
  · rw [if_pos e, if_pos e]; exact hv
  · rw [if_neg e, if_neg e]; exact h.usesAt i hi

set_option maxHeartbeats 2000000 in
set_option maxRecDepth 100000 in
theorem join_in (w : World) (base : Nat) (l : List Tm) (z : Zs) (h : Cz w base l z) (low high : Nat) (hlow : low < l.length) (hhigh : high < l.length) (hbs : z.bs.length < 1000000) (hne : low ≠ high) (hus : (z.us low).length + (z.us high).length ≤ 1000000) (hbase : base ≤ w.heap.size) :
    Calls Tryz.prog 39 #[.pointer (some ⟨z.pk, 0, none⟩), .int .i64 (low : Int), .int .i64 (high : Int)] w fun e w' => e = .returned (.tuple #[]) ∧ ∃ bc bm bo bl jv' st2 v' bv', w.heap.size ≤ bc ∧ w.heap.size ≤ bm ∧ w.heap.size ≤ bo ∧ w.heap.size ≤ bl ∧ (∀ x ∈ st2, w.heap.size ≤ x.1) ∧ Cz w' base l (joinZ l z low high bc bm bo bl jv' st2 v' bv') ∧ Kept z.Foot w w' ∧ Grows w z (joinZ l z low high bc bm bo bl jv' st2 v' bv') := by
  have hlen := h.len
  have K1 : Kept0 w ((w.alloc (.cells #[.pointer (some ⟨z.pk, 0, none⟩)] 57)).alloc (.cells #[.int .i64 (low : Int)] 3)) := Kept.alloc (Kept.alloc (Kept.refl _ w) _) _
  have R3 := World.rowIs.alloc (made_row w #[.pointer (some ⟨z.pk, 0, none⟩)] 57) (.cells #[.int .i64 (low : Int)] 3)
  have R4 := made_row (w.alloc (.cells #[.pointer (some ⟨z.pk, 0, none⟩)] 57)) #[.int .i64 (low : Int)] 3
  have hs1 : (w.alloc (.cells #[.pointer (some ⟨z.pk, 0, none⟩)] 57)).heap.size = w.heap.size + 1 := by simp
  rw [hs1] at R4
  obtain ⟨ua, uc, huv⟩ := (h.usesAt low hlow).form
  go_enter Tryz.func39, Tryz.ntmps39
  go_wp2_with fail
  generalize (w.alloc (.cells #[.pointer (some ⟨z.pk, 0, none⟩)] 57)).alloc (.cells #[.int .i64 (low : Int)] 3) = w1 at *
  have H1 := h.kept0 K1
  have x3 : w1.cell? ⟨w.heap.size, 0, none⟩ = some (.pointer (some ⟨z.pk, 0, none⟩)) := R3.cell (i := 0) (by simp)
  have x4 : w1.cell? ⟨w.heap.size + 1, 0, none⟩ = some (.int .i64 (low : Int)) := R4.cell (i := 0) (by simp)
  have k0 := H1.k0
  have k2 := H1.k2
  have ul := H1.u hlow
  rw [huv] at ul
  have MARK := fun W K => H1.mark (W := W) K
  have stay : ∀ W, Kept0 w1 W → (W.cell? ⟨w.heap.size, 0, none⟩ = some (.pointer (some ⟨z.pk, 0, none⟩)) ∧ W.cell? ⟨w.heap.size + 1, 0, none⟩ = some (.int .i64 (low : Int)) ∧ W.cell? ⟨z.pk, 0, none⟩ = some (.pointer (some ⟨z.ps, 0, none⟩)) ∧ W.cell? ⟨z.pk, 2, none⟩ = some (.slice (some ⟨z.ub, 0, none⟩) l.length l.length) ∧ W.cell? ⟨z.ub, low, none⟩ = some (.slice ua (z.us low).length uc)) := fun W K => by
    have hc : ∀ {b o : Nat} {u : Value}, w1.cell? ⟨b, o, none⟩ = some u → W.cell? ⟨b, o, none⟩ = some u := fun {b o u} hu => (World.cell?_of_block (K.block b (World.block_lt_of_cell? w1 _ hu) (fun e => e)) ).trans hu
    exact ⟨hc x3, hc x4, hc k0, hc k2, hc ul⟩
  clear x3 x4 k0 k2 ul
  go_cut [6, 7] from 8 to 19 (fun v6 v7 wx => ∃ b6 b7, v6 = .pointer (some ⟨b6, 0, none⟩) ∧ v7 = .pointer (some ⟨b7, 0, none⟩) ∧ w1.heap.size ≤ b6 ∧ w1.heap.size ≤ b7 ∧ wx.heap[b6]? = some (.cells #[.int .i64 (z.t.length : Int)] 3) ∧ wx.heap[b7]? = some (.cells #[.slice ua (z.us low).length uc] 110) ∧ Kept0 w1 wx)
  case first =>
    go_region_held3 (fun W => W.cell? ⟨w.heap.size, 0, none⟩ = some (.pointer (some ⟨z.pk, 0, none⟩)) ∧ W.cell? ⟨w.heap.size + 1, 0, none⟩ = some (.int .i64 (low : Int)) ∧ W.cell? ⟨z.pk, 0, none⟩ = some (.pointer (some ⟨z.ps, 0, none⟩)) ∧ W.cell? ⟨z.pk, 2, none⟩ = some (.slice (some ⟨z.ub, 0, none⟩) l.length l.length) ∧ W.cell? ⟨z.ub, low, none⟩ = some (.slice ua (z.us low).length uc)) (exact stay _ (by repeat (first | exact Kept.refl _ _ | apply Kept.drew | apply Kept.drewN | apply Kept.alloc | refine Kept.setNew ?_ (by simp) _))) (first | (go_at_call 70; refine (MARK _ (by repeat (first | exact Kept.refl _ _ | apply Kept.drew | apply Kept.drewN | apply Kept.alloc))).mono ?_; rintro e w' ⟨rfl, rfl⟩))
    all_goals
      go_wp2_with fail
      go_meet
      case rel =>
        first
        | exact ⟨_, _, rfl, rfl, Nat.le_refl _, by omega, (two_boxes w1 _ _).1, (two_boxes w1 _ _).2.1, (two_boxes w1 _ _).2.2⟩
        | exact ⟨_, _, rfl, rfl, by omega, Nat.le_refl _, (two_boxes w1 _ _).2.1, (two_boxes w1 _ _).1, (two_boxes w1 _ _).2.2⟩
  case rest =>
    obtain ⟨b6, b7, rfl, rfl, l6, l7, O6, O7, K2⟩ := hcut
    clear MARK stay
    have l3 := R3.lt
    have l4 := R4.lt
    have K := K1.trans K2
    have O3 : wc.heap[w.heap.size]? = some (.cells #[.pointer (some ⟨z.pk, 0, none⟩)] 57) := (K2.block _ l3 (fun e => e)).trans (rowIs_obj R3 _ rfl (fun i hi => by
      have hi' : i < 1 := hi
      obtain rfl : i = 0 := by omega
      rfl))
    have O4 : wc.heap[w.heap.size + 1]? = some (.cells #[.int .i64 (low : Int)] 3) := (K2.block _ l4 (fun e => e)).trans (rowIs_obj R4 _ rfl (fun i hi => by
      have hi' : i < 1 := hi
      obtain rfl : i = 0 := by omega
      rfl))
    have nf : ∀ k, w.heap.size ≤ k → ¬ z.Foot k := fun k hk hf => by have := h.foot_lt hf; omega
    have S2 : Sat (undoS z low w.heap.size b6 b7 (w.heap.size + 1)) wc := by
      intro x hx
      simp [undoS] at hx
      rcases hx with rfl | rfl | rfl | rfl
      · exact O3
      · exact O4
      · exact O6
      · rw [huv]; exact O7
    have H2 := (h.kept0 K).addStats (undoS z low w.heap.size b6 b7 (w.heap.size + 1)) S2 (by
      intro x hx
      have hx1 : w.heap.size ≤ x.1 := by
        simp [undoS] at hx
        rcases hx with rfl | rfl | rfl | rfl
        · exact Nat.le_refl _
        · exact Nat.le_succ _
        · show w.heap.size ≤ b6; omega
        · show w.heap.size ≤ b7; omega
      exact ⟨by omega, nf _ hx1⟩)
    have k0 := H2.k0
    have x3 : wc.cell? ⟨w.heap.size, 0, none⟩ = some (.pointer (some ⟨z.pk, 0, none⟩)) := by simp [World.cell?, O3]
    have x4 : wc.cell? ⟨w.heap.size + 1, 0, none⟩ = some (.int .i64 (low : Int)) := by simp [World.cell?, O4]
    have JOIN := fun m => (H2.drewN m).join low high
    have G2 : Grows w z { z with st := z.st ++ undoS z low w.heap.size b6 b7 (w.heap.size + 1) } := ⟨rfl, fun _ hk => .inl hk, rfl, fun x hx => by
      rcases List.mem_append.1 hx with hx | hx
      · exact .inl hx
      · refine .inr ?_
        simp [undoS] at hx
        rcases hx with rfl | rfl | rfl | rfl
        · exact Nat.le_refl _
        · exact Nat.le_succ _
        · show w.heap.size ≤ b6; omega
        · show w.heap.size ≤ b7; omega⟩
    go_wp2_with fail
    go_cut [26] from 20 to 26 (fun v wx => v = .bool (joins l.length z.g low high) ∧ ∃ jv', Cz wx base l { z with st := z.st ++ undoS z low w.heap.size b6 b7 (w.heap.size + 1), jv := jv', g := joinG l.length z.g low high, t := joinT l.length z.g z.t low high } ∧ Kept z.Foot w wx ∧ Grows w z { z with st := z.st ++ undoS z low w.heap.size b6 b7 (w.heap.size + 1), jv := jv', g := joinG l.length z.g low high, t := joinT l.length z.g z.t low high } ∧ Kept z.Foot wc wx)
    case first =>
      go_region_with (go_at_call 71; refine (JOIN 1).mono ?_; rintro e w3 ⟨rfl, jv', H3, K3, G3⟩)
      all_goals
        go_wp2_with fail
        go_meet
        case rel =>
          have K3' : Kept z.Foot (wc.drewN 1) w3 := K3
          exact ⟨rfl, jv', H3, (Kept.mono (K.drewN 1) (fun _ _ e => e.elim)).trans K3', G2.trans G3 K.size, (Kept.drewN (Kept.refl _ wc) 1).trans K3'⟩
    case rest =>
      obtain ⟨rfl, jv', H3, K3, G3, K3c⟩ := hcut
      clear JOIN H2 k0 x3 x4 G2
      rename_i w2
      obtain ⟨ha, hc, huh⟩ := (h.usesAt high hhigh).form
      have U1 := H3.usesAt low hlow
      have U2 := H3.usesAt high hhigh
      have nU : ∀ k, w.heap.size ≤ k → k ≠ z.ub := fun k hk e => nf k hk (.inr (.inr (.inl e)))
      have q3 : wc.heap[w.heap.size]? = some (.cells #[.pointer (some ⟨z.pk, 0, none⟩)] 57) := H3.sat (w.heap.size, .cells #[.pointer (some ⟨z.pk, 0, none⟩)] 57) (by simp [undoS])
      have q4 : wc.heap[w.heap.size + 1]? = some (.cells #[.int .i64 (low : Int)] 3) := H3.sat (w.heap.size + 1, .cells #[.int .i64 (low : Int)] 3) (by simp [undoS])
      have q7 : wc.heap[b7]? = some (.cells #[z.uv low] 110) := H3.sat (b7, .cells #[z.uv low] 110) (by simp [undoS])
      have c3 : wc.cell? ⟨w.heap.size, 0, none⟩ = some (.pointer (some ⟨z.pk, 0, none⟩)) := by simp [World.cell?, q3]
      have c4 : wc.cell? ⟨w.heap.size + 1, 0, none⟩ = some (.int .i64 (low : Int)) := by simp [World.cell?, q4]
      have c7 : wc.cell? ⟨b7, 0, none⟩ = some (.slice ua (z.us low).length uc) := by rw [← huv]; simp [World.cell?, q7]
      have ck : wc.cell? ⟨z.pk, 2, none⟩ = some (.slice (some ⟨z.ub, 0, none⟩) l.length l.length) := H3.k2
      have cu : wc.cell? ⟨z.ub, high, none⟩ = some (.slice ha (z.us high).length hc) := by rw [← huh]; exact H3.u hhigh
      have fu := H3.uses.frozen low
      have cl : wc.cell? ⟨z.ub, low, none⟩ = some (.slice ua (z.us low).length uc) := by rw [← huv]; exact H3.u hlow
      have TOG : ∀ W, Kept0 wc W → Calls Tryz.prog 72 #[.slice ua (z.us low).length uc, .slice ha (z.us high).length hc] W fun e w' => ∃ v' st2, e = .returned v' ∧ Kept0 W w' ∧ UseIs (z.st ++ undoS z low w.heap.size b6 b7 (w.heap.size + 1) ++ st2) v' (z.us low ++ z.us high) ∧ Sat st2 w' ∧ ∀ x ∈ st2, W.heap.size ≤ x.1 := fun W KW => by
        rw [← huv, ← huh]
        exact together_in W _ (H3.kept0 KW).sat _ _ _ _ U1 U2 hus
      have stay : ∀ W, Kept0 wc W → (W.cell? ⟨w.heap.size, 0, none⟩ = some (.pointer (some ⟨z.pk, 0, none⟩)) ∧ W.cell? ⟨w.heap.size + 1, 0, none⟩ = some (.int .i64 (low : Int)) ∧ W.cell? ⟨b7, 0, none⟩ = some (.slice ua (z.us low).length uc) ∧ W.cell? ⟨z.pk, 2, none⟩ = some (.slice (some ⟨z.ub, 0, none⟩) l.length l.length) ∧ W.cell? ⟨z.ub, high, none⟩ = some (.slice ha (z.us high).length hc)) := fun W K => by
        have hcc : ∀ {b o : Nat} {u : Value}, wc.cell? ⟨b, o, none⟩ = some u → W.cell? ⟨b, o, none⟩ = some u := fun {b o u} hu => (World.cell?_of_block (K.block b (World.block_lt_of_cell? wc _ hu) (fun e => e)) ).trans hu
        exact ⟨hcc c3, hcc c4, hcc c7, hcc ck, hcc cu⟩
      have hku := H3.apart.ku
      have stay2 : ∀ W v, Kept0 wc W → ((W.setCell ⟨z.ub, low, none⟩ v).cell? ⟨w.heap.size, 0, none⟩ = some (.pointer (some ⟨z.pk, 0, none⟩)) ∧ (W.setCell ⟨z.ub, low, none⟩ v).cell? ⟨w.heap.size + 1, 0, none⟩ = some (.int .i64 (low : Int)) ∧ (W.setCell ⟨z.ub, low, none⟩ v).cell? ⟨b7, 0, none⟩ = some (.slice ua (z.us low).length uc) ∧ (W.setCell ⟨z.ub, low, none⟩ v).cell? ⟨z.pk, 2, none⟩ = some (.slice (some ⟨z.ub, 0, none⟩) l.length l.length) ∧ (W.setCell ⟨z.ub, low, none⟩ v).cell? ⟨z.ub, high, none⟩ = some (.slice ha (z.us high).length hc)) := fun W v KW => by
        obtain ⟨s1, s2, s3, s4, s5⟩ := stay W KW
        have ho : ∀ {b o : Nat} {u : Value}, b ≠ z.ub → W.cell? ⟨b, o, none⟩ = some u → (W.setCell ⟨z.ub, low, none⟩ v).cell? ⟨b, o, none⟩ = some u := fun {b o u} hb hu => (World.cell?_of_block (Below.heap_setCell _ _ _ _ hb)).trans hu
        refine ⟨ho (nU _ (Nat.le_refl _)) s1, ho (nU _ (Nat.le_succ _)) s2, ho (nU b7 (by omega)) s3, ho hku s4, ?_⟩
        have := ((H3.kept0 KW).uses.set low v).cell (i := high) hhigh
        rw [if_neg (Ne.symm hne)] at this
        rw [← huh]; exact this
      have FRZ : ∀ W, Kept0 wc W → W.frozen? ⟨z.ub, low, none⟩ = false ∧ W.cell? ⟨z.ub, low, none⟩ = some (.slice ua (z.us low).length uc) := fun W KW => ⟨(H3.kept0 KW).uses.frozen low, by rw [← huv]; exact (H3.kept0 KW).u hlow⟩
      clear c3 c4 c7 ck cu
      go_wp2_with fail
      go_cut [40] from 27 to 41 (fun v wx => ∃ st2, UseIs (z.st ++ undoS z low w.heap.size b6 b7 (w.heap.size + 1) ++ st2) v (z.us low ++ z.us high) ∧ (∀ x ∈ st2, w.heap.size ≤ x.1) ∧ ∃ w4, Kept0 wc w4 ∧ Sat st2 w4 ∧ (∀ x ∈ st2, wc.heap.size ≤ x.1) ∧ wx = w4.setCell ⟨z.ub, low, none⟩ v)
      case first =>
        go_region_held3 (fun W => W.cell? ⟨w.heap.size, 0, none⟩ = some (.pointer (some ⟨z.pk, 0, none⟩)) ∧ W.cell? ⟨w.heap.size + 1, 0, none⟩ = some (.int .i64 (low : Int)) ∧ W.cell? ⟨b7, 0, none⟩ = some (.slice ua (z.us low).length uc) ∧ W.cell? ⟨z.pk, 2, none⟩ = some (.slice (some ⟨z.ub, 0, none⟩) l.length l.length) ∧ W.cell? ⟨z.ub, high, none⟩ = some (.slice ha (z.us high).length hc)) (first | exact stay _ (by first | assumption | exact (Kept.refl _ _).drew) | exact stay2 _ _ (by first | assumption | exact (Kept.refl _ _).drew)) (first | (go_at_call 72; refine (TOG _ (by first | assumption | exact (Kept.refl _ _).drew)).mono ?_; rintro e w4 ⟨v', st2, rfl, K4, U4, S4, L4⟩; have KS : Kept0 wc w4 := Kept.trans (by first | assumption | exact (Kept.refl _ _).drew) K4; obtain ⟨va, vc, hva⟩ := UseIs.form U4; subst hva; obtain ⟨fz4, cl4⟩ := FRZ w4 KS))
        all_goals
          go_wp2_with fail
          go_meet
          case rel =>
            have hsz : w.heap.size ≤ wc.heap.size := K3.size
            have L4' : ∀ x ∈ st2, wc.heap.size ≤ x.1 := L4
            exact ⟨st2, by simpa using U4, fun x hx => Nat.le_trans hsz (L4' x hx), w4, KS, S4, L4', rfl⟩
      case rest =>
        obtain ⟨st2, U4, L4, w4, K4, S4, L4c, rfl⟩ := hcut
        have H4 := ((H3.kept0 K4).addStats st2 S4 (fun x hx => ⟨by have := L4 x hx; omega, fun hf => by have := H3.foot_lt hf; have := L4c x hx; omega⟩)).setUse low u40 (z.us low ++ z.us high) U4
        have KA : Kept z.Foot w (w4.setCell ⟨z.ub, low, none⟩ u40) := (K3.trans (Kept.mono K4 (fun _ _ e => e.elim))).trans (Kept.setCell (p := ⟨z.ub, low, none⟩) (Kept.refl _ w4) (.inr (.inr (.inl rfl))) u40)
        obtain ⟨H5, _⟩ := H4
        have G4 : Grows w z { z with st := z.st ++ undoS z low w.heap.size b6 b7 (w.heap.size + 1) ++ st2, jv := jv', g := joinG l.length z.g low high, t := joinT l.length z.g z.t low high, uv := fun i => if i = low then u40 else z.uv i, us := fun i => if i = low then z.us low ++ z.us high else z.us i } := ⟨rfl, G3.foot, rfl, fun x hx => by
          rcases List.mem_append.1 hx with hx | hx
          · exact G3.st x hx
          · exact .inr (L4 x hx)⟩
        generalize hw5 : w4.setCell ⟨z.ub, low, none⟩ u40 = w5 at *
        clear hw5 K3c TOG stay stay2 FRZ cl fu U1 U2 H3 S4 U4 K4 L4c q3 q4 q7
        have q3 : w5.heap[w.heap.size]? = some (.cells #[.pointer (some ⟨z.pk, 0, none⟩)] 57) := H5.sat (w.heap.size, .cells #[.pointer (some ⟨z.pk, 0, none⟩)] 57) (by simp [undoS])
        have c3 : w5.cell? ⟨w.heap.size, 0, none⟩ = some (.pointer (some ⟨z.pk, 0, none⟩)) := by simp [World.cell?, q3]
        have hb5 : base ≤ w5.heap.size := by have := KA.size; omega
        obtain ⟨i0, hi0, hz0, hz1, hz2⟩ := info_parts infoStepC
        obtain ⟨ba, bc, hbv⟩ : ∃ ba bc, z.bv = .slice ba z.bs.length bc := row_form' h.back
        have A4 : ∀ O, (w5.alloc O).cell? ⟨z.pk, 4, none⟩ = some (.slice ba z.bs.length bc) := fun O => by rw [← hbv]; exact (World.rowIs.alloc H5.cls O).cell (i := 4) (by omega)
        have a4 : w5.cell? ⟨z.pk, 4, none⟩ = some (.slice ba z.bs.length bc) := by rw [← hbv]; exact H5.k4
        have OWN : ∀ O, (w5.alloc O).drew.ownsRow base 1 1 (.slice ba z.bs.length bc) z.bs.length z.bs := fun O => by rw [← hbv]; exact World.ownsRow.alloc H5.back O
        have NEW := one_newD w5 0 (undoF w.heap.size b6 b7 (w.heap.size + 1)) 1
        have KD : ∀ O, Kept0 w5 (w5.alloc O).drew := fun O => ((Kept.refl _ w5).alloc O).drew
        have PUSH := fun w1 O v' => H5.push (w1 := w1) (KD O) (undoF w.heap.size b6 b7 (w.heap.size + 1)) v'
        have hbx : w.heap.size < w5.heap.size := (Array.getElem?_eq_some_iff.1 q3).1
        have BOX : ∀ w6, Kept (fun k => z.bv.ownBlock = some k) w5 w6 → w6.cell? ⟨w.heap.size, 0, none⟩ = some (.pointer (some ⟨z.pk, 0, none⟩)) := fun w6 K6 => (World.cell?_of_block (K6.block w.heap.size hbx (fun e => nf _ (Nat.le_refl _) (.inr (.inr (.inr (.inr e))))))).trans c3
        have PUSH' : ∀ w6 O v', w6.ownsRow base 1 1 v' (z.bs.length + 1) (z.bs ++ [undoF w.heap.size b6 b7 (w.heap.size + 1)]) → (w5.alloc O).drew.grownBy w6 (Value.slice ba z.bs.length bc).ownBlock → (v'.ownBlock = (Value.slice ba z.bs.length bc).ownBlock ∨ ∀ k, v'.ownBlock = some k → (w5.alloc O).drew.heap.size ≤ k) → _ := fun w6 O v' h1 h2 h3 => PUSH w6 O v' h1 (by rw [← hbv] at h2; exact h2) (by rw [← hbv] at h3; exact h3)
        have CEL : ∀ w6 O v', w6.ownsRow base 1 1 v' (z.bs.length + 1) (z.bs ++ [.func (.func 73) #[] #[.pointer (some ⟨w.heap.size, 0, none⟩), .pointer (some ⟨b6, 0, none⟩), .pointer (some ⟨b7, 0, none⟩), .pointer (some ⟨w.heap.size + 1, 0, none⟩)]]) → (w5.alloc O).drew.grownBy w6 (Value.slice ba z.bs.length bc).ownBlock → (v'.ownBlock = (Value.slice ba z.bs.length bc).ownBlock ∨ ∀ k, v'.ownBlock = some k → (w5.alloc O).drew.heap.size ≤ k) →
            w6.cell? ⟨z.pk, 4, none⟩ = some (.slice ba z.bs.length bc) ∧ w6.frozen? ⟨z.pk, 4, none⟩ = false ∧ w6.cell? ⟨w.heap.size, 0, none⟩ = some (.pointer (some ⟨z.pk, 0, none⟩)) := fun w6 O v' h1 h2 h3 => by
          obtain ⟨_, _, _, c1, c2, P6⟩ := PUSH' w6 O v' h1 h2 h3
          exact ⟨(by rw [← hbv]; exact c1), c2, BOX w6 P6⟩
        simp only [undoF] at NEW
        have npk : w.heap.size ≠ z.pk := fun e => nf _ (Nat.le_refl _) (.inl e)
        have SW : ∀ (W : World) (v : Value), W.cell? ⟨w.heap.size, 0, none⟩ = some (.pointer (some ⟨z.pk, 0, none⟩)) → (W.setCell ⟨z.pk, 4, none⟩ v).cell? ⟨w.heap.size, 0, none⟩ = some (.pointer (some ⟨z.pk, 0, none⟩)) := fun W v hW => (World.cell?_of_block (Below.heap_setCell _ _ _ _ npk)).trans hW
        have SA : ∀ O, (w5.alloc O).drew.cell? ⟨w.heap.size, 0, none⟩ = some (.pointer (some ⟨z.pk, 0, none⟩)) := fun O => (World.cell?_of_block (Below.heap_alloc _ _ _ hbx)).trans c3
        have ALL : Hid (_ ∧ _ ∧ _) := ⟨PUSH', KA, G4⟩
        clear q3 PUSH PUSH' KA G4 BOX KD H5 K1 K2 K3 G3 h S2 nf hus O3 O4 O6 O7 R3 R4 H1 npk nU hku K huv huh
        go_wp2_with fail
        have A3 : ∀ O, (w5.alloc O).cell? ⟨w.heap.size, 0, none⟩ = some (.pointer (some ⟨z.pk, 0, none⟩)) := SA
        clear SA SW
        go_region_law (refine step_append_here rfl (.tmp 46) (.tmp 48) 69 rfl base 1 i0 _ 1 8 Tryz.underlying69 hi0 hz0 hz1 hz2 rfl (by decide) _ z.bs.length z.bs (by simp [Act.eval]; rfl) (by exact OWN _) ⟨w5.heap.size, 0, none⟩ 1 1 [.func (.func 73) #[] #[.pointer (some ⟨w.heap.size, 0, none⟩), .pointer (some ⟨b6, 0, none⟩), .pointer (some ⟨b7, 0, none⟩), .pointer (some ⟨w.heap.size + 1, 0, none⟩)]] (by simp [Act.eval]) rfl (by exact NEW) (by simp [Value.oneCell']) (by unfold maxLen; omega) (by omega) (by simp; omega) ?_; intro v' w6 hown1 hgrow hloc; obtain ⟨kp1, kf1, kc1⟩ := CEL w6 _ v' hown1 hgrow hloc; obtain ⟨b1, cap1, hv1⟩ := ownsRow_succ hown1; subst hv1; replace hown1 : Hid _ := hown1; replace hgrow : Hid _ := hgrow; replace hloc : Hid _ := hloc)
        all_goals
          go_end0
          obtain ⟨PU, KA, G4⟩ := ALL.out
          obtain ⟨P1, P2, P3, _⟩ := PU w6 _ _ hown1.out hgrow.out hloc.out
          exact ⟨rfl, w.heap.size, b6, b7, w.heap.size + 1, jv', st2, u40, _, Nat.le_refl _, by omega, by omega, by omega, L4, P1, KA.into P2 G4.foot, G4.trans P3 KA.size⟩

end Go.Proofs.YtlehlgipbhfioaaGreat
