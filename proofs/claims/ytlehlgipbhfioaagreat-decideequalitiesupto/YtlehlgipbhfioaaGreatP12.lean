/- Package decide: linkByArgs. Package decide: newProof. Package decide: steps, its state. Package decide: steps. Package decide, plainly: variables, and steps as lemmas. -/
import Derived.Test.YtlehlgipbhfioaaGreatP10
import Derived.Test.YtlehlgipbhfioaaGreatP11
namespace Go.Proofs.YtlehlgipbhfioaaGreat
open Go.RowKit Go.Maps

/-- A signature half made. -/
def sgP (g : Uf.G) (t : Tm) (i : Nat) : Tm := ⟨t.name, (List.range 4).map fun k => if k < i then (match t.args[k]? with | some a => g.lo a | none => 0) else 0⟩
theorem sgP_zero (g : Uf.G) (t : Tm) : sgP g t 0 = ⟨t.name, [0, 0, 0, 0]⟩ := rfl
theorem sgP_arg (g : Uf.G) (t : Tm) (i k : Nat) (hk : k < 4) : (sgP g t i).arg k = if k < i then (match t.args[k]? with | some a => g.lo a | none => 0) else 0 := by
  rcases (by omega : k = 0 ∨ k = 1 ∨ k = 2 ∨ k = 3) with rfl | rfl | rfl | rfl <;> rfl
theorem sgP_all (g : Uf.G) (t : Tm) : sgP g t t.args.length = ⟨t.name, sigA g t⟩ := by
  unfold sgP sigA
  congr 1
  apply List.map_congr_left
  intro k hk
  split
  · rfl
  · rw [List.getElem?_eq_none (by omega)]
theorem sgP_step (g : Uf.G) (t : Tm) (i a : Nat) (hi : i < 4) (ha : t.args[i]? = some a) : (sigL (sgP g t i)).set (1 + i) (.int .i64 (g.lo a : Int)) = sigL (sgP g t (i + 1)) := by
  have e : ∀ k, k < 4 → (sgP g t (i + 1)).arg k = if k = i then g.lo a else (sgP g t i).arg k := fun k hk => by
    rw [sgP_arg _ _ _ _ hk, sgP_arg _ _ _ _ hk]
    by_cases e : k = i
    · subst e; rw [if_pos (by omega), if_pos rfl, ha]
    · rw [if_neg e]
      by_cases h : k < i
      · rw [if_pos (by omega), if_pos h]
      · rw [if_neg (by omega), if_neg h]
  unfold sigL
  rw [e 0 (by omega), e 1 (by omega), e 2 (by omega), e 3 (by omega)]
  rcases (by omega : i = 0 ∨ i = 1 ∨ i = 2 ∨ i = 3) with rfl | rfl | rfl | rfl <;> rfl
theorem sgP_sk {g : Uf.G} {t : Tm} {n k : Nat} (hok : Uf.Ok n g k) (ht : t.ok) (hn : n ≤ 1000) (ha : ∀ a ∈ t.args, a < n) : Sk ⟨t.name, sigA g t⟩ := by
  refine ⟨⟨ht.name, by simp [sigA], fun a hm => ?_⟩, by simp [sigA]⟩
  simp only [sigA, List.mem_map, List.mem_range] at hm
  obtain ⟨i, hi, hm⟩ := hm
  cases e : t.args[i]? with
  | none => rw [e] at hm; simp at hm; omega
  | some b =>
    rw [e] at hm
    simp at hm
    have h1 := ha b (List.mem_of_getElem? e)
    have h2 := hok.lole b h1
    omega

/-- Rows of links are short. -/
def Rsh (L : List (List Nat)) (t : List Uf.Rec) : Prop := ∀ r ∈ L, r.length ≤ 2 * t.length
theorem Rsh.get {L : List (List Nat)} {t : List Uf.Rec} (h : Rsh L t) (j : Nat) : (L[j]?.getD []).length ≤ 2 * t.length := by
  cases e : L[j]? with
  | none => simp
  | some r => exact h r (List.mem_of_getElem? e)
theorem Rsh.of {L : List (List Nat)} {t : List Uf.Rec} (h : ∀ j : Nat, (L[j]?.getD []).length ≤ 2 * t.length) : Rsh L t := fun r hr => by
  obtain ⟨j, hj⟩ := List.getElem?_of_mem hr
  have := h j
  rw [hj] at this
  exact this
theorem Rsh.link {n : Nat} {g : Uf.G} {L : List (List Nat)} {t : List Uf.Rec} (h : Rsh L t) (hl : L.length = n) {a b : Nat} (ha : a < n) (hb : b < n) : Rsh (Pf.link n ⟨g, L⟩ a b).2.L (joinT n g t a b) := by
  unfold Pf.link joinT
  by_cases hj : joins n g a b = true
  · simp only [hj, if_true]
    refine Rsh.of (fun j => ?_)
    have h1 := h.get a
    have h2 := h.get b
    have h3 := h.get j
    rw [addAt_get (by unfold addAt; rw [List.length_set, hl]; exact hb), addAt_get (by rw [hl]; exact ha), addAt_get (by rw [hl]; exact ha)]
    simp only [List.length_cons]
    by_cases e1 : j = b
    · rw [if_pos e1]
      by_cases e2 : b = a
      · rw [if_pos e2]; simp; omega
      · rw [if_neg e2]; simp; omega
    · rw [if_neg e1]
      by_cases e2 : j = a
      · rw [if_pos e2]; simp; omega
      · rw [if_neg e2]; omega
  · simp only [hj]
    exact h

set_option maxRecDepth 100000 in
set_option maxHeartbeats 2000000 in
theorem linkA_in (w0 w : World) (l : List Tm) (n : Nat) (hn : n = l.length) (hn2 : n ≤ 1000) (hoks : ∀ t ∈ l, t.ok ∧ ∀ a ∈ t.args, a < n) (pb sp nb kb : Nat) (tv dv jv : Value) (g : Uf.G) (t : List Uf.Rec) (L : List (List Nat)) (lv : Nat → Value) (h : LkM w w0.heap.size pb sp nb kb tv dv jv n g t L lv) (hT : TsAt w0 tv l) (hB : Below w0.heap.size w0 w) (hR : Rsh L t) (fd : Bool) (P : Pf) (hres : lkA n 0 l [] ⟨g, L⟩ false = (fd, P)) :
    Calls Tryz.prog 139 #[.pointer (some ⟨pb, 0, none⟩)] w fun e w' => e = .returned (.bool fd) ∧ ∃ jv' t' lv', LkM w' w0.heap.size pb sp nb kb tv dv jv' n P.g t' P.L lv' ∧ Rsh P.L t' ∧ Below w0.heap.size w0 w' := by
  have hmm := @run_makeMap Tryz.prog
  obtain ⟨ta, tc, htv, _⟩ := id hT
  have x1 : w.cell? ⟨pb, 1, none⟩ = some (.slice ta l.length tc) := by rw [← htv]; exact h.cells.cell (i := 1) (by omega)
  rw [← hn] at x1
  have y1 := Lib.cell?_alloc_some (.map #[] 0) x1
  have hhb : w0.heap.size ≤ w.heap.size := hB.size
  have HI0 : Hid (LkM (w.alloc (.map #[] 0)) w0.heap.size pb sp nb kb tv dv jv n g t L lv ∧ Rsh L t ∧ SgIs (w.alloc (.map #[] 0)) w.heap.size [] ∧ Below w0.heap.size w0 (w.alloc (.map #[] 0)) ∧ lkA n 0 (l.drop 0) [] ⟨g, L⟩ false = (fd, P)) :=
    ⟨h.below ((Below.refl _ _).alloc (Nat.le_refl _) _), hR, SgIs.new w, hB.alloc hhb _, hres⟩
  have HT : Hid (TsAt w0 tv l) := hT
  have HO : Hid _ := hoks
  have HN : Hid _ := hn
  clear hT h hB hR hres hoks x1 hn
  go_enter Tryz.func139, Tryz.ntmps139
  go_wp2_with fail
  generalize w.alloc (.map #[] 0) = w1 at *
  obtain ⟨mb, hmb⟩ : ∃ m, w.heap.size = m := ⟨_, rfl⟩
  have hmbl : w0.heap.size ≤ mb := by omega
  rw [hmb] at HI0
  simp only [hmb]
  clear hmb y1 hmm
  go_loopw [3, 18] (fun t3 t18 W => ∃ (i : Nat) (f : Bool), i ≤ n ∧ t18 = .int .i64 (i : Int) ∧ t3 = .bool f ∧ Hid (∃ fm g L t jv lv, LkM W w0.heap.size pb sp nb kb tv dv jv n g t L lv ∧ Rsh L t ∧ SgIs W mb fm ∧ Below w0.heap.size w0 W ∧ lkA n i (l.drop i) fm ⟨g, L⟩ f = (fd, P) ∧ fm.length ≤ i ∧ ∀ e ∈ fm, e.2 < i)) (fun _ t18 _ => n - (intOf t18).toNat)
  case atStart =>
    obtain ⟨h1, h2, h3, h4, h5⟩ := HI0.out
    exact ⟨0, false, Nat.zero_le _, rfl, rfl, [], g, L, t, jv, lv, h1, h2, h3, h4, h5, Nat.le_refl _, by simp⟩
  case round =>
    obtain ⟨i, f, hi, rfl, rfl, HR⟩ := hrel
    clear HI0
    by_cases hlt : i < n
    · have di : decide ((i : Int) < (n : Int)) = true := decide_eq_true (by omega)
      have hwrap : IntKind.i64.wrap ((i : Int) + 1) = (i : Int) + 1 := wrap_nat1 (by omega)
      have hil : i < l.length := by rw [← HN.out]; exact hlt
      have htt := List.getElem?_eq_getElem hil
      have hokt := HO.out l[i] (List.getElem_mem hil)
      have hdrop : l.drop i = l[i] :: l.drop (i + 1) := List.drop_eq_getElem_cons hil
      generalize l[i] = T at *
      obtain ⟨fm, g, L, t, jv, lv, hM, hR, hS, hB, hlk, hfm⟩ := HR.out
      obtain ⟨tb, tof, tc', u, e1, q1, q2, q3⟩ := (HT.out.mono (Mono.below hB)).get htt
      rw [htv, ← HN.out] at e1
      simp only [Value.slice.injEq, true_and] at e1
      obtain ⟨rfl, rfl⟩ := e1
      obtain ⟨aa, ac, rfl, q4⟩ := id q3
      have HA : Hid (NsAt w0 (.slice aa T.args.length ac) T.args) := by
        obtain ⟨tb', tof', tc'', u', e1, p1, p2, p3⟩ := HT.out.get htt
        have p2' := Mono.below hB _ _ p2
        rw [htv] at e1
        simp only [Value.slice.injEq, Option.some.injEq, Addr.mk.injEq, true_and, and_true] at e1
        obtain ⟨⟨rfl, rfl⟩, rfl⟩ := e1
        rw [q2] at p2'
        cases p2'
        exact p3
      rw [hdrop] at hlk
      have ha4 := hokt.1.args
      have hz0 : w0.heap.size ≤ wr.heap.size := hB.size
      have HI1 : Hid (LkM ((wr.alloc (.cells #[.string T.name, .slice aa T.args.length ac] 102)).alloc (.cells #[.string T.name, .int .i64 0, .int .i64 0, .int .i64 0, .int .i64 0] 288)) w0.heap.size pb sp nb kb tv dv jv n g t L lv ∧ SgIs ((wr.alloc (.cells #[.string T.name, .slice aa T.args.length ac] 102)).alloc (.cells #[.string T.name, .int .i64 0, .int .i64 0, .int .i64 0, .int .i64 0] 288)) mb fm ∧ Below w0.heap.size w0 ((wr.alloc (.cells #[.string T.name, .slice aa T.args.length ac] 102)).alloc (.cells #[.string T.name, .int .i64 0, .int .i64 0, .int .i64 0, .int .i64 0] 288)) ∧ ((wr.alloc (.cells #[.string T.name, .slice aa T.args.length ac] 102)).alloc (.cells #[.string T.name, .int .i64 0, .int .i64 0, .int .i64 0, .int .i64 0] 288)).heap[wr.heap.size + 1]? = some (.cells (sigL (sgP g T 0)).toArray 288)) := by
        have hB2 : Below wr.heap.size wr ((wr.alloc (.cells #[.string T.name, .slice aa T.args.length ac] 102)).alloc (.cells #[.string T.name, .int .i64 0, .int .i64 0, .int .i64 0, .int .i64 0] 288)) := ((Below.refl _ _).alloc (Nat.le_refl _) _).alloc (by simp) _
        obtain ⟨es, ck, hes⟩ := hS.lt
        refine ⟨hM.below hB2, hS.keep (hB2.block mb (Array.getElem?_eq_some_iff.1 hes).1), hB.trans (hB2.mono hz0), ?_⟩
        have := heap_alloc_new (wr.alloc (.cells #[.string T.name, .slice aa T.args.length ac] 102)) (.cells #[.string T.name, .int .i64 0, .int .i64 0, .int .i64 0, .int .i64 0] 288)
        have hz : (wr.alloc (.cells #[.string T.name, .slice aa T.args.length ac] 102)).heap.size = wr.heap.size + 1 := by simp
        rw [hz] at this
        rw [this]
        rfl
      have HK : Hid (_ ∧ _ ∧ _) := And.intro hR (And.intro hlk hfm)
      have HOK : Hid _ := hokt
      clear hR hlk hfm hM hS hB HR q3 q4 hokt hdrop htt
      have hso : Uf.Ok n g t.length := HI1.out.1.sets.ok
      go_wp2_with fail
      obtain ⟨w2, hw2⟩ : ∃ w2, w2 = ((wr.alloc (.cells #[.string T.name, .slice aa T.args.length ac] 102)).alloc (.cells #[.string T.name, .int .i64 0, .int .i64 0, .int .i64 0, .int .i64 0] 288)) := ⟨_, rfl⟩
      rw [← hw2] at HI1 ⊢
      obtain ⟨sb, hsb⟩ : ∃ s, wr.heap.size + 1 = s := ⟨_, rfl⟩
      rw [hsb] at HI1
      simp only [hsb]
      have hsbl : w0.heap.size ≤ sb := by omega
      clear hw2 q1 q2
      go_loopw [29] (fun t29 W => ∃ (j : Nat), j ≤ T.args.length ∧ t29 = .int .i64 (j : Int) ∧ Hid (LkM W w0.heap.size pb sp nb kb tv dv jv n g t L lv ∧ SgIs W mb fm ∧ Below w0.heap.size w0 W ∧ W.heap[sb]? = some (.cells (sigL (sgP g T j)).toArray 288))) (fun t29 _ => T.args.length - (intOf t29).toNat)
      case atStart => exact ⟨0, Nat.zero_le _, rfl, HI1⟩
      case round =>
        obtain ⟨j, hj, rfl, HJ⟩ := hrel
        clear HI1
        by_cases hjl : j < T.args.length
        · have dj : decide ((j : Int) < (T.args.length : Int)) = true := decide_eq_true (by omega)
          have hwj : IntKind.i64.wrap ((j : Int) + 1) = (j : Int) + 1 := wrap_nat1 (by omega)
          obtain ⟨ab, ao, ac', e1, k1⟩ := (HA.out.mono (Mono.below HJ.out.2.2.1)).get (List.getElem?_eq_getElem hjl)
          simp only [Value.slice.injEq, true_and] at e1
          obtain ⟨rfl, rfl⟩ := e1
          have haj := List.getElem?_eq_getElem hjl
          have han := HOK.out.2 T.args[j] (List.getElem_mem hjl)
          have x0 : wr.cell? ⟨pb, 0, none⟩ = some (.pointer (some ⟨sp, 0, none⟩)) := HJ.out.1.cells.cell (i := 0) (by omega)
          generalize T.args[j] = a at *
          have LE := Least_in wr w0.heap.size sp nb n g jv _ HJ.out.1.sets.lies t.length hso a
          rw [inB_nat han, if_pos rfl, Int.toNat_natCast] at LE
          have k2 : wr.cell? ⟨sb, 1 + j, none⟩ = some (.int .i64 ((sgP g T j).arg j : Int)) := by
            have hb := HJ.out.2.2.2
            simp only [World.cell?, hb]
            rcases (by omega : j = 0 ∨ j = 1 ∨ j = 2 ∨ j = 3) with rfl | rfl | rfl | rfl <;> rfl
          have k3 : wr.frozen? ⟨sb, 1 + j, none⟩ = false := by
            have hb := HJ.out.2.2.2
            simp [World.frozen?, hb]
          go_wp2_with (first | (go_at_call 38; refine LE.mono ?_; rintro e w5 ⟨rfl, mq, rfl⟩))
          refine ⟨⟨j + 1, hjl, by simp, ?_⟩, by simp [intOf]; omega⟩
          obtain ⟨z1, z2, z3, z4⟩ := HJ.out
          have z4' : (wr.drewN mq).heap[sb]? = some (.cells (sigL (sgP g T j)).toArray 288) := z4
          have z1' : LkM (wr.drewN mq) w0.heap.size pb sp nb kb tv dv jv n g t L lv := z1.below ⟨rfl, rfl, rfl, Nat.le_refl _, fun _ _ => rfl⟩
          refine ⟨z1'.setSig z4' _ _, z2.keep ?_, (show Below w0.heap.size w0 (wr.drewN mq) from ⟨z3.os, z3.tape, z3.output, z3.size, z3.block⟩).setCell (p := ⟨sb, 1 + j, none⟩) hsbl _, ?_⟩
          · obtain ⟨es, ck, hes⟩ := z2.lt
            have hne : ¬ sb = mb := fun e => by rw [e] at z4; rw [z4] at hes; cases hes
            simp only [World.setCell]
            rw [Array.getElem?_modify, if_neg hne]
            rfl
          · rw [setCell_cells z4' (1 + j) (.int .i64 (g.lo a : Int)), sgP_step g T j a (by omega) haj]
        · have dj : decide ((j : Int) < (T.args.length : Int)) = false := decide_eq_false (by omega)
          obtain rfl : j = T.args.length := by omega
          have hz4 := HJ.out.2.2.2
          rw [sgP_all] at hz4
          have hsk : Sk ⟨T.name, sigA g T⟩ := sgP_sk hso HOK.out.1 hn2 HOK.out.2
          have LK := HJ.out.2.1.look hsk
          simp only [sigV, sigL] at LK
          have c0 : wr.cell? ⟨sb, 0, none⟩ = some (.string T.name) := by simp only [World.cell?, hz4]; rfl
          have c1 : wr.cell? ⟨sb, 1, none⟩ = some (.int .i64 ((⟨T.name, sigA g T⟩ : Tm).arg 0 : Int)) := by simp only [World.cell?, hz4]; rfl
          have c2 : wr.cell? ⟨sb, 2, none⟩ = some (.int .i64 ((⟨T.name, sigA g T⟩ : Tm).arg 1 : Int)) := by simp only [World.cell?, hz4]; rfl
          have c3 : wr.cell? ⟨sb, 3, none⟩ = some (.int .i64 ((⟨T.name, sigA g T⟩ : Tm).arg 2 : Int)) := by simp only [World.cell?, hz4]; rfl
          have c4 : wr.cell? ⟨sb, 4, none⟩ = some (.int .i64 ((⟨T.name, sigA g T⟩ : Tm).arg 3 : Int)) := by simp only [World.cell?, hz4]; rfl
          have hlk := HK.out.2.1
          rw [lkA] at hlk
          simp only at hlk
          cases hf : fstK fm (T.name, sigA g T) with
          | none =>
            rw [hf] at LK hlk
            obtain ⟨W2, r1, r2, r3⟩ := HJ.out.2.1.store hsk hf (n := i) (by omega) (by have := HK.out.2.2.1; omega)
            simp only [sigV, sigL] at r1
            have HF : Hid (LkM W2 w0.heap.size pb sp nb kb tv dv jv n g t L lv ∧ Below w0.heap.size w0 W2) := by
              obtain ⟨z1, z2, z3, z4⟩ := HJ.out
              obtain ⟨es, ck, hes⟩ := z2.lt
              have hl := z1.sets.lies
              refine ⟨z1.keep (z1.sets.other r3 (fun e => drow_map hl.sets hes e.symm) (fun e => drow_map hl.nodes hes e.symm) (fun k hk e => down_map hl.joins hes (e ▸ hk))) (r3.block _ z1.cells.lt (fun e => drow_map z1.cells hes e.symm)) (r3.block _ z1.outer.lt (fun e => drow_map z1.outer hes e.symm)) (fun j b hj hb => r3.block b (ownsRow_lt (z1.rows j hj) hb).2 (fun e => down_map (z1.rows j hj) hes (e ▸ hb))), ⟨r3.os.trans z3.os, r3.tape.trans z3.tape, r3.output.trans z3.output, Nat.le_trans z3.size r3.size, fun k hk => (r3.block k (Nat.lt_of_lt_of_le hk z3.size) (fun e => by omega)).trans (z3.block k hk)⟩⟩
            have HS2 : Hid _ := r2
            generalize (⟨T.name, sigA g T⟩ : Tm).arg 0 = v0 at *
            generalize (⟨T.name, sigA g T⟩ : Tm).arg 1 = v1 at *
            generalize (⟨T.name, sigA g T⟩ : Tm).arg 2 = v2 at *
            generalize (⟨T.name, sigA g T⟩ : Tm).arg 3 = v3 at *
            have HLK : Hid _ := hlk
            clear r2 r3 hz4 hlk HJ hsk
            go_wp2_with fail
            refine ⟨⟨i + 1, f, hlt, by simp, rfl, ?_⟩, by simp [intOf]; omega⟩
            refine ⟨_, g, L, t, jv, lv, HF.out.1, HK.out.1, HS2.out, HF.out.2, HLK.out, ?_, fun e he => ?_⟩
            · have := HK.out.2.2.1
              simp
              exact this
            · rcases List.mem_append.1 he with he | he
              · exact Nat.lt_succ_of_lt (HK.out.2.2.2 e he)
              · simp at he
                subst he
                exact Nat.lt_succ_self i
          | some q =>
            rw [hf] at LK hlk
            simp only at hlk
            have hqi : q < i := by
              have := fstK_some hf
              exact HK.out.2.2.2 _ this
            have hrl : ∀ r ∈ L, r.length ≤ 1048576 := fun r hr => by
              have h1 := HK.out.1 r hr
              have h2 := hso.num
              omega
            have LI := link_in wr w0.heap.size pb sp nb kb tv dv jv n g t L lv HJ.out.1 q i (by omega) hlt hrl
            have HS2 : Hid (∀ W2, MapsStay wr W2 → SgIs W2 mb fm) := fun W2 hms => by
              obtain ⟨es, ck, hes⟩ := HJ.out.2.1.lt
              exact HJ.out.2.1.keep ((hms mb es ck hes).trans hes.symm)
            have HRL : Hid (Rsh (Pf.link n ⟨g, L⟩ q i).2.L (joinT n g t q i)) := HK.out.1.link HJ.out.1.len (by omega) hlt
            have HB2 : Hid (Below w0.heap.size w0 wr) := HJ.out.2.2.1
            generalize (⟨T.name, sigA g T⟩ : Tm).arg 0 = v0 at *
            generalize (⟨T.name, sigA g T⟩ : Tm).arg 1 = v1 at *
            generalize (⟨T.name, sigA g T⟩ : Tm).arg 2 = v2 at *
            generalize (⟨T.name, sigA g T⟩ : Tm).arg 3 = v3 at *
            have HLK : Hid _ := hlk
            simp only [Option.getD_some, Option.isSome_some] at LK
            cases hb : (Pf.link n ⟨g, L⟩ q i).1
            · rw [hb] at LI HLK
              clear hz4 hlk HJ hsk hrl hb hf
              go_wp2_with (first | (go_at_call 138; refine LI.mono ?_; rintro e w5 ⟨rfl, jv', lv', hM5, hB5, hS5⟩; have HF : Hid (_ ∧ _ ∧ _) := And.intro hM5 (And.intro hB5 hS5)))
              refine ⟨⟨i + 1, f, hlt, by simp, rfl, ?_⟩, by simp [intOf]; omega⟩
              refine ⟨fm, _, _, _, _, _, HF.out.1, HRL.out, HS2.out _ HF.out.2.2, HB2.out.trans HF.out.2.1, ?_, Nat.le_succ_of_le HK.out.2.2.1, fun e he => Nat.lt_succ_of_lt (HK.out.2.2.2 e he)⟩
              have := HLK.out
              rw [Bool.or_false] at this
              exact this
            · rw [hb] at LI HLK
              clear hz4 hlk HJ hsk hrl hb hf
              go_wp2_with (first | (go_at_call 138; refine LI.mono ?_; rintro e w5 ⟨rfl, jv', lv', hM5, hB5, hS5⟩; have HF : Hid (_ ∧ _ ∧ _) := And.intro hM5 (And.intro hB5 hS5)))
              refine ⟨⟨i + 1, true, hlt, by simp, rfl, ?_⟩, by simp [intOf]; omega⟩
              refine ⟨fm, _, _, _, _, _, HF.out.1, HRL.out, HS2.out _ HF.out.2.2, HB2.out.trans HF.out.2.1, ?_, Nat.le_succ_of_le HK.out.2.2.1, fun e he => Nat.lt_succ_of_lt (HK.out.2.2.2 e he)⟩
              have := HLK.out
              rw [Bool.or_true] at this
              exact this
    · have di : decide ((i : Int) < (n : Int)) = false := decide_eq_false (by omega)
      obtain rfl : i = n := by omega
      have HF : Hid (f = fd ∧ ∃ jv' t' lv', LkM wr w0.heap.size pb sp nb kb tv dv jv' i P.g t' P.L lv' ∧ Rsh P.L t' ∧ Below w0.heap.size w0 wr) := by
        obtain ⟨fm, g, L, t, jv, lv, h1, h2, h3, h4, h5, h6⟩ := HR.out
        rw [HN.out, List.drop_length, lkA] at h5
        cases h5
        exact ⟨rfl, jv, t, lv, h1, h2, h4⟩
      have hff := HF.out.1
      subst hff
      clear HR
      go_wp2_with fail
      go_ret
      obtain ⟨_, jv', t', lv', h1, h2, h3⟩ := HF.out
      rw [htv] at h1
      exact ⟨rfl, jv', t', ⟨lv', h1⟩, h2, h3⟩
end Go.Proofs.YtlehlgipbhfioaaGreat

namespace Go.Proofs.YtlehlgipbhfioaaGreat
open Go.RowKit Go.Maps

theorem infoIntsq : (Tryz.prog.info? 39).map (fun i => (i.zero, i.size, i.bytes)) = some (some (.slice none 0 0), 1, 24) := by kernel_rfl
theorem make_rowsq (w : World) (n : Nat) (hn : n ≤ 1048577) : (Instr.makeSlice 116 (.int .i64 (n : Int)) (.int .i64 (n : Int))).run Tryz.prog w = .ok (.slice (some ⟨w.heap.size, 0, none⟩) n n) (w.alloc (.cells (List.replicate n (.slice none 0 0)).toArray 39)) := by
  obtain ⟨i0, hi0, hz0, hz1, hz2⟩ := info_parts infoIntsq
  have hmk := run_make (P := Tryz.prog) w 116 39 i0 _ Tryz.underlying116 hi0 hz0 .i64 .i64 (n : Int) (n : Int) (by omega) (Int.le_refl _) (by rw [hz2]; omega) (by omega)
  rw [hz1] at hmk
  simp only [Int.toNat_natCast, Nat.mul_one] at hmk
  rw [← madeCells_one]
  exact hmk
theorem rows_made (w : World) (n : Nat) : (w.alloc (.cells (List.replicate n (Value.slice none 0 0)).toArray 39)).rowIs w.heap.size 39 n (fun _ => .slice none 0 0) := by
  refine ⟨_, heap_alloc_new _ _, by simp, fun i hi => ?_⟩
  simp [hi]
theorem St.lower {w : World} {base base' p nb n : Nat} {jv : Value} {g : Uf.G} {t : List Uf.Rec} (h : St w base p nb jv n g t) (hb : base' ≤ base) : St w base' p nb jv n g t := by
  obtain ⟨⟨h1, h2, h3, h4, h5, h6, h7, h8, h9⟩, hh, hl⟩ := h
  refine ⟨⟨h1, h2, ⟨h3.1, ?_⟩, h4, h5, h6, Nat.le_trans hb h7, Nat.le_trans hb h8, h9⟩, hh, Nat.le_trans hb hl⟩
  rcases h3.2 with e | ⟨g, cap, cur, e, e1, e2, e3⟩
  · exact Or.inl e
  · exact Or.inr ⟨g, cap, cur, e, Nat.le_trans hb e1, e2, e3⟩
theorem LkM.start {W : World} {B sp nb kb n : Nat} {tv dv : Value} (hs : St W B sp nb (.slice none 0 0) n Uf.g0 []) (hk : W.rowIs kb 39 n (fun _ => .slice none 0 0)) (hb : B ≤ kb) (hB : B ≤ W.heap.size) :
    LkM (W.alloc (.cells #[.pointer (some ⟨sp, 0, none⟩), tv, dv, .slice (some ⟨kb, 0, none⟩) n n] 246)) B W.heap.size sp nb kb tv dv (.slice none 0 0) n Uf.g0 [] (List.replicate n []) (fun _ => .slice none 0 0) := by
  have hbl : Below W.heap.size W (W.alloc (.cells #[.pointer (some ⟨sp, 0, none⟩), tv, dv, .slice (some ⟨kb, 0, none⟩) n n] 246)) := (Below.refl _ _).alloc (Nat.le_refl _) _
  refine ⟨(made_row W #[.pointer (some ⟨sp, 0, none⟩), tv, dv, .slice (some ⟨kb, 0, none⟩) n n] 246).congr (fun j hj => ?_), hs.other (S := fun _ => False) ⟨hbl.os, hbl.tape, hbl.output, hbl.size, fun k hk _ => hbl.block k hk⟩ id id (fun _ _ => id), hk.of_block (hbl.block _ hk.lt), fun j hj => ?_, fun i j b _ _ h => by simp [Value.ownBlock] at h, by simp, hB, hb⟩
  · have : j = 0 ∨ j = 1 ∨ j = 2 ∨ j = 3 := by simp at hj; omega
    rcases this with rfl | rfl | rfl | rfl <;> rfl
  · rw [List.getElem?_replicate, if_pos hj]
    exact World.ownsRow_nil _ _ _ _

theorem start1 {w w5 : World} {n : Nat} {tv dv : Value} (hM : St w5 w.heap.size (w.heap.size + 1) w.heap.size (.slice none 0 0) n Uf.g0 []) (hB : Below w.heap.size w.drew w5) :
    ∃ pb sp nb kb, Value.pointer (some ⟨w5.heap.size + 1, 0, none⟩) = .pointer (some ⟨pb, 0, none⟩) ∧ LkM ((w5.alloc (.cells (Array.replicate n (Value.slice none 0 0)) 39)).alloc (.cells #[.pointer (some ⟨w.heap.size + 1, 0, none⟩), tv, dv, .slice (some ⟨w5.heap.size, 0, none⟩) n n] 246)) w.heap.size pb sp nb kb tv dv (.slice none 0 0) n Uf.g0 [] (List.replicate n []) (fun _ => .slice none 0 0) ∧ Below w.heap.size w ((w5.alloc (.cells (Array.replicate n (Value.slice none 0 0)) 39)).alloc (.cells #[.pointer (some ⟨w.heap.size + 1, 0, none⟩), tv, dv, .slice (some ⟨w5.heap.size, 0, none⟩) n n] 246)) := by
  have e : (List.replicate n (Value.slice none 0 0)).toArray = Array.replicate n (Value.slice none 0 0) := by simp
  have hr := rows_made w5 n
  rw [e] at hr
  have hz := hB.size
  have hz' : w.heap.size ≤ w5.heap.size := hz
  have h1 := LkM.start (tv := tv) (dv := dv) (W := w5.alloc (.cells (Array.replicate n (Value.slice none 0 0)) 39)) (B := w.heap.size) (hM.other (S := fun _ => False) ((Kept.refl _ _).alloc _) id id (fun _ _ => id)) hr hz' (by simp; omega)
  have hs : (w5.alloc (.cells (Array.replicate n (Value.slice none 0 0)) 39)).heap.size = w5.heap.size + 1 := by simp
  rw [hs] at h1
  exact ⟨_, _, _, _, rfl, h1, ((show Below w.heap.size w w5 from ⟨hB.os, hB.tape, hB.output, hB.size, hB.block⟩).alloc hz' _).alloc (by rw [hs]; omega) _⟩
theorem start2 {w w5 : World} {n : Nat} {tv dv : Value} (hM : St w5 (w.heap.size + 1) (w.heap.size + 1 + 1) (w.heap.size + 1) (.slice none 0 0) n Uf.g0 []) (hB : Below (w.heap.size + 1) (w.alloc (.cells (Array.replicate n (Value.slice none 0 0)) 39)).drew w5) :
    ∃ pb sp nb kb, Value.pointer (some ⟨w5.heap.size, 0, none⟩) = .pointer (some ⟨pb, 0, none⟩) ∧ LkM (w5.alloc (.cells #[.pointer (some ⟨w.heap.size + 1 + 1, 0, none⟩), tv, dv, .slice (some ⟨w.heap.size, 0, none⟩) n n] 246)) w.heap.size pb sp nb kb tv dv (.slice none 0 0) n Uf.g0 [] (List.replicate n []) (fun _ => .slice none 0 0) ∧ Below w.heap.size w (w5.alloc (.cells #[.pointer (some ⟨w.heap.size + 1 + 1, 0, none⟩), tv, dv, .slice (some ⟨w.heap.size, 0, none⟩) n n] 246)) := by
  have e : (List.replicate n (Value.slice none 0 0)).toArray = Array.replicate n (Value.slice none 0 0) := by simp
  have hr := rows_made w n
  rw [e] at hr
  have hz := hB.size
  have hs : (w.alloc (.cells (Array.replicate n (Value.slice none 0 0)) 39)).drew.heap.size = w.heap.size + 1 := by simp
  rw [hs] at hz
  have h1 := LkM.start (tv := tv) (dv := dv) (W := w5) (B := w.heap.size) (hM.lower (Nat.le_succ _)) (hr.of_block (hB.block _ (Nat.lt_succ_self _))) (Nat.le_refl _) (by omega)
  refine ⟨_, _, _, _, rfl, h1, Below.alloc ?_ (by omega) _⟩
  exact (show Below w.heap.size w (w.alloc (.cells (Array.replicate n (Value.slice none 0 0)) 39)).drew from below_ad w _).trans (hB.mono (Nat.le_succ _))

set_option maxRecDepth 100000 in
set_option maxHeartbeats 2000000 in
theorem newProof_in (w : World) (l : List Tm) (hn2 : l.length ≤ 1000) (hoks : ∀ t ∈ l, t.ok ∧ ∀ a ∈ t.args, a < l.length) (ta : Option Addr) (tc : Nat) (hT : TsAt w (.slice ta l.length tc) l) (da : Option Addr) (dc : Nat) (told : List Pr) (hD : PsAt w (.slice da told.length dc) told) (htd : told.length ≤ 1048576) (htl : ∀ a ∈ told, a.1 < l.length ∧ a.2 < l.length) (P : Pf) (hP : proofN l told = some P) :
    Calls Tryz.prog 92 #[.slice ta l.length tc, .slice da told.length dc] w fun e w' => ∃ pb sp nb kb jv t lv, e = .returned (.pointer (some ⟨pb, 0, none⟩)) ∧ LkM w' w.heap.size pb sp nb kb (.slice ta l.length tc) (.slice da told.length dc) jv l.length P.g t P.L lv ∧ Rsh P.L t ∧ Below w.heap.size w w' := by
  have N : ∀ W, _ := fun W => New_st W l.length (by omega)
  have m1 : ∀ W, _ := fun W => make_rowsq W l.length (by omega)
  obtain ⟨n, hn⟩ : ∃ n, l.length = n := ⟨_, rfl⟩
  have HN : Hid _ := hn
  have HT : Hid _ := hT
  have HD : Hid _ := hD
  have HO : Hid _ := hoks
  have HL : Hid _ := htl
  have HP : Hid _ := hP
  rw [hn] at N m1 hn2 ⊢
  clear hT hD hoks htl hP hn
  go_enter Tryz.func92, Tryz.ntmps92
  go_wp2_with fail
  go_cut [5] from 8 to 17 (fun t5 wx => ∃ pb sp nb kb, t5 = .pointer (some ⟨pb, 0, none⟩) ∧ LkM wx w.heap.size pb sp nb kb (.slice ta n tc) (.slice da told.length dc) (.slice none 0 0) n Uf.g0 [] (List.replicate n []) (fun _ => .slice none 0 0) ∧ Below w.heap.size w wx)
  case first =>
    go_region_law (first | (go_simp; go_at_call 32; refine (N _).mono ?_; rintro e w5 ⟨rfl, hM5, hB5⟩))
    all_goals
      try simp only [Act.put, List.getElem_toArray, List.getElem_cons_succ, List.getElem_cons_zero, List.setIfInBounds_toArray, List.set_cons_succ, List.set_cons_zero]
      go_wp2_with fail
      go_meet
      case rel =>
        first
        | exact start1 hM5 hB5
        | (have hs : (w.alloc (.cells (Array.replicate n (Value.slice none 0 0)) 39)).drew.heap.size = w.heap.size + 1 := by simp
           rw [hs] at hM5 hB5
           exact start2 hM5 hB5)
  case rest =>
    obtain ⟨pb, sp, nb, kb, rfl, M1, B1⟩ := hcut
    have HM1 : Hid (_ ∧ _) := And.intro M1 B1
    clear M1 B1 N m1
    have HM2 : Hid (∃ g t L jv lv, LkM wc w.heap.size pb sp nb kb (.slice ta n tc) (.slice da told.length dc) jv n g t L lv ∧ Rsh L t ∧ Below w.heap.size w wc ∧ lkN l (n + 2) (Pf.tell n (told.drop 0) ⟨g, L⟩) = some P) := by
      refine ⟨_, _, _, _, _, HM1.out.1, fun r hr => ?_, HM1.out.2, ?_⟩
      · rw [List.mem_replicate] at hr
        rw [hr.2]
        exact Nat.zero_le _
      · have := HP.out
        unfold proofN at this
        rw [HN.out] at this
        exact this
    clear HM1
    go_wp2_with fail
    obtain ⟨dn, hdn⟩ : ∃ d, told.length = d := ⟨_, rfl⟩
    have HDN : Hid _ := hdn
    rw [hdn] at HM2 htd ⊢
    clear hdn
    go_loopw [20] (fun t20 W => ∃ (i : Nat), i ≤ dn ∧ t20 = .int .i64 (i : Int) ∧ Hid (∃ g t L jv lv, LkM W w.heap.size pb sp nb kb (.slice ta n tc) (.slice da dn dc) jv n g t L lv ∧ Rsh L t ∧ Below w.heap.size w W ∧ lkN l (n + 2) (Pf.tell n (told.drop i) ⟨g, L⟩) = some P)) (fun t20 _ => dn - (intOf t20).toNat)
    case atStart => exact ⟨0, Nat.zero_le _, rfl, HM2⟩
    case round =>
      obtain ⟨i, hi, rfl, HR⟩ := hrel
      clear HM2
      by_cases hlt : i < dn
      · have di : decide ((i : Int) < (dn : Int)) = true := decide_eq_true (by omega)
        have hwrap : IntKind.i64.wrap ((i : Int) + 1) = (i : Int) + 1 := wrap_nat1 (by omega)
        have hil : i < told.length := by rw [HDN.out]; exact hlt
        obtain ⟨g, t, L, jv, lv, hM, hR, hB, hlk⟩ := HR.out
        have hdrop : told.drop i = told[i] :: told.drop (i + 1) := List.drop_eq_getElem_cons hil
        rw [hdrop, Pf.tell] at hlk
        obtain ⟨a1, a2⟩ := HL.out _ (List.getElem_mem hil)
        obtain ⟨b, off, hda, q1, q2⟩ : ∃ b off, da = some ⟨b, off, none⟩ ∧ wr.cell? ⟨b, off + i * 2, none⟩ = some (.int .i64 (told[i].1 : Int)) ∧ wr.cell? ⟨b, off + i * 2 + 1, none⟩ = some (.int .i64 (told[i].2 : Int)) := by
          obtain ⟨a, c, e, hp⟩ := (show PsAt w (.slice da told.length dc) told from HD.out).mono (Mono.below hB)
          simp only [Value.slice.injEq, true_and] at e
          obtain ⟨rfl, rfl⟩ := e
          rcases hp with e | ⟨b, off, rfl, hp⟩
          · rw [e] at hil; simp at hil
          · exact ⟨b, off, rfl, hp i _ (List.getElem?_eq_getElem hil)⟩
        subst hda
        rw [HN.out] at a1 a2
        have hso : Uf.Ok n g t.length := hM.sets.ok
        have hrl : ∀ r ∈ L, r.length ≤ 1048576 := fun r hr => by
          have h1 := hR r hr
          have h2 := hso.num
          omega
        have hbx : Below wr.heap.size wr (wr.alloc (.cells #[.int .i64 (told[i].1 : Int), .int .i64 (told[i].2 : Int)] 34)) := (Below.refl _ _).alloc (Nat.le_refl _) _
        have LI := link_in (wr.alloc (.cells #[.int .i64 (told[i].1 : Int), .int .i64 (told[i].2 : Int)] 34)) w.heap.size pb sp nb kb _ _ jv n g t L lv (hM.below hbx) told[i].1 told[i].2 a1 a2 hrl
        have HF : Hid (Rsh (Pf.link n ⟨g, L⟩ told[i].1 told[i].2).2.L (joinT n g t told[i].1 told[i].2) ∧ Below w.heap.size w (wr.alloc (.cells #[.int .i64 (told[i].1 : Int), .int .i64 (told[i].2 : Int)] 34)) ∧ lkN l (n + 2) (Pf.tell n (told.drop (i + 1)) (Pf.link n ⟨g, L⟩ told[i].1 told[i].2).2) = some P) := ⟨hR.link hM.len a1 a2, hB.alloc hB.size _, hlk⟩
        clear hlk hR hM hB hrl HR hdrop hbx
        generalize told[i] = p at *
        go_wp2_with (first | (go_at_call 138; refine LI.mono ?_; rintro e w5 ⟨rfl, jv', lv', hM5, hB5, hS5⟩; have HG : Hid (_ ∧ _) := And.intro hM5 hB5))
        refine ⟨⟨i + 1, hlt, by simp, ?_⟩, by simp [intOf]; omega⟩
        exact ⟨_, _, _, _, _, HG.out.1, HF.out.1, HF.out.2.1.trans HG.out.2, HF.out.2.2⟩
      · have di : decide ((i : Int) < (dn : Int)) = false := decide_eq_false (by omega)
        obtain rfl : i = dn := by omega
        have HM3 : Hid (∃ g t L jv lv, LkM wr w.heap.size pb sp nb kb (.slice ta n tc) (.slice da i dc) jv n g t L lv ∧ Rsh L t ∧ Below w.heap.size w wr ∧ lkN l (n + 2) ⟨g, L⟩ = some P) := by
          obtain ⟨g, t, L, jv, lv, hM, hR, hB, hlk⟩ := HR.out
          rw [← HDN.out, List.drop_length, Pf.tell] at hlk
          exact ⟨g, t, L, jv, lv, hM, hR, hB, hlk⟩
        clear HR
        go_wp2_with fail
        go_loopg [31] (n + 2) (fun k _ W => Hid (∃ g t L jv lv, LkM W w.heap.size pb sp nb kb (.slice ta n tc) (.slice da i dc) jv n g t L lv ∧ Rsh L t ∧ Below w.heap.size w W ∧ lkN l k ⟨g, L⟩ = some P))
        case atStart => exact HM3
        case round =>
          clear HM3
          obtain ⟨g, t, L, jv, lv, hM, hR, hB, hlk⟩ := hrel.out
          cases gk with
          | zero => exact absurd hlk (by simp [lkN])
          | succ k =>
          rw [lkN] at hlk
          have hT2 : TsAt w (.slice ta n tc) l := by rw [← HN.out]; exact HT.out
          have hO2 : ∀ t ∈ l, t.ok ∧ ∀ a ∈ t.args, a < n := by rw [← HN.out]; exact HO.out
          cases hres : lkA l.length 0 l [] ⟨g, L⟩ false with
          | mk fd P' =>
          rw [hres] at hlk
          have LA := linkA_in w wr l n HN.out.symm hn2 hO2 pb sp nb kb _ _ jv g t L lv hM hT2 hB hR fd P' (by rw [← HN.out]; exact hres)
          cases fd
          · simp only [Bool.false_eq_true, if_false, Option.some.injEq] at hlk
            subst hlk
            clear hres hM hR hB hT2 hO2 hrel
            go_wp2_with (first | (go_at_call 139; refine LA.mono ?_; rintro e w5 ⟨rfl, jv', t', lv', hM5, hR5, hB5⟩; have HG : Hid (_ ∧ _ ∧ _) := And.intro hM5 (And.intro hR5 hB5)))
            go_ret
            have HG1 := HG.out.1
            rw [← HDN.out] at HG1
            exact ⟨pb, sp, nb, kb, jv', t', lv', rfl, HG1, HG.out.2.1, HG.out.2.2⟩
          · simp only [if_true] at hlk
            have HLK : Hid _ := hlk
            clear hres hM hR hB hT2 hO2 hrel hlk
            go_wp2_with (first | (go_at_call 139; refine LA.mono ?_; rintro e w5 ⟨rfl, jv', t', lv', hM5, hR5, hB5⟩; have HG : Hid (_ ∧ _ ∧ _) := And.intro hM5 (And.intro hR5 hB5)))
            go_roundg k
            case measure => omega
            case rel => exact ⟨P'.g, t', P'.L, jv', lv', HG.out.1, HG.out.2.1, HG.out.2.2, HLK.out⟩
end Go.Proofs.YtlehlgipbhfioaaGreat

namespace Go.Proofs.YtlehlgipbhfioaaGreat
open Go.RowKit Go.Maps

theorem run_copy_none2 {P : Program} (w : World) (dT sT ty elem : TypeId) (d a : Option Addr) (dLen dCap sLen sCap : Nat) (hu : P.underlying dT = some (.slice elem)) (hs : (P.info? elem).map (·.size) = some 2) (hn : Nat.min sLen dLen = 0) :
    (Builtin.copy_ #[dT, sT] ty #[.slice d dLen dCap, .slice a sLen sCap]).run P w = .ok (goInt 0) w := by
  cases hq : P.info? elem with
  | none => simp [hq] at hs
  | some i =>
    have hl : ∀ (x : Addr), (loadCells x 0).run P w = .ok #[] w := fun x => by simpa using run_loadCells_list (P := P) w x [] (by simp)
    cases d <;> cases a <;> simp [Builtin.copy_, run_underlying hu, Builtin.lenOf, Builtin.firstCells, sizeOf, typeInfo, hq, hn, storeCells, hl]

set_option maxRecDepth 100000 in
set_option maxHeartbeats 400000 in
theorem newStep0_in (w : World) (c : Pr) (pa : Option Addr) (pc : Nat) : Calls Tryz.prog 142 #[.agg #[.int .i64 (c.1 : Int), .int .i64 (c.2 : Int)], .slice pa 0 pc] w fun e w' => e = .returned (.agg (stpV c []).toArray) ∧ Below w.heap.size w w' := by
  have CP : ∀ (W : World) (d : Option Addr), (Builtin.copy_ #[109, 109] 3 #[.slice d 4 4, .slice pa 0 pc]).run Tryz.prog W = .ok (goInt 0) W := fun W d => run_copy_none2 W _ _ _ 34 d pa 4 4 0 pc Tryz.underlying109 infoPq2 rfl
  go_enter Tryz.func142, Tryz.ntmps142
  go_wp2_with fail
  refine ⟨rfl, .agg #[.int .i64 (c.1 : Int), .int .i64 (c.2 : Int), .int .i64 0, .int .i64 0, .int .i64 0, .int .i64 0, .int .i64 0, .int .i64 0, .int .i64 0, .int .i64 0], by simp [results, Tryz.results142, go_sem], rfl, ?_⟩
  exact (((Below.refl w.heap.size w).alloc (Nat.le_refl _) _).alloc (by simp) _).alloc (by simp; omega) _

theorem newStep_all (w : World) (c : Pr) (pa : Option Addr) (pc : Nat) (ps : List Pr) (hp : PsAt w (.slice pa ps.length pc) ps) (h4 : ps.length ≤ 4) : Calls Tryz.prog 142 #[.agg #[.int .i64 (c.1 : Int), .int .i64 (c.2 : Int)], .slice pa ps.length pc] w fun e w' => e = .returned (.agg (stpV c ps).toArray) ∧ Below w.heap.size w w' := by
  by_cases h : ps = []
  · subst h
    exact newStep0_in w c pa pc
  · exact newStep_in w c pa pc ps hp ⟨by cases ps with | nil => exact absurd rfl h | cons a r => simp, h4⟩

def stRow (S : List Stq) : List Value := S.flatMap fun s => stpV s.1 s.2
theorem stRow_app (S T : List Stq) : stRow (S ++ T) = stRow S ++ stRow T := by simp [stRow]
theorem pad4c_len (ps : List Pr) : (pad4c ps).length = 4 := by simp [pad4c]
theorem stpV_len (c : Pr) (ps : List Pr) : (stpV c ps).length = 10 := by simp [stpV, rowP_len, pad4c_len, enP]
theorem stpV_one (c : Pr) (ps : List Pr) : ∀ u ∈ stpV c ps, u.oneCell' = true := fun u hu => by
  simp only [stpV, rowP, List.mem_append, List.mem_flatMap, enP] at hu
  rcases hu with hu | ⟨p, _, hu⟩ <;> simp at hu <;> rcases hu with rfl | rfl <;> rfl
theorem infoStq : (Tryz.prog.info? 206).map (fun i => (i.zero, i.size, i.bytes)) = some (some (.agg #[.int .i64 0, .int .i64 0, .int .i64 0, .int .i64 0, .int .i64 0, .int .i64 0, .int .i64 0, .int .i64 0, .int .i64 0, .int .i64 0]), 10, 80) := by kernel_rfl

/-- steps on its way. -/
structure StR (w W : World) (S : List Stq) (G : List Pr) (sv gv : Value) : Prop where
  srow : W.ownsRow w.heap.size 206 10 sv S.length (stRow S)
  grow : W.ownsRow w.heap.size 34 2 gv G.length (rowP G)
  below : Below w.heap.size w W
theorem StR.under {w W W' : World} {S : List Stq} {G : List Pr} {sv gv : Value} (h : StR w W S G sv gv) (hB : Below W.heap.size W W') : StR w W' S G sv gv :=
  ⟨ownsRow_below h.srow hB, ownsRow_below h.grow hB, h.below.trans (hB.mono h.below.size)⟩
theorem StR.pushS {w W W1 w8 : World} {S : List Stq} {G : List Pr} {sv gv v8 : Value} (h : StR w W S G sv gv) (hB : Below W.heap.size W W1) {c : Pr} {ps : List Pr} (hown : w8.ownsRow w.heap.size 206 10 v8 (S.length + 1) (stRow S ++ stpV c ps)) (hgrow : W1.grownBy w8 sv.ownBlock) : StR w w8 (S ++ [(c, ps)]) G v8 gv := by
  have h1 := h.under hB
  refine ⟨?_, ownsRow_blk h1.grow (fun b hb => hgrow.block b (ownsRow_lt h1.grow hb).2 (fun e => ownsRow_ne2 h1.grow h1.srow (by decide) hb e.symm)), ?_⟩
  · rw [List.length_append, stRow_app]
    simpa [stRow] using hown
  · exact ⟨hgrow.os.trans h1.below.os, hgrow.tape.trans h1.below.tape, hgrow.output.trans h1.below.output, Nat.le_trans h1.below.size hgrow.size, fun k hk => (hgrow.block k (Nat.lt_of_lt_of_le hk h1.below.size) (fun e => by have := (ownsRow_lt h1.srow e.symm).1; omega)).trans (h1.below.block k hk)⟩
theorem StR.addG {w W W' : World} {S : List Stq} {G G' : List Pr} {sv gv gv' : Value} (h : StR w W S G sv gv) (hr : Row1 w.heap.size 34 2 W gv W' gv' G'.length (rowP G')) : StR w W' S G' sv gv' := by
  refine ⟨ownsRow_blk h.srow (fun b hb => hr.kept.block b (ownsRow_lt h.srow hb).2 (fun e => ownsRow_ne2 h.srow h.grow (by decide) hb e)), hr.row, ?_⟩
  exact ⟨hr.kept.os.trans h.below.os, hr.kept.tape.trans h.below.tape, hr.kept.output.trans h.below.output, Nat.le_trans h.below.size hr.kept.size, fun k hk => (hr.kept.block k (Nat.lt_of_lt_of_le hk h.below.size) (fun e => by have := (ownsRow_lt h.grow e).1; omega)).trans (h.below.block k hk)⟩

end Go.Proofs.YtlehlgipbhfioaaGreat

namespace Go.Proofs.YtlehlgipbhfioaaGreat
open Go.RowKit Go.Maps

theorem below2 {A B C : World} (h : Below A.heap.size A B) (k : Below B.heap.size B C) : Below A.heap.size A C := h.trans (k.mono h.size)
theorem below_drw (A : World) : Below A.heap.size A A.drew := ⟨rfl, rfl, rfl, Nat.le_refl _, fun _ _ => rfl⟩
theorem below_of_drw {A B : World} (h : Below A.drew.heap.size A.drew B) : Below A.heap.size A B := ⟨h.os, h.tape, h.output, h.size, h.block⟩

theorem row_low {w : World} {B B' : Nat} {e : TypeId} {k n : Nat} {v : Value} {xs : List Value} (h : w.ownsRow B e k v n xs) (hb : B' ≤ B) : w.ownsRow B' e k v n xs := by
  refine ⟨h.1, ?_⟩
  rcases h.2 with x | ⟨b, cap, cur, e1, e2, e3⟩
  · exact Or.inl x
  · exact Or.inr ⟨b, cap, cur, e1, Nat.le_trans hb e2, e3⟩
theorem wrap_nat2q {a : Nat} (h : a ≤ 1048576) : IntKind.i64.wrap ((a : Int) + 1 + 1) = (a : Int) + 1 + 1 := by rw [IntKind.wrap_i64]; omega
theorem cast_nn1 (a : Nat) : (0 : Int) ≤ (a : Int) + 1 := by omega
theorem cast_nn (a : Nat) : (0 : Int) ≤ (a : Int) := by omega
theorem box_if {X w5 : World} (hB : Below X.heap.size X w5) (b k : Nat) (h : b < X.heap.size) : w5.cell? ⟨b, k, none⟩ = X.cell? ⟨b, k, none⟩ ∧ w5.frozen? ⟨b, k, none⟩ = X.frozen? ⟨b, k, none⟩ := ⟨World.cell?_of_block (a := ⟨b, k, none⟩) (hB.block b h), World.frozen?_of_block (a := ⟨b, k, none⟩) (hB.block b h)⟩
theorem NsAt.of_rowI {W : World} {base : Nat} {v : Value} {p : List Nat} (h : W.ownsRow base 3 1 v p.length (p.map i64)) : NsAt W v p := by
  rcases h.2 with ⟨e, h0⟩ | ⟨b, cap, cur, e, _⟩
  · refine ⟨none, 0, by rw [e, h0], Or.inl (by rw [List.length_eq_zero_iff.1 h0]; rfl)⟩
  · refine ⟨_, cap, e, Or.inr ⟨b, 0, rfl, fun j c hj => ?_⟩⟩
    have := h.cells (g := b) (by rw [e]; rfl) j (.int .i64 c) (by rw [List.getElem?_map] at hj ⊢; cases hq : p[j]? with | none => rw [hq] at hj; simp at hj | some y => rw [hq] at hj; simp at hj; subst hj; rfl)
    rw [Addr.add_lit] at this
    exact this
/-- steps on its way along a path. -/
structure StP (w W : World) (S : List Stq) (G : List Pr) (sv gv pv : Value) (p : List Nat) : Prop where
  st : StR w W S G sv gv
  prow : W.ownsRow w.heap.size 3 1 pv p.length (p.map i64)
theorem StP.under {w W W' : World} {S : List Stq} {G : List Pr} {sv gv pv : Value} {p : List Nat} (h : StP w W S G sv gv pv p) (hB : Below W.heap.size W W') : StP w W' S G sv gv pv p := ⟨h.st.under hB, ownsRow_below h.prow hB⟩
theorem StP.pushS {w W W1 w8 : World} {S : List Stq} {G : List Pr} {sv gv v8 pv : Value} {p : List Nat} (h : StP w W S G sv gv pv p) (hB : Below W.heap.size W W1) {c : Pr} {ps : List Pr} (hown : w8.ownsRow w.heap.size 206 10 v8 (S.length + 1) (stRow S ++ stpV c ps)) (hgrow : W1.grownBy w8 sv.ownBlock) : StP w w8 (S ++ [(c, ps)]) G v8 gv pv p := by
  have h1 := h.under hB
  exact ⟨h.st.pushS hB hown hgrow, ownsRow_blk h1.prow (fun b hb => hgrow.block b (ownsRow_lt h1.prow hb).2 (fun e => ownsRow_ne2 h1.prow h1.st.srow (by decide) hb e.symm))⟩
theorem StP.addG {w W W' : World} {S : List Stq} {G G' : List Pr} {sv gv gv' pv : Value} {p : List Nat} (h : StP w W S G sv gv pv p) (hr : Row1 w.heap.size 34 2 W gv W' gv' G'.length (rowP G')) : StP w W' S G' sv gv' pv p :=
  ⟨h.st.addG hr, ownsRow_blk h.prow (fun b hb => hr.kept.block b (ownsRow_lt h.prow hb).2 (fun e => ownsRow_ne2 h.prow h.st.grow (by decide) hb e))⟩
/-- A pair in a box, apart from the row of goals. -/
structure BxP (W : World) (lb : Nat) (c : Pr) (gv : Value) : Prop where
  row : W.rowIs lb 34 2 (fun j => if j = 0 then .int .i64 (c.1 : Int) else .int .i64 (c.2 : Int))
  ne : gv.ownBlock ≠ some lb
theorem BxP.under {W W' : World} {lb : Nat} {c : Pr} {gv : Value} (h : BxP W lb c gv) (hB : Below W.heap.size W W') : BxP W' lb c gv := ⟨h.row.of_block (hB.block _ h.row.lt), h.ne⟩
theorem BxP.c0 {W : World} {lb : Nat} {c : Pr} {gv : Value} (h : BxP W lb c gv) : W.cell? ⟨lb, 0, none⟩ = some (.int .i64 (c.1 : Int)) := h.row.cell (i := 0) (by omega)
theorem BxP.c1 {W : World} {lb : Nat} {c : Pr} {gv : Value} (h : BxP W lb c gv) : W.cell? ⟨lb, 1, none⟩ = some (.int .i64 (c.2 : Int)) := h.row.cell (i := 1) (by omega)
theorem BxP.pushS {W W1 w8 : World} {lb : Nat} {c : Pr} {gv sv : Value} (h : BxP W lb c gv) (hB : Below W.heap.size W W1) {base n : Nat} {xs : List Value} (hs : W.ownsRow base 206 10 sv n xs) (hgrow : W1.grownBy w8 sv.ownBlock) : BxP w8 lb c gv :=
  ⟨(h.under hB).row.of_block (hgrow.block _ (h.under hB).row.lt (fun e => rowIs_type (h.under hB).row (by decide) (ownsRow_below hs hB) e.symm)), h.ne⟩
theorem BxP.addG {W W' : World} {lb : Nat} {c : Pr} {gv gv' : Value} {base n : Nat} {xs : List Value} (h : BxP W lb c gv) (hr : Row1 base 34 2 W gv W' gv' n xs) : BxP W' lb c gv' :=
  ⟨h.row.of_block (hr.kept.block _ h.row.lt h.ne), fun e => by
    rcases hr.at_ with e1 | e1
    · exact h.ne (e1 ▸ e)
    · have := e1 lb e
      have := h.row.lt
      omega⟩
theorem relA {w W w5 : World} {S : List Stq} {G : List Pr} {sv gv pv : Value} {p : List Nat} {c : Pr} (h : StP w W S G sv gv pv p) (hB : Below W.drew.heap.size W.drew w5) :
    ∃ lb, Value.pointer (some ⟨w5.heap.size, 0, none⟩) = .pointer (some ⟨lb, 0, none⟩) ∧ Hid (StP w (w5.alloc (.cells #[.int .i64 (c.1 : Int), .int .i64 (c.2 : Int)] 34)) S G sv gv pv p ∧ BxP (w5.alloc (.cells #[.int .i64 (c.1 : Int), .int .i64 (c.2 : Int)] 34)) lb c gv) := by
  have R := made_row w5 #[.int .i64 (c.1 : Int), .int .i64 (c.2 : Int)] 34
  have b1 : Below W.heap.size W (w5.alloc (.cells #[.int .i64 (c.1 : Int), .int .i64 (c.2 : Int)] 34)) := (below_of_drw hB).alloc (below_of_drw hB).size _
  refine ⟨_, rfl, h.under b1, R.congr (fun j hj => ?_), fun e => ?_⟩
  · have : j = 0 ∨ j = 1 := by simp at hj; omega
    rcases this with rfl | rfl <;> rfl
  · have h1 := (ownsRow_lt h.st.grow e).2
    have h2 := (below_of_drw hB).size
    omega
theorem relB {w W w5 : World} {S : List Stq} {G : List Pr} {sv gv pv : Value} {p : List Nat} {x y : Value} {c : Pr} (h : StP w W S G sv gv pv p) (hB : Below (W.alloc (.cells #[x, y] 34)).drew.heap.size (W.alloc (.cells #[x, y] 34)).drew w5) :
    ∃ lb, Value.pointer (some ⟨W.heap.size, 0, none⟩) = .pointer (some ⟨lb, 0, none⟩) ∧ Hid (StP w ((w5.setCell ⟨W.heap.size, 0, none⟩ (.int .i64 (c.1 : Int))).setCell ⟨W.heap.size, 1, none⟩ (.int .i64 (c.2 : Int))) S G sv gv pv p ∧ BxP ((w5.setCell ⟨W.heap.size, 0, none⟩ (.int .i64 (c.1 : Int))).setCell ⟨W.heap.size, 1, none⟩ (.int .i64 (c.2 : Int))) lb c gv) := by
  have R := (made_row W #[x, y] 34).of_block (hB.block W.heap.size (by simp))
  have R2 := (R.set 0 (.int .i64 (c.1 : Int))).set 1 (.int .i64 (c.2 : Int))
  have b0 : Below W.heap.size W w5 := (below_ad W _).trans (hB.mono (by simp))
  have b1 : Below W.heap.size W ((w5.setCell ⟨W.heap.size, 0, none⟩ (.int .i64 (c.1 : Int))).setCell ⟨W.heap.size, 1, none⟩ (.int .i64 (c.2 : Int))) := (b0.setCell (p := ⟨W.heap.size, 0, none⟩) (Nat.le_refl _) _).setCell (p := ⟨W.heap.size, 1, none⟩) (Nat.le_refl _) _
  refine ⟨_, rfl, h.under b1, R2.congr (fun j hj => ?_), fun e => ?_⟩
  · have : j = 0 ∨ j = 1 := by simp at hj; omega
    rcases this with rfl | rfl <;> rfl
  · have h1 := (ownsRow_lt h.st.grow e).2
    omega
theorem stpV_form (c : Pr) (ps : List Pr) : ∃ x0 x1 x2 x3 x4 x5 x6 x7 x8 x9 : Int, stpV c ps = [.int .i64 x0, .int .i64 x1, .int .i64 x2, .int .i64 x3, .int .i64 x4, .int .i64 x5, .int .i64 x6, .int .i64 x7, .int .i64 x8, .int .i64 x9] := by
  match ps with
  | [] => exact ⟨_, _, _, _, _, _, _, _, _, _, rfl⟩
  | [a] => exact ⟨_, _, _, _, _, _, _, _, _, _, rfl⟩
  | [a, b] => exact ⟨_, _, _, _, _, _, _, _, _, _, rfl⟩
  | [a, b, d] => exact ⟨_, _, _, _, _, _, _, _, _, _, rfl⟩
  | a :: b :: d :: f :: r =>
    have : stpV c (a :: b :: d :: f :: r) = stpV c [a, b, d, f] := by simp [stpV, pad4c]
    rw [this]
    exact ⟨_, _, _, _, _, _, _, _, _, _, rfl⟩
theorem cell_ten (w : World) (x0 x1 x2 x3 x4 x5 x6 x7 x8 x9 : Value) (ty : TypeId) : ∀ j u, [x0, x1, x2, x3, x4, x5, x6, x7, x8, x9][j]? = some u → (w.alloc (.cells #[x0, x1, x2, x3, x4, x5, x6, x7, x8, x9] ty)).cell? ((⟨w.heap.size, 0, none⟩ : Addr).add j) = some u := by
  intro j u hj
  have hn := made_row w #[x0, x1, x2, x3, x4, x5, x6, x7, x8, x9] ty
  have hjl := (List.getElem?_eq_some_iff.1 hj).1
  rw [Addr.add_lit, Nat.zero_add, hn.cell (i := j) (by simpa using hjl)]
  simp only [List.getElem?_toArray, hj, Option.getD_some]
theorem pairs_b {n : Nat} (hn : n ≤ 1000) {E : Edges} {G : List Pr} (hG : G.Nodup ∧ ∀ q ∈ G, Conn E q.1 q.2 ∧ q.1 < n ∧ q.2 < n) : G.length ≤ 1000000 := by
  have := pairs_le hG.1 (n := n) (fun q hq => (hG.2 q hq).2)
  have h2 : n * n ≤ 1000 * 1000 := Nat.mul_le_mul hn hn
  omega
theorem len_b1 {a : Nat} (h : a ≤ 1000000000000) : a + 1 ≤ maxLen := by unfold maxLen; omega
theorem len_b2 {a : Nat} (h : a ≤ 1000000000000) : (a + 1) * 80 ≤ 140737488355328 := by omega
theorem len_b3 {a b : Nat} (h : a ≤ 1000000) (hb : b ≤ 4) : (a + b) * 16 ≤ 140737488355328 := by omega
theorem own_base {w : World} {base size n : Nat} {ty : TypeId} {a : Option Addr} {m c : Nat} {xs : List Value} (h : w.ownsRow base ty size (.slice a m c) n xs) {b off : Nat} (e : a = some ⟨b, off, none⟩) : base ≤ b := by
  rcases h.2 with ⟨e1, _⟩ | ⟨g, cap, cur, e1, e2, _⟩
  · rw [e] at e1; cases e1
  · rw [e] at e1
    cases e1
    exact e2
theorem cast_suc (m : Nat) : Value.int .i64 ((m : Int) + 1 + 1) = Value.int .i64 (((m + 1 : Nat) : Int) + 1) := by simp
theorem meas_suc {m len : Nat} (h : m + 1 < len) : len - (intOf (Value.int .i64 ((m : Int) + 1 + 1))).toNat < len - (intOf (Value.int .i64 ((m : Int) + 1))).toNat := by simp [intOf]; omega
theorem pos_suc {m : Nat} (h : ¬ m = 0) : (1 : Int) < (m : Int) + 1 := by omega
theorem pos_cast {m : Nat} (h : ¬ m = 0) : (0 : Int) < (m : Int) := by omega
theorem below_ch {A X C : World} (h : Below A.heap.size A X) (k : Below X.heap.size X C) : Below A.heap.size A C := below2 h k
theorem below_ch2 {A X C : World} {O : Obj} (h : Below A.heap.size A X) (k : Below (X.alloc O).heap.size (X.alloc O) C) : Below A.heap.size A C := below2 (h.alloc h.size O) k
theorem psAt2 (w : World) (a c : Pr) : PsAt (w.alloc (.cells #[.int .i64 (a.1 : Int), .int .i64 (a.2 : Int), .int .i64 (c.1 : Int), .int .i64 (c.2 : Int)] 34)) (.slice (some ⟨w.heap.size, 0, none⟩) 2 2) [a, c] := by
  have R := made_row w #[.int .i64 (a.1 : Int), .int .i64 (a.2 : Int), .int .i64 (c.1 : Int), .int .i64 (c.2 : Int)] 34
  refine ⟨_, 2, rfl, Or.inr ⟨w.heap.size, 0, rfl, fun j q hj => ?_⟩⟩
  match j, hj with
  | 0, hj => simp at hj; subst hj; exact ⟨R.cell (i := 0) (by simp), R.cell (i := 1) (by simp)⟩
  | 1, hj => simp at hj; subst hj; exact ⟨R.cell (i := 2) (by simp), R.cell (i := 3) (by simp)⟩
theorem below_al {A X : World} (h : Below A.heap.size A X) (O : Obj) : Below A.heap.size A (X.alloc O) := h.alloc h.size O
theorem stepsK_one (told : List Pr) (argp : Pr → List Pr) (a : Nat) (t : Bool) (x : Nat) (S : List Stq) (G : List Pr) : stepsK told argp a t [x] S G = (S, G) := by
  rw [stepsK]
  intro _ _ _ h
  cases h

set_option maxRecDepth 100000 in
set_option maxHeartbeats 4000000 in
theorem dsteps_in (w : World) (pb : Nat) (ta : Option Addr) (tc : Nat) (dv lv : Value) (l : List Tm) (told : List Pr) (L : List (List Nat)) (n : Nat) (hLn : L.length = n) (hln : l.length = n) (hn : n ≤ 1000) (hLr : ∀ r ∈ L, r.length ≤ 1048576)
    (x1 : w.cell? ⟨pb, 1, none⟩ = some (.slice ta L.length tc)) (x2 : w.cell? ⟨pb, 2, none⟩ = some dv) (x3 : w.cell? ⟨pb, 3, none⟩ = some lv) (hT : TsAt w (.slice ta L.length tc) l) (hD : PsAt w dv told) (htl : told.length ≤ 1048576) (hNs : NssAt w lv L)
    (E : Edges) (hE : LnkIs L E)
    (hQ : ∀ x y, AdjE E x y → ordP x y ∉ told → (∃ s t : Tm, l[(ordP x y).1]? = some s ∧ l[(ordP x y).2]? = some t ∧ s.args.length = t.args.length ∧ s.args.length ≤ 4) ∧ ∀ q ∈ argN l (ordP x y), Conn E q.1 q.2 ∧ q.1 < n ∧ q.2 < n)
    (g : Pr) (hg : Conn E g.1 g.2 ∧ g.1 < n ∧ g.2 < n) (SF : List Stq) (hS : stepsN L told (argN l) g = some SF) :
    Calls Tryz.prog 93 #[.pointer (some ⟨pb, 0, none⟩), .agg #[.int .i64 (g.1 : Int), .int .i64 (g.2 : Int)]] w fun e w' => ∃ v, e = .returned v ∧ w'.ownsRow w.heap.size 206 10 v SF.length (stRow SF) ∧ Below w.heap.size w w' := by
  have HX : Hid (_ ∧ _ ∧ _ ∧ _ ∧ _ ∧ _) := And.intro x1 (And.intro x2 (And.intro x3 (And.intro hT (And.intro hD hNs))))
  have HE : Hid (_ ∧ _ ∧ _) := And.intro hE (And.intro hQ hLr)
  have HI0 : Hid (∃ S G, StR w ((w.alloc (.cells #[.int .i64 (g.1 : Int), .int .i64 (g.2 : Int)] 34)).alloc (.cells #[.int .i64 (g.1 : Int), .int .i64 (g.2 : Int)] 34)) S G (.slice none 0 0) (.slice (some ⟨w.heap.size + 1, 0, none⟩) 1 1) ∧ stepsI L told (argN l) (n * n + 2) 0 S G = some SF ∧ (G.Nodup ∧ ∀ q ∈ G, Conn E q.1 q.2 ∧ q.1 < n ∧ q.2 < n) ∧ S.length ≤ 2 * n * 0) := by
    refine ⟨[], [g], ⟨by simpa [stRow] using World.ownsRow_nil _ _ _ _, ?_, ?_⟩, by rw [← hS, stepsN, hLn], ⟨by simp, by simpa using hg⟩, by simp⟩
    · refine ⟨rfl, Or.inr ⟨w.heap.size + 1, 1, #[.int .i64 (g.1 : Int), .int .i64 (g.2 : Int)], rfl, by omega, ?_, Nat.le_refl _, by unfold maxLen; omega, rfl, rfl⟩⟩
      have := heap_alloc_new (w.alloc (.cells #[.int .i64 (g.1 : Int), .int .i64 (g.2 : Int)] 34)) (.cells #[.int .i64 (g.1 : Int), .int .i64 (g.2 : Int)] 34)
      simpa using this
    · exact ((Below.refl _ _).alloc (Nat.le_refl _) _).alloc (by simp) _
  clear x1 x2 x3 hT hD hNs hE hQ hLr hS hg
  obtain ⟨g1, g2⟩ := g
  simp only at *
  obtain ⟨i0, hi0, hz0, hz1, hz2⟩ := info_parts infoStq
  go_enter Tryz.func93, Tryz.ntmps93
  go_wp2_with fail
  generalize ((w.alloc (.cells #[.int .i64 (g1 : Int), .int .i64 (g2 : Int)] 34)).alloc (.cells #[.int .i64 (g1 : Int), .int .i64 (g2 : Int)] 34)) = w1 at *
  go_loopg [5, 6, 7] (n * n + 2) (fun k t5 t6 t7 W => ∃ i : Nat, t7 = .int .i64 (i : Int) ∧ Hid (∃ S G, StR w W S G t5 t6 ∧ stepsI L told (argN l) k i S G = some SF ∧ (G.Nodup ∧ ∀ q ∈ G, Conn E q.1 q.2 ∧ q.1 < n ∧ q.2 < n) ∧ S.length ≤ 2 * n * i ∧ i ≤ G.length))
  case atStart =>
    obtain ⟨S, G, h1, h2, h3, h4⟩ := HI0.out
    exact ⟨0, rfl, S, G, h1, h2, h3, h4, Nat.zero_le _⟩
  case round =>
    obtain ⟨i, rfl, HR⟩ := hrel
    clear HI0
    obtain ⟨S, G, hR, hst, hG, hSl, hiG⟩ := HR.out
    cases gk with
    | zero => exact absurd hst (by simp [stepsI])
    | succ k =>
    rw [stepsI] at hst
    obtain ⟨sa, sc, hsv⟩ := ownsRow_form hR.srow
    obtain ⟨ga, gc, hgv⟩ := ownsRow_form hR.grow
    subst hsv hgv
    have hGl : G.length ≤ 1000000 := by
      have := pairs_le hG.1 (n := n) (fun q hq => (hG.2 q hq).2)
      have h2 : n * n ≤ 1000 * 1000 := Nat.mul_le_mul hn hn
      omega
    by_cases hlt : i < G.length
    · have di : decide ((i : Int) < (G.length : Int)) = true := decide_eq_true (by omega)
      have hwi : IntKind.i64.wrap ((i : Int) + 1) = (i : Int) + 1 := wrap_nat1 (by omega)
      have hni : 2 * n * i ≤ 2000 * 1000000 := Nat.mul_le_mul (by omega) (by omega)
      rw [List.getElem?_eq_getElem hlt] at hst
      simp only at hst
      obtain ⟨c1, c2, c3⟩ := hG.2 _ (List.getElem_mem hlt)
      have hps := PsAt.of_row hR.grow
      obtain ⟨a, c, e, hps⟩ := hps
      simp only [Value.slice.injEq, true_and] at e
      obtain ⟨rfl, rfl⟩ := e
      rcases hps with e | ⟨gb, go, rfl, hps⟩
      · rw [e] at hlt; simp at hlt
      obtain ⟨q1, q2⟩ := hps i _ (List.getElem?_eq_getElem hlt)
      generalize G[i] = q at *
      cases hp : pathN L q.1 q.2 with
      | none => rw [hp] at hst; exact absurd hst (by simp)
      | some p =>
      rw [hp] at hst
      simp only at hst
      have hM := Mono.below hR.below
      obtain ⟨x1, x2, x3, hT, hD, hNs⟩ := HX.out
      have PA := path_in wr.drew pb ta tc lv L (by omega) HE.out.2.2 (hM _ _ x1) (hM _ _ x3) (hNs.mono hM) E HE.out.1 q.1 q.2 c1 (by omega) (by omega) p hp
      obtain ⟨pr, hpo, hpnd, _, hpth, hplt⟩ := path_ok HE.out.1 c1 (by omega) (by omega)
      obtain rfl : q.1 :: pr = p := by rw [hp] at hpo; exact (Option.some.inj hpo).symm
      have hpl : (q.1 :: pr).length ≤ n := by rw [← hLn]; exact nodup_le hpnd hplt
      have HK : Hid (_ ∧ _ ∧ _ ∧ _ ∧ _) := And.intro hR (And.intro hst (And.intro hG (And.intro hSl hpth)))
      obtain ⟨qa, qb⟩ := q
      simp only at *
      clear hps hM x1 x2 x3 hT hD hNs hpo hpnd hplt hp hR hst hG hSl hpth HR c1 c2 c3
      generalize hpe : qa :: pr = p at *
      have HPE : Hid _ := hpe
      clear hpe
      go_wp2_with fail
      go_cut [8] from 20 to 31 (fun t8 wx => Hid (wx.ownsRow w.heap.size 3 1 t8 p.length (p.map i64) ∧ StR w wx S G (.slice sa S.length sc) (.slice (some ⟨gb, go, none⟩) G.length gc)))
      case first =>
        go_region_law (first | (go_simp; go_at_call 140; refine PA.mono ?_; rintro e w5 ⟨pv, rfl, hp5, hB5⟩))
        all_goals
          try simp only [Act.put, List.getElem_toArray, List.getElem_cons_succ, List.getElem_cons_zero, List.setIfInBounds_toArray, List.set_cons_succ, List.set_cons_zero]
          go_wp2_with fail
          go_meet
          case rel =>
            have hz : w.heap.size ≤ wr.heap.size := HK.out.1.below.size
            exact ⟨row_low hp5 hz, HK.out.1.under (below_of_drw hB5)⟩
      case rest =>
        clear PA q1 q2
        obtain ⟨pa, pc, hpv⟩ := ownsRow_form hcut.out.1
        subst hpv
        have HJ0 : Hid (∃ S' G', StP w wc S' G' (.slice sa S.length sc) (.slice (some ⟨gb, go, none⟩) G.length gc) (.slice pa p.length pc) p ∧ stepsK told (argN l) qa true (p.drop 0) S' G' = stepsK told (argN l) qa true p S G ∧ (G'.Nodup ∧ ∀ q ∈ G', Conn E q.1 q.2 ∧ q.1 < n ∧ q.2 < n) ∧ S'.length ≤ 2 * n * i + 2 * 0 ∧ i < G'.length) := ⟨S, G, ⟨hcut.out.2, hcut.out.1⟩, by rw [List.drop_zero], HK.out.2.2.1, by have := HK.out.2.2.2.1; omega, hlt⟩
        have hp1 : 1 ≤ p.length := by rw [← HPE.out]; simp
        clear hcut
        obtain ⟨w4, rfl⟩ : ∃ w4, w4 = wc := ⟨_, rfl⟩
        go_wp2_with fail
        go_loopw [5, 6, 9] (fun t5 t6 t9 W => ∃ m : Nat, m + 1 ≤ p.length ∧ t9 = .int .i64 ((m : Int) + 1) ∧ Hid (∃ S' G', StP w W S' G' t5 t6 (.slice pa p.length pc) p ∧ stepsK told (argN l) qa (decide (m = 0)) (p.drop m) S' G' = stepsK told (argN l) qa true p S G ∧ (G'.Nodup ∧ ∀ q ∈ G', Conn E q.1 q.2 ∧ q.1 < n ∧ q.2 < n) ∧ S'.length ≤ 2 * n * i + 2 * m ∧ i < G'.length)) (fun _ _ t9 _ => p.length - (intOf t9).toNat)
        case atStart => exact ⟨0, hp1, rfl, HJ0⟩
        case round =>
          obtain ⟨m, hm2, rfl, HJ⟩ := hrel
          clear HJ0
          obtain ⟨S', G', hR', hst', hG', hSl', hiG'⟩ := HJ.out
          obtain ⟨sa', sc', hsv⟩ := ownsRow_form hR'.st.srow
          obtain ⟨ga', gc', hgv⟩ := ownsRow_form hR'.st.grow
          subst hsv hgv
          by_cases hml : m + 1 < p.length
          · have dm : decide ((m : Int) + 1 < (p.length : Int)) = true := decide_eq_true (cast_lt1 hml)
            have hm0 : m < p.length := Nat.lt_of_succ_lt hml
            have hmb : m ≤ 1048576 := Nat.le_trans (Nat.le_of_lt hm0) (Nat.le_trans hpl (Nat.le_trans hn (by decide)))
            have dm2 := cast_lt1 hml
            have dm3 := cast_nn1 m
            have dm4 := cast_lt hm0
            have dm5 := cast_nn m
            have hw1 := wrap_nat2q hmb
            have hw3 := wrap_nat0 hmb
            have hw2 := wrap_nat hmb
            have hdr : p.drop m = p[m] :: p[m + 1] :: p.drop (m + 2) := by rw [List.drop_eq_getElem_cons hm0, List.drop_eq_getElem_cons hml]
            rw [hdr, stepsK] at hst'
            have hadj := HK.out.2.2.2.2.at (List.getElem?_eq_getElem hm0) (List.getElem?_eq_getElem hml)
            obtain ⟨pb', po, pc', e1, k1⟩ := (NsAt.of_rowI hR'.prow).get (List.getElem?_eq_getElem hm0)
            obtain ⟨pb'', po', pc'', e2, k2⟩ := (NsAt.of_rowI hR'.prow).get (List.getElem?_eq_getElem hml)
            rw [e1] at e2
            simp only [Value.slice.injEq, Option.some.injEq, Addr.mk.injEq, true_and, and_true] at e1 e2
            obtain ⟨rfl, rfl⟩ := e1
            obtain ⟨⟨rfl, rfl⟩, rfl⟩ := e2
            have HDR : Hid (p.drop (m + 1) = p[m + 1] :: p.drop (m + 2)) := List.drop_eq_getElem_cons hml
            have HXY : Hid (p[m]? = some p[m] ∧ p[m + 1]? = some p[m + 1]) := ⟨List.getElem?_eq_getElem hm0, List.getElem?_eq_getElem hml⟩
            generalize p[m] = x at *
            generalize p[m + 1] = y at *
            have OR : ∀ W, _ := fun W => ordered_p W x y
            have hQ := HE.out.2.1 x y hadj
            obtain ⟨c, hc⟩ : ∃ c, ordP x y = c := ⟨_, rfl⟩
            rw [hc] at hQ hst'
            have HC : Hid _ := hc
            simp only [hc] at OR
            have HH : Hid (_ ∧ True ∧ _ ∧ _ ∧ _ ∧ _) := And.intro hR' (And.intro trivial (And.intro hst' (And.intro hG' (And.intro hSl' hQ))))
            clear hc hR' hst' hG' hSl' hQ HJ hadj hdr
            have k1a : ∀ O, (wr.alloc O).cell? ⟨pb', po + m, none⟩ = some (.int .i64 (x : Int)) := fun O => Lib.cell?_alloc_some _ k1
            have k2a : ∀ O, (wr.alloc O).cell? ⟨pb', po + (m + 1), none⟩ = some (.int .i64 (y : Int)) := fun O => Lib.cell?_alloc_some _ k2
            go_wp2_with fail
            go_cut [10] from 38 to 47 (fun t10 wx => ∃ lb, t10 = .pointer (some ⟨lb, 0, none⟩) ∧ Hid (StP w wx S' G' (.slice sa' S'.length sc') (.slice ga' G'.length gc') (.slice (some ⟨pb', po, none⟩) p.length pc) p ∧ BxP wx lb c (.slice ga' G'.length gc')))
            case first =>
              go_region_law (first | (go_simp; go_at_call 79; refine (OR _).mono ?_; rintro e w5 ⟨rfl, hB5⟩; have f1 := fun h => (box_if hB5 wr.heap.size 0 h).1; have f2 := fun h => (box_if hB5 wr.heap.size 1 h).1; have f3 := fun h => (box_if hB5 wr.heap.size 0 h).2; have f4 := fun h => (box_if hB5 wr.heap.size 1 h).2))
              all_goals
                try simp only [Act.put, List.getElem_toArray, List.getElem_cons_succ, List.getElem_cons_zero, List.setIfInBounds_toArray, List.set_cons_succ, List.set_cons_zero]
                go_wp2_with fail
                go_meet
                case rel =>
                  first
                  | exact relA HH.out.1 hB5
                  | exact relB HH.out.1 hB5
            case rest =>
              obtain ⟨lb, rfl, HL⟩ := hcut
              have y1 := HL.out.2.c0
              have y2 := HL.out.2.c1
              clear k1 k2 k1a k2a
              obtain ⟨w6, rfl⟩ : ∃ w6, w6 = wc := ⟨_, rfl⟩
              have hM6 := Mono.below HL.out.1.st.below
              obtain ⟨x1, x2, x3, hT, hD, hNs⟩ := HX.out
              have x2' := hM6 _ _ x2
              have DC := dCont_in w6.drew dv told (hD.mono hM6) (Nat.le_trans htl (by decide)) c
              clear x1 x3 hNs x2
              have HTT : Hid (TsAt w (.slice ta L.length tc) l) := hT
              have HXX : Hid _ := And.intro hM6 (hM6 _ _ HX.out.1)
              clear hT hD hM6
              apply_assumption
              refine wp_seq_k ?_
              intro KK hKK
              go_cut [5, 6, 11] from 48 to 66 (fun t5 t6 _ wx => Hid (StP w wx (if c ∈ told then S' else S' ++ [(c, argN l c)]) (if c ∈ told then G' else addP G' (argN l c)) t5 t6 (.slice (some ⟨pb', po, none⟩) p.length pc) p ∧ BxP wx lb c t6))
              case first =>
                by_cases hin : c ∈ told
                · rw [decide_eq_true hin] at DC
                  have HI : Hid ((if c ∈ told then S' else S' ++ [(c, argN l c)]) = S' ∧ (if c ∈ told then G' else addP G' (argN l c)) = G') := ⟨if_pos hin, if_pos hin⟩
                  clear hin
                  go_wp2_with fail
                  go_cut [54] from 48 to 53 (fun t54 wx => t54 = .bool false ∧ Hid (Below w6.heap.size w6 wx))
                  case first =>
                    go_region_law (first | (go_simp; go_at_call 133; refine DC.mono ?_; rintro e w7 ⟨rfl, hB7⟩))
                    all_goals
                      try simp only [Act.put, List.getElem_toArray, List.getElem_cons_succ, List.getElem_cons_zero, List.setIfInBounds_toArray, List.set_cons_succ, List.set_cons_zero]
                      go_wp2_with fail
                      go_meet
                      case rel => exact ⟨rfl, below_of_drw hB7⟩
                  case rest =>
                    obtain ⟨rfl, HB7⟩ := hcut
                    go_wp2_with fail
                    go_meet
                    case rel =>
                      rw [HI.out.1, HI.out.2]
                      exact ⟨HL.out.1.under HB7.out, HL.out.2.under HB7.out⟩
                · rw [decide_eq_false hin] at DC
                  obtain ⟨⟨s, t, hs, ht, hst4, hs4⟩, hQ2⟩ := HH.out.2.2.2.2.2 hin
                  have HI : Hid ((if c ∈ told then S' else S' ++ [(c, argN l c)]) = S' ++ [(c, argN l c)] ∧ (if c ∈ told then G' else addP G' (argN l c)) = addP G' (argN l c)) := ⟨if_neg hin, if_neg hin⟩
                  have HA : Hid (_ ∧ _ ∧ _) := And.intro hs (And.intro ht (And.intro hst4 hs4))
                  have hal : (argN l c).length ≤ 4 := by
                    have : (argN l c).length = min s.args.length t.args.length := by simp [argN, argsN, hs, ht]
                    rw [this]
                    exact Nat.le_trans (Nat.min_le_left _ _) hs4
                  clear hin hs ht hst4 hs4 hQ2
                  go_wp2_with fail
                  go_cut [54] from 48 to 53 (fun t54 wx => t54 = .bool true ∧ Hid (Below w6.heap.size w6 wx))
                  case first =>
                    go_region_law (first | (go_simp; go_at_call 133; refine DC.mono ?_; rintro e w7 ⟨rfl, hB7⟩))
                    all_goals
                      try simp only [Act.put, List.getElem_toArray, List.getElem_cons_succ, List.getElem_cons_zero, List.setIfInBounds_toArray, List.set_cons_succ, List.set_cons_zero]
                      go_wp2_with fail
                      go_meet
                      case rel => exact ⟨rfl, below_of_drw hB7⟩
                  case rest =>
                    obtain ⟨rfl, HB7⟩ := hcut
                    have hM7 := Mono.below HB7.out
                    have y1' := hM7 _ _ y1
                    have y2' := hM7 _ _ y2
                    have AP := argPairs_in wc pb _ l c (hM7 _ _ (HXX.out.2)) ((HTT.out.mono HXX.out.1).mono hM7) s t HA.out.1 HA.out.2.1 HA.out.2.2.1 HA.out.2.2.2
                    clear y1 y2 DC hM7
                    go_wp2_with (first | (go_at_call 141; refine AP.mono ?_; rintro e w8 ⟨av, rfl, hA8, hB8⟩; refine Aside.out ?_))
                    delta Aside
                    have hM8 := Mono.below hB8
                    have y1 := hM8 _ _ y1'
                    have y2 := hM8 _ _ y2'
                    obtain ⟨aa, ac, hav⟩ := ownsRow_form hA8
                    subst hav
                    have NS := newStep_all w8 c aa ac (argN l c) (PsAt.of_row hA8) hal
                    obtain ⟨v0, v1, v2, v3, v4, v5, v6, v7, v8, v9, hsv⟩ := stpV_form c (argN l c)
                    rw [hsv] at NS
                    have HSV : Hid _ := hsv
                    have HA8 : Hid (_ ∧ _) := And.intro hA8 hB8
                    clear hsv hA8 hB8 y1' y2' AP hM8
                    generalize hall : (argN l c).length = al at *
                    have HALL : Hid _ := hall
                    clear hall
                    apply_assumption
                    go_wp2_with (first | (go_at_call 142; refine NS.mono ?_; rintro e w9 ⟨rfl, hB9⟩; refine Aside.out ?_))
                    delta Aside
                    have R9 := HL.out.1.under (below2 (below2 HB7.out HA8.out.2) hB9)
                    have X9 := HL.out.2.under (below2 (below2 HB7.out HA8.out.2) hB9)
                    have H9 : Hid (_ ∧ _ ∧ _) := And.intro R9 (And.intro hB9 X9)
                    have hb9 : w.heap.size ≤ w9.heap.size := R9.st.below.size
                    have hSb : S'.length ≤ 1000000000000 := Nat.le_trans HH.out.2.2.2.2.1 (Nat.le_trans (Nat.add_le_add hni (Nat.mul_le_mul_left 2 hmb)) (by decide))
                    have hGb : G'.length ≤ 1000000 := pairs_b hn HH.out.2.2.2.1
                    clear NS hB9 R9 X9 y1 y2
                    apply_assumption
                    go_wp2_with (first | (at_builtin; refine Aside.out ?_))
                    delta Aside
                    refine wpList_append_own_at _ rfl _ _ 200 rfl w.heap.size 206 i0 _ 10 80 Tryz.underlying200 hi0 hz0 hz1 hz2 rfl (by decide) _ _ _ rfl (H9.out.1.st.srow.alloc _) ⟨_, 0, none⟩ 1 1 [.int .i64 v0, .int .i64 v1, .int .i64 v2, .int .i64 v3, .int .i64 v4, .int .i64 v5, .int .i64 v6, .int .i64 v7, .int .i64 v8, .int .i64 v9] rfl rfl (cell_ten w9 _ _ _ _ _ _ _ _ _ _ _) (by simp [Value.oneCell']) (len_b1 hSb) (len_b2 hSb) (Nat.le_trans hb9 (by simp)) ?_
                    intro vv ww hownV hgrowV _ hatV
                    have XV : BxP ww lb c (.slice ga' G'.length gc') := H9.out.2.2.pushS ((Below.refl _ _).alloc (Nat.le_refl _) _) H9.out.1.st.srow hgrowV
                    have RV : StP w ww (S' ++ [(c, argN l c)]) G' vv (.slice ga' G'.length gc') (.slice (some ⟨pb', po, none⟩) p.length pc) p := H9.out.1.pushS ((Below.refl _ _).alloc (Nat.le_refl _) _) (by rw [HSV.out]; exact hownV) hgrowV
                    have PV : PsAt ww (.slice aa (argN l c).length ac) (argN l c) := by
                      have r8 := HA8.out.1
                      have r9 := ownsRow_below (ownsRow_below r8 H9.out.2.1) ((Below.refl w9.heap.size w9).alloc (Nat.le_refl _) (.cells #[.int .i64 v0, .int .i64 v1, .int .i64 v2, .int .i64 v3, .int .i64 v4, .int .i64 v5, .int .i64 v6, .int .i64 v7, .int .i64 v8, .int .i64 v9] 206))
                      have s9 := H9.out.1.st.srow.alloc (.cells #[.int .i64 v0, .int .i64 v1, .int .i64 v2, .int .i64 v3, .int .i64 v4, .int .i64 v5, .int .i64 v6, .int .i64 v7, .int .i64 v8, .int .i64 v9] 206)
                      rw [HALL.out]
                      rw [← HALL.out] at r9 ⊢
                      exact PsAt.of_row (ownsRow_blk r9 (fun b hb => hgrowV.block b (ownsRow_lt r9 hb).2 (fun e => ownsRow_ne2 r9 s9 (by decide) hb e.symm)))
                    have hgne : ∀ b off, aa = some ⟨b, off, none⟩ → (Value.slice ga' G'.length gc').ownBlock ≠ some b := fun b off e e2 => by
                      have h1 := (ownsRow_lt HL.out.1.st.grow e2).2
                      have h2 := HB7.out.size
                      have h3 : wc.heap.size ≤ b := own_base HA8.out.1 e
                      omega
                    have AD := addPairs_in ww w.heap.size RV.st.below.size _ G' RV.st.grow aa ac (argN l c) PV hgne (len_b3 hGb (by rw [HALL.out]; exact hal))
                    have HRV : Hid (_ ∧ _) := And.intro RV XV
                    clear hownV hgrowV hatV RV PV XV H9
                    rw [HALL.out] at AD
                    go_wp2_with (first | (go_at_call 89; refine AD.mono ?_; rintro e w10 ⟨gv2, rfl, hr10⟩))
                    go_meet
                    case rel =>
                      rw [HI.out.1, HI.out.2]
                      exact ⟨HRV.out.1.addG hr10, HRV.out.2.addG hr10⟩
              case rest =>
                have hQ2 := HH.out.2.2.2.2.2
                have hG2 : ((if c ∈ told then G' else addP G' (argN l c)).Nodup ∧ ∀ q ∈ (if c ∈ told then G' else addP G' (argN l c)), Conn E q.1 q.2 ∧ q.1 < n ∧ q.2 < n) ∧ i < (if c ∈ told then G' else addP G' (argN l c)).length := by
                  by_cases hin : c ∈ told
                  · rw [if_pos hin]
                    exact ⟨HH.out.2.2.2.1, hiG'⟩
                  · rw [if_neg hin]
                    obtain ⟨r1, r2, ⟨u, r3⟩, _⟩ := addP_ok (fun q => Conn E q.1 q.2 ∧ q.1 < n ∧ q.2 < n) (argN l c) G' HH.out.2.2.2.1.1 HH.out.2.2.2.1.2 (hQ2 hin).2
                    exact ⟨⟨r1, r2⟩, by rw [r3, List.length_append]; exact Nat.lt_of_lt_of_le hiG' (Nat.le_add_right _ _)⟩
                have hS2 : (if c ∈ told then S' else S' ++ [(c, argN l c)]).length ≤ 2 * n * i + 2 * m + 1 := by
                  have := HH.out.2.2.2.2.1
                  by_cases hin : c ∈ told
                  · rw [if_pos hin]
                    exact Nat.le_succ_of_le this
                  · rw [if_neg hin, List.length_append]
                    exact Nat.succ_le_succ this
                have hst2 := HH.out.2.2.1
                have HC3 : Hid _ := hcut.out
                generalize (if c ∈ told then S' else S' ++ [(c, argN l c)]) = S2 at *
                generalize (if c ∈ told then G' else addP G' (argN l c)) = G2 at *
                obtain ⟨sa2, sc2, hsv⟩ := ownsRow_form HC3.out.1.st.srow
                obtain ⟨ga2, gc2, hgv⟩ := ownsRow_form HC3.out.1.st.grow
                subst hsv hgv
                have HG2 : Hid (_ ∧ _ ∧ _) := And.intro hG2 (And.intro hS2 hst2)
                clear hcut hG2 hS2 hst2 hQ2 y1 y2 DC x2' HXX HTT HL
                by_cases hmz : m = 0
                · have HMZ : Hid _ := hmz
                  have dz : decide ((1 : Int) < (m : Int) + 1) = false := by rw [hmz]; decide
                  have dz2 : ¬ (0 : Int) < (m : Int) := by rw [hmz]; decide
                  have dz3 : ¬ 0 < m := by rw [hmz]; decide
                  clear hmz
                  apply_assumption
                  go_wp2_with fail
                  refine ⟨⟨m + 1, hml, cast_suc m, ?_⟩, meas_suc hml⟩
                  refine ⟨S2, G2, HC3.out.1, ?_, HG2.out.1.1, Nat.le_trans HG2.out.2.1 (Nat.le_succ _), HG2.out.1.2⟩
                  have := HG2.out.2.2
                  rw [if_pos (decide_eq_true HMZ.out), List.append_nil] at this
                  rw [decide_eq_false (Nat.succ_ne_zero m), HDR.out]
                  exact this
                · have dz : decide ((1 : Int) < (m : Int) + 1) = true := decide_eq_true (pos_suc hmz)
                  have dz2 : (0 : Int) < (m : Int) := pos_cast hmz
                  have dz3 : 0 < m := Nat.pos_of_ne_zero hmz
                  have HMZ : Hid _ := hmz
                  have hp0 : p[0]? = some qa := by rw [← HPE.out]; rfl
                  have hns := NsAt.of_rowI HC3.out.1.prow
                  have HPX : Hid (∀ W, Below wc.heap.size wc W → W.cell? ⟨pb', po, none⟩ = some (.int .i64 (qa : Int)) ∧ W.cell? ⟨pb', po + m, none⟩ = some (.int .i64 (x : Int)) ∧ W.cell? ⟨pb', po + (m + 1), none⟩ = some (.int .i64 (y : Int)) ∧ W.cell? ⟨lb, 0, none⟩ = some (.int .i64 (c.1 : Int)) ∧ W.cell? ⟨lb, 1, none⟩ = some (.int .i64 (c.2 : Int))) := fun W hB => by
                    have hMW := Mono.below hB
                    obtain ⟨b0, o0, c0, e0, z0⟩ := (hns.mono hMW).get hp0
                    obtain ⟨b1, o1, c1, e1, z1⟩ := (hns.mono hMW).get HXY.out.1
                    obtain ⟨b2, o2, c2, e2, z2⟩ := (hns.mono hMW).get HXY.out.2
                    cases e0
                    cases e1
                    cases e2
                    exact ⟨z0, z1, z2, hMW _ _ HC3.out.2.c0, hMW _ _ HC3.out.2.c1⟩
                  have ORz : ∀ (W : World) (z : Nat), _ := fun W z => ordered_p W qa z
                  obtain ⟨cy, hcy⟩ : ∃ cy, cy = ordP qa y := ⟨_, rfl⟩
                  obtain ⟨cx, hcx⟩ : ∃ cx, cx = ordP qa x := ⟨_, rfl⟩
                  obtain ⟨v0, v1, v2, v3, v4, v5, v6, v7, v8, v9, hsv⟩ := stpV_form cy [cx, c]
                  have NSL : ∀ (X : World) (bs : Nat), PsAt X (.slice (some ⟨bs, 0, none⟩) 2 2) [cx, c] → Calls Tryz.prog 142 #[.agg #[.int .i64 (cy.1 : Int), .int .i64 (cy.2 : Int)], .slice (some ⟨bs, 0, none⟩) 2 2] X fun e w' => e = .returned (.agg #[.int .i64 v0, .int .i64 v1, .int .i64 v2, .int .i64 v3, .int .i64 v4, .int .i64 v5, .int .i64 v6, .int .i64 v7, .int .i64 v8, .int .i64 v9]) ∧ Below X.heap.size X w' := fun X bs hps => by
                    have := newStep_all X cy (some ⟨bs, 0, none⟩) 2 [cx, c] hps (by simp)
                    rw [hsv] at this
                    exact this
                  have HSV : Hid _ := hsv
                  obtain ⟨k0, k1, k2, k3, k4⟩ := HPX.out _ (Below.refl _ _)
                  have hSb : S2.length ≤ 1000000000000 := Nat.le_trans HG2.out.2.1 (Nat.le_trans (Nat.add_le_add (Nat.add_le_add hni (Nat.mul_le_mul_left 2 hmb)) (Nat.le_refl 1)) (by decide))
                  have hcb : w.heap.size ≤ wc.heap.size := HC3.out.1.st.below.size
                  have dm7 : 0 < p.length := Nat.lt_of_le_of_lt (Nat.zero_le m) hm0
                  have dm6 : (0 : Int) < (p.length : Int) := cast_lt (Nat.lt_of_le_of_lt (Nat.zero_le m) hm0)
                  have HPV : Hid (∀ (w7 : World) (vv : Value) (ww : World), Below wc.heap.size wc w7 → ww.ownsRow w.heap.size 206 10 vv (S2.length + 1) (stRow S2 ++ [.int .i64 v0, .int .i64 v1, .int .i64 v2, .int .i64 v3, .int .i64 v4, .int .i64 v5, .int .i64 v6, .int .i64 v7, .int .i64 v8, .int .i64 v9]) → (w7.alloc (.cells #[.int .i64 v0, .int .i64 v1, .int .i64 v2, .int .i64 v3, .int .i64 v4, .int .i64 v5, .int .i64 v6, .int .i64 v7, .int .i64 v8, .int .i64 v9] 206)).grownBy ww (Value.slice sa2 S2.length sc2).ownBlock → (ww.cell? ⟨pb', po, none⟩ = some (.int .i64 (qa : Int)) ∧ ww.cell? ⟨pb', po + m, none⟩ = some (.int .i64 (x : Int)) ∧ ww.cell? ⟨pb', po + (m + 1), none⟩ = some (.int .i64 (y : Int)) ∧ ww.cell? ⟨lb, 0, none⟩ = some (.int .i64 (c.1 : Int)) ∧ ww.cell? ⟨lb, 1, none⟩ = some (.int .i64 (c.2 : Int))) ∧ StP w ww (S2 ++ [(cy, [cx, c])]) G2 vv (.slice ga2 G2.length gc2) (.slice (some ⟨pb', po, none⟩) p.length pc) p) := fun w7 vv ww hB ho hg => by
                    have s7 := HC3.out.1.pushS (below_al hB _) (by rw [hsv]; exact ho) hg
                    have x7 := HC3.out.2.pushS (below_al hB _) HC3.out.1.st.srow hg
                    have hns7 := NsAt.of_rowI s7.prow
                    obtain ⟨b0, o0, c0, e0, z0⟩ := hns7.get hp0
                    obtain ⟨b1, o1, c1, e1, z1⟩ := hns7.get HXY.out.1
                    obtain ⟨b2, o2, c2, e2, z2⟩ := hns7.get HXY.out.2
                    cases e0
                    cases e1
                    cases e2
                    exact ⟨⟨z0, z1, z2, x7.c0, x7.c1⟩, s7⟩
                  subst hcy hcx
                  clear hmz hns hp0 hsv
                  apply_assumption
                  go_wp2_with fail
                  go_region_held3 (fun W => W.cell? ⟨pb', po, none⟩ = some (.int .i64 (qa : Int)) ∧ W.cell? ⟨pb', po + m, none⟩ = some (.int .i64 (x : Int)) ∧ W.cell? ⟨pb', po + (m + 1), none⟩ = some (.int .i64 (y : Int)) ∧ W.cell? ⟨lb, 0, none⟩ = some (.int .i64 (c.1 : Int)) ∧ W.cell? ⟨lb, 1, none⟩ = some (.int .i64 (c.2 : Int))) (first | exact HPX.out _ (by first | assumption | exact below_drw wc | exact below_al (by first | assumption | exact below_drw wc) _) | assumption) (first | (refine step_append_here rfl (.tmp 69) (.tmp 90) 200 rfl w.heap.size 206 i0 _ 10 80 Tryz.underlying200 hi0 hz0 hz1 hz2 rfl (by decide) (.slice sa2 S2.length sc2) S2.length (stRow S2) (by (try simp only [Act.put, List.getElem_toArray, List.getElem_cons_succ, List.getElem_cons_zero, List.setIfInBounds_toArray, List.set_cons_succ, List.set_cons_zero]); first | rfl | (simp [Act.eval]; done)) (by exact World.ownsRow.alloc (ownsRow_below HC3.out.1.st.srow KS7) _) ⟨w7.heap.size, 0, none⟩ 1 1 [.int .i64 v0, .int .i64 v1, .int .i64 v2, .int .i64 v3, .int .i64 v4, .int .i64 v5, .int .i64 v6, .int .i64 v7, .int .i64 v8, .int .i64 v9] (by (try simp only [Act.put, List.getElem_toArray, List.getElem_cons_succ, List.getElem_cons_zero, List.setIfInBounds_toArray, List.set_cons_succ, List.set_cons_zero]); first | rfl | (simp [Act.eval]; done)) rfl (cell_ten w7 _ _ _ _ _ _ _ _ _ _ _) (by simp [Value.oneCell']) (len_b1 hSb) (len_b2 hSb) (Nat.le_trans (Nat.le_trans hcb KS7.size) (by simp)) ?_; intro vv ww hownV hgrowV hatV; have SV := HPV.out w7 vv ww KS7 hownV hgrowV; have SV2 := SV.1) | (go_at_call 79; refine (ORz _ _).mono ?_; rintro e w5 ⟨rfl, hB5⟩; have KS : Below wc.heap.size wc w5 := below2 (by first | assumption | exact below_drw wc | exact below_al (by first | assumption | exact below_drw wc) _) hB5) | (go_at_call 142; refine (NSL _ _ (by first | exact psAt2 _ _ _ | exact (psAt2 _ _ _).below hB5)).mono ?_; rintro e w7 ⟨rfl, hB7⟩; have KS7 : Below wc.heap.size wc w7 := below2 (by first | assumption | exact below_drw wc | exact below_al (by first | assumption | exact below_drw wc) _) hB7))
                  all_goals
                    have HF : Hid _ := SV.2
                    clear SV SV2 hownV hgrowV hatV HPV HPX NSL ORz k0 k1 k2 k3 k4
                    go_wp2_with fail
                    refine ⟨⟨m + 1, hml, cast_suc m, ?_⟩, meas_suc hml⟩
                    refine ⟨_, G2, HF.out, ?_, HG2.out.1.1, ?_, HG2.out.1.2⟩
                    · have := HG2.out.2.2
                      rw [if_neg (by rw [decide_eq_false HMZ.out]; exact Bool.false_ne_true)] at this
                      rw [decide_eq_false (Nat.succ_ne_zero m), HDR.out]
                      exact this
                    · rw [List.length_append]
                      exact Nat.succ_le_succ HG2.out.2.1
          · have hme : m + 1 = p.length := Nat.le_antisymm hm2 (Nat.le_of_not_lt hml)
            have dm : decide ((m : Int) + 1 < (p.length : Int)) = false := decide_eq_false (by rw [← hme]; exact Int.lt_irrefl _)
            have HF : Hid (∀ (W : World), W = wr → ∃ S G, StR w W S G (.slice sa' S'.length sc') (.slice ga' G'.length gc') ∧ stepsI L told (argN l) k (i + 1) S G = some SF ∧ (G.Nodup ∧ ∀ q ∈ G, Conn E q.1 q.2 ∧ q.1 < n ∧ q.2 < n) ∧ S.length ≤ 2 * n * (i + 1) ∧ i + 1 ≤ G.length) := fun W hW => by
              subst hW
              have hdr : p.drop m = [p[m]'(by omega)] := by rw [List.drop_eq_getElem_cons (by omega), hme, List.drop_length]
              rw [hdr, stepsK_one] at hst'
              have hst := HK.out.2.1
              rw [← hst'] at hst
              refine ⟨S', G', hR'.st, hst, hG', Nat.le_trans hSl' ?_, hiG'⟩
              rw [Nat.mul_succ]
              omega
            clear hR' hst' hG' hSl' HJ
            go_wp2_with fail
            go_roundg k
            case measure => exact Nat.lt_succ_self k
            case rel =>
              obtain ⟨S2, G2, h1⟩ := HF.out _ rfl
              exact ⟨i + 1, by simp, S2, G2, h1⟩
    · have di : decide ((i : Int) < (G.length : Int)) = false := decide_eq_false (by omega)
      rw [List.getElem?_eq_none (by omega)] at hst
      have hSF : S = SF := Option.some.inj hst
      have HF : Hid (wr.ownsRow w.heap.size 206 10 (.slice sa S.length sc) SF.length (stRow SF) ∧ Below w.heap.size w wr) := by
        rw [← hSF]
        exact ⟨hR.srow, hR.below⟩
      clear hR hst hG hSl HR hSF
      go_wp2_with fail
      go_ret
      exact ⟨_, rfl, HF.out.1, HF.out.2⟩
end Go.Proofs.YtlehlgipbhfioaaGreat

namespace Go.Proofs.YtlehlgipbhfioaaGreat
open Go.RowKit Go.Maps

/-- A problem: how many variables, the numbers of the pairs, the lemmas, the steps that are lemmas. -/
structure Pb where
  count : Nat
  vars : List (Pr × Nat)
  lemmas : List (List Int)
  known : List (Pr × List Pr)
namespace Pb
def num (P : Pb) (a : Pr) : Option Nat := (P.vars.find? fun e => decide (e.1 = a)).map (·.2)
def vari (P : Pb) (a : Pr) : Nat × Pb := match P.num a with
  | some x => (x, P)
  | none => (P.count + 1, { P with count := P.count + 1, vars := P.vars ++ [(a, P.count + 1)], lemmas := if a.1 = a.2 then P.lemmas ++ [[((P.count + 1 : Nat) : Int)]] else P.lemmas })
/-- The premises' literals. -/
def prem : List Pr → Pb → List Int × Pb
  | [], P => ([], P)
  | a :: r, P => if a.1 = a.2 then prem r P else (-((P.vari a).1 : Int) :: (prem r (P.vari a).2).1, (prem r (P.vari a).2).2)
end Pb
def pad4 (ps : List Pr) : List Pr := (ps ++ List.replicate 4 (0, 0)).take 4
def Pb.step (P : Pb) (st : Stq) : Pb :=
  if (st.1, pad4 st.2) ∈ P.known then P
  else
    { (Pb.prem (pad4 st.2) (Pb.vari { P with known := P.known ++ [(st.1, pad4 st.2)] } st.1).2).2 with
      lemmas := (Pb.prem (pad4 st.2) (Pb.vari { P with known := P.known ++ [(st.1, pad4 st.2)] } st.1).2).2.lemmas ++ [((Pb.vari { P with known := P.known ++ [(st.1, pad4 st.2)] } st.1).1 : Int) :: (Pb.prem (pad4 st.2) (Pb.vari { P with known := P.known ++ [(st.1, pad4 st.2)] } st.1).2).1] }

/-- What grows as variables and lemmas come. -/
structure PbG (P Q : Pb) : Prop where
  num : ∀ a x, P.num a = some x → Q.num a = some x
  lem : ∀ c ∈ P.lemmas, c ∈ Q.lemmas
theorem PbG.refl (P : Pb) : PbG P P := ⟨fun _ _ h => h, fun _ h => h⟩
theorem PbG.trans {P Q R : Pb} (h : PbG P Q) (k : PbG Q R) : PbG P R := ⟨fun a x e => k.num a x (h.num a x e), fun c e => k.lem c (h.lem c e)⟩

theorem num_app {V : List (Pr × Nat)} {a b : Pr} {x : Nat} (P : Pb) (hP : P.vars = V ++ [(b, x)]) (Q : Pb) (hQ : Q.vars = V) : P.num a = if Q.num a = none then (if b = a then some x else none) else Q.num a := by
  unfold Pb.num
  rw [hP, hQ, List.find?_append]
  cases h : V.find? fun e => decide (e.1 = a) with
  | some e => simp
  | none =>
    by_cases e : b = a
    · simp [e]
    · simp [e]

theorem Pb.vari_ok (P : Pb) (a : Pr) : PbG P (P.vari a).2 ∧ (P.vari a).2.num a = some (P.vari a).1 ∧ (P.vari a).2.known = P.known := by
  unfold Pb.vari
  cases h : P.num a with
  | some x => exact ⟨PbG.refl P, h, rfl⟩
  | none =>
    have key := fun b => num_app (a := b) (b := a) (x := P.count + 1) (V := P.vars) { P with count := P.count + 1, vars := P.vars ++ [(a, P.count + 1)], lemmas := if a.1 = a.2 then P.lemmas ++ [[((P.count + 1 : Nat) : Int)]] else P.lemmas } rfl P rfl
    refine ⟨⟨fun b x hb => ?_, fun c hc => ?_⟩, ?_, rfl⟩
    · simp only
      rw [key b, hb]
      simp
    · show c ∈ (if a.1 = a.2 then P.lemmas ++ [[((P.count + 1 : Nat) : Int)]] else P.lemmas)
      split
      · simp [hc]
      · exact hc
    · simp only
      rw [key a, h]
      simp

theorem Pb.prem_ok : ∀ (r : List Pr) (P : Pb), PbG P (Pb.prem r P).2 ∧ (Pb.prem r P).2.known = P.known ∧ ∀ l ∈ (Pb.prem r P).1, ∃ q ∈ r, q.1 ≠ q.2 ∧ ∃ x, (Pb.prem r P).2.num q = some x ∧ l = -(x : Int)
  | [], P => ⟨PbG.refl P, rfl, by simp [Pb.prem]⟩
  | a :: r, P => by
    rw [Pb.prem]
    by_cases e : a.1 = a.2
    · rw [if_pos e]
      obtain ⟨h1, h2, h3⟩ := Pb.prem_ok r P
      exact ⟨h1, h2, fun l hl => by obtain ⟨q, hq, h4⟩ := h3 l hl; exact ⟨q, by simp [hq], h4⟩⟩
    · rw [if_neg e]
      obtain ⟨g1, g2, g3⟩ := P.vari_ok a
      obtain ⟨h1, h2, h3⟩ := Pb.prem_ok r (P.vari a).2
      refine ⟨g1.trans h1, h2.trans g3, fun l hl => ?_⟩
      rcases List.mem_cons.1 hl with rfl | hl
      · exact ⟨a, by simp, e, _, h1.num _ _ g2, rfl⟩
      · obtain ⟨q, hq, h4⟩ := h3 l hl
        exact ⟨q, by simp [hq], h4⟩

/-- A step's lemma is there. -/
def Said (P : Pb) (c : Pr) (ps : List Pr) : Prop := ∃ (x : Nat) (ls : List Int), P.num c = some x ∧ (x : Int) :: ls ∈ P.lemmas ∧ ∀ l ∈ ls, ∃ q ∈ ps, q.1 ≠ q.2 ∧ ∃ y, P.num q = some y ∧ l = -(y : Int)
theorem Said.mono {P Q : Pb} (h : PbG P Q) {c : Pr} {ps : List Pr} (hs : Said P c ps) : Said Q c ps := by
  obtain ⟨x, ls, h1, h2, h3⟩ := hs
  refine ⟨x, ls, h.num _ _ h1, h.lem _ h2, fun l hl => ?_⟩
  obtain ⟨q, hq, hne, y, h4, h5⟩ := h3 l hl
  exact ⟨q, hq, hne, y, h.num _ _ h4, h5⟩
def KnownOk (P : Pb) : Prop := ∀ k ∈ P.known, Said P k.1 k.2

theorem Pb.step_ok (P : Pb) (hk : KnownOk P) (st : Stq) : PbG P (P.step st) ∧ KnownOk (P.step st) ∧ Said (P.step st) st.1 (pad4 st.2) := by
  unfold Pb.step
  by_cases e : (st.1, pad4 st.2) ∈ P.known
  · rw [if_pos e]
    exact ⟨PbG.refl P, hk, hk _ e⟩
  · rw [if_neg e]
    obtain ⟨P1, hP1⟩ : ∃ P1 : Pb, P1 = { P with known := P.known ++ [(st.1, pad4 st.2)] } := ⟨_, rfl⟩
    rw [← hP1]
    have g0 : PbG P P1 := by rw [hP1]; exact ⟨fun _ _ h => h, fun _ h => h⟩
    obtain ⟨a1, a2, a3⟩ := P1.vari_ok st.1
    obtain ⟨b1, b2, b3⟩ := Pb.prem_ok (pad4 st.2) (P1.vari st.1).2
    generalize Pb.prem (pad4 st.2) (P1.vari st.1).2 = R at *
    generalize P1.vari st.1 = V at *
    obtain ⟨ls, R⟩ := R
    simp only at b1 b2 b3 ⊢
    have gR : PbG R { R with lemmas := R.lemmas ++ [(V.1 : Int) :: ls] } := ⟨fun _ _ h => h, fun c hc => List.mem_append_left _ hc⟩
    have said : Said { R with lemmas := R.lemmas ++ [(V.1 : Int) :: ls] } st.1 (pad4 st.2) := ⟨V.1, ls, gR.num _ _ (b1.num _ _ a2), by simp, fun l hl => by
      obtain ⟨q, hq, hne, y, h4, h5⟩ := b3 l hl
      exact ⟨q, hq, hne, y, gR.num _ _ h4, h5⟩⟩
    have gAll : PbG P { R with lemmas := R.lemmas ++ [(V.1 : Int) :: ls] } := ((g0.trans a1).trans b1).trans gR
    refine ⟨gAll, fun k hkk => ?_, said⟩
    have hkn : k ∈ R.known := hkk
    rw [b2, a3, hP1] at hkn
    rcases List.mem_append.1 hkn with hkn | hkn
    · exact (hk k hkn).mono gAll
    · simp at hkn
      subst hkn
      exact said

theorem Pb.steps_ok : ∀ (S : List Stq) (P : Pb), KnownOk P → PbG P (S.foldl Pb.step P) ∧ KnownOk (S.foldl Pb.step P) ∧ ∀ st ∈ S, Said (S.foldl Pb.step P) st.1 (pad4 st.2)
  | [], P, h => ⟨PbG.refl P, h, by simp⟩
  | st :: S, P, h => by
    obtain ⟨h1, h2, h3⟩ := P.step_ok h st
    obtain ⟨k1, k2, k3⟩ := Pb.steps_ok S (P.step st) h2
    refine ⟨h1.trans k1, k2, fun s hs => ?_⟩
    rcases List.mem_cons.1 hs with rfl | hs
    · exact h3.mono k1
    · exact k3 s hs

theorem mem_pad4 {ps : List Pr} {q : Pr} (h : q ∈ pad4 ps) : q ∈ ps ∨ q = (0, 0) := by
  unfold pad4 at h
  have := List.mem_of_mem_take h
  rcases List.mem_append.1 this with h | h
  · exact Or.inl h
  · exact Or.inr (List.eq_of_mem_replicate h)

/-- If the steps force a goal from what was told, the clauses force its literal. -/
theorem goal_forced {P : Pb} {S : List Stq} {told : List Pr} {g : Pr} {cs : List (List Int)} (hS : ∀ st ∈ S, Said P st.1 (pad4 st.2)) (hcs : ∀ c ∈ P.lemmas, c ∈ cs)
    (htold : ∀ p ∈ told, ∃ x : Nat, x ≠ 0 ∧ P.num p = some x ∧ [(x : Int)] ∈ cs) (hpos : ∀ a x, P.num a = some x → x ≠ 0)
    (hF : ∀ F : Pr → Prop, (∀ a, F (a, a)) → (∀ p ∈ told, F p) → (∀ st ∈ S, (∀ q ∈ st.2, F q) → F st.1) → F g) (hne : g.1 ≠ g.2) : ∃ x : Nat, P.num g = some x ∧ Forced (cs.map litsN) (litN (x : Int)) := by
  have := hF (fun p => p.1 = p.2 ∨ ∃ x : Nat, P.num p = some x ∧ Forced (cs.map litsN) (litN (x : Int))) (fun a => Or.inl rfl) (fun p hp => ?_) (fun st hst hq => ?_)
  · exact this.resolve_left hne
  · obtain ⟨x, _, h1, h2⟩ := htold p hp
    refine Or.inr ⟨x, h1, Forced.by_ (List.mem_map_of_mem h2) ((mem_litsN _ _).2 ⟨_, by simp, rfl⟩) (fun y hy hne2 => ?_)⟩
    obtain ⟨z, hz, e⟩ := (mem_litsN _ _).1 hy
    simp at hz
    subst hz
    exact absurd e.symm hne2
  · obtain ⟨x, ls, h1, h2, h3⟩ := hS st hst
    refine Or.inr ⟨x, h1, Forced.by_ (List.mem_map_of_mem (hcs _ h2)) ((mem_litsN _ _).2 ⟨_, by simp, rfl⟩) (fun y hy hne2 => ?_)⟩
    obtain ⟨z, hz, e⟩ := (mem_litsN _ _).1 hy
    rcases List.mem_cons.1 hz with rfl | hz
    · exact absurd e.symm hne2
    · obtain ⟨q, hq1, hq2, v, hv, rfl⟩ := h3 z hz
      have hv0 := hpos q v hv
      rw [← e, opp_litN (by omega), Int.neg_neg]
      rcases mem_pad4 hq1 with hq1 | hq1
      · rcases hq q hq1 with h5 | ⟨v', h5, h6⟩
        · exact absurd h5 hq2
        · rw [hv] at h5
          cases h5
          exact h6
      · rw [hq1] at hq2; exact absurd rfl hq2

end Go.Proofs.YtlehlgipbhfioaaGreat
