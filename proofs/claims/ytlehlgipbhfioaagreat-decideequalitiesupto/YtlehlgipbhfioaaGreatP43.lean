/- Package decide: linkByArgs. Package decide: newProof. -/
import Derived.Test.YtlehlgipbhfioaaGreatDdG
import Derived.Test.YtlehlgipbhfioaaGreatP39
namespace Go.Proofs.YtlehlgipbhfioaaGreat
open Go.RowKit Go.Maps

/-- A signature half made. -/
def sgP (g : Uf.G) (t : Tm) (i : Nat) : Tm := ⟨t.name, (List.range 4).map fun k => if k < i then (match t.args[k]? with | some a => g.lo a | none => 0) else 0⟩
theorem sgP_zero (g : Uf.G) (t : Tm) : sgP g t 0 = ⟨t.name, [0, 0, 0, 0]⟩ := rfl
theorem sgP_arg (g : Uf.G) (t : Tm) (i k : Nat) (hk : k < 4) : (sgP g t i).arg k = if k < i then (match t.args[k]? with | some a => g.lo a | none => 0) else 0 := by
  rcases (by omega : k = 0 ∨ k = 1 ∨ k = 2 ∨ k = 3) with rfl | rfl | rfl | rfl <;> rfl
theorem sgP_all (g : Uf.G) (t : Tm) : sgP g t t.args.length = ⟨t.name, sigA g t⟩ := by
  unfold sgP sigA
  congr 1
  apply List.map_congr_left
  intro k hk
  split
  · rfl
  · rw [List.getElem?_eq_none (by omega)]
theorem sgP_step (g : Uf.G) (t : Tm) (i a : Nat) (hi : i < 4) (ha : t.args[i]? = some a) : (sigL (sgP g t i)).set (1 + i) (.int .i64 (g.lo a : Int)) = sigL (sgP g t (i + 1)) := by
  have e : ∀ k, k < 4 → (sgP g t (i + 1)).arg k = if k = i then g.lo a else (sgP g t i).arg k := fun k hk => by
    rw [sgP_arg _ _ _ _ hk, sgP_arg _ _ _ _ hk]
    by_cases e : k = i
    · subst e; rw [if_pos (by omega), if_pos rfl, ha]
    · rw [if_neg e]
      by_cases h : k < i
      · rw [if_pos (by omega), if_pos h]
      · rw [if_neg (by omega), if_neg h]
  unfold sigL
  rw [e 0 (by omega), e 1 (by omega), e 2 (by omega), e 3 (by omega)]
  rcases (by omega : i = 0 ∨ i = 1 ∨ i = 2 ∨ i = 3) with rfl | rfl | rfl | rfl <;> rfl
theorem sgP_sk {g : Uf.G} {t : Tm} {n k : Nat} (hok : Uf.Ok n g k) (ht : t.ok) (hn : n ≤ 1000) (ha : ∀ a ∈ t.args, a < n) : Sk ⟨t.name, sigA g t⟩ := by
  refine ⟨⟨ht.name, by simp [sigA], fun a hm => ?_⟩, by simp [sigA]⟩
  simp only [sigA, List.mem_map, List.mem_range] at hm
  obtain ⟨i, hi, hm⟩ := hm
  cases e : t.args[i]? with
  | none => rw [e] at hm; simp at hm; omega
  | some b =>
    rw [e] at hm
    simp at hm
    have h1 := ha b (List.mem_of_getElem? e)
    have h2 := hok.lole b h1
    omega

/-- Rows of links are short. -/
def Rsh (L : List (List Nat)) (t : List Uf.Rec) : Prop := ∀ r ∈ L, r.length ≤ 2 * t.length
theorem Rsh.get {L : List (List Nat)} {t : List Uf.Rec} (h : Rsh L t) (j : Nat) : (L[j]?.getD []).length ≤ 2 * t.length := by
  cases e : L[j]? with
  | none => simp
  | some r => exact h r (List.mem_of_getElem? e)
theorem Rsh.of {L : List (List Nat)} {t : List Uf.Rec} (h : ∀ j : Nat, (L[j]?.getD []).length ≤ 2 * t.length) : Rsh L t := fun r hr => by
  obtain ⟨j, hj⟩ := List.getElem?_of_mem hr
  have := h j
  rw [hj] at this
  exact this
theorem Rsh.link {n : Nat} {g : Uf.G} {L : List (List Nat)} {t : List Uf.Rec} (h : Rsh L t) (hl : L.length = n) {a b : Nat} (ha : a < n) (hb : b < n) : Rsh (Pf.link n ⟨g, L⟩ a b).2.L (joinT n g t a b) := by
  unfold Pf.link joinT
  by_cases hj : joins n g a b = true
  · simp only [hj, if_true]
    refine Rsh.of (fun j => ?_)
    have h1 := h.get a
    have h2 := h.get b
    have h3 := h.get j
    rw [addAt_get (by unfold addAt; rw [List.length_set, hl]; exact hb), addAt_get (by rw [hl]; exact ha), addAt_get (by rw [hl]; exact ha)]
    simp only [List.length_cons]
    by_cases e1 : j = b
    · rw [if_pos e1]
      by_cases e2 : b = a
      · rw [if_pos e2]; simp; omega
      · rw [if_neg e2]; simp; omega
    · rw [if_neg e1]
      by_cases e2 : j = a
      · rw [if_pos e2]; simp; omega
      · rw [if_neg e2]; omega
  · simp only [hj]
    exact h

set_option maxRecDepth 100000 in
set_option maxHeartbeats 2000000 in
theorem linkA_in (w0 w : World) (l : List Tm) (n : Nat) (hn : n = l.length) (hn2 : n ≤ 1000) (hoks : ∀ t ∈ l, t.ok ∧ ∀ a ∈ t.args, a < n) (pb sp nb kb : Nat) (tv dv jv : Value) (g : Uf.G) (t : List Uf.Rec) (L : List (List Nat)) (lv : Nat → Value) (h : LkM w w0.heap.size pb sp nb kb tv dv jv n g t L lv) (hT : TsAt w0 tv l) (hB : Below w0.heap.size w0 w) (hR : Rsh L t) (fd : Bool) (P : Pf) (hres : lkA n 0 l [] ⟨g, L⟩ false = (fd, P)) :
    Calls Tryz.prog 139 #[.pointer (some ⟨pb, 0, none⟩)] w fun e w' => e = .returned (.bool fd) ∧ ∃ jv' t' lv', LkM w' w0.heap.size pb sp nb kb tv dv jv' n P.g t' P.L lv' ∧ Rsh P.L t' ∧ Below w0.heap.size w0 w' := by
  have hmm := @run_makeMap Tryz.prog
  obtain ⟨ta, tc, htv, _⟩ := id hT
  have x1 : w.cell? ⟨pb, 1, none⟩ = some (.slice ta l.length tc) := by rw [← htv]; exact h.cells.cell (i := 1) (by omega)
  rw [← hn] at x1
  have y1 := Lib.cell?_alloc_some (.map #[] 0) x1
  have hhb : w0.heap.size ≤ w.heap.size := hB.size
  have HI0 : Hid (LkM (w.alloc (.map #[] 0)) w0.heap.size pb sp nb kb tv dv jv n g t L lv ∧ Rsh L t ∧ SgIs (w.alloc (.map #[] 0)) w.heap.size [] ∧ Below w0.heap.size w0 (w.alloc (.map #[] 0)) ∧ lkA n 0 (l.drop 0) [] ⟨g, L⟩ false = (fd, P)) :=
    ⟨h.below ((Below.refl _ _).alloc (Nat.le_refl _) _), hR, SgIs.new w, hB.alloc hhb _, hres⟩
  have HT : Hid (TsAt w0 tv l) := hT
  have HO : Hid _ := hoks
  have HN : Hid _ := hn
  clear hT h hB hR hres hoks x1 hn
  go_enter Tryz.func139, Tryz.ntmps139
  go_wp2_with fail
  generalize w.alloc (.map #[] 0) = w1 at *
  obtain ⟨mb, hmb⟩ : ∃ m, w.heap.size = m := ⟨_, rfl⟩
  have hmbl : w0.heap.size ≤ mb := by omega
  rw [hmb] at HI0
  simp only [hmb]
  clear hmb y1 hmm
  go_loopw [3, 18] (fun t3 t18 W => ∃ (i : Nat) (f : Bool), i ≤ n ∧ t18 = .int .i64 (i : Int) ∧ t3 = .bool f ∧ Hid (∃ fm g L t jv lv, LkM W w0.heap.size pb sp nb kb tv dv jv n g t L lv ∧ Rsh L t ∧ SgIs W mb fm ∧ Below w0.heap.size w0 W ∧ lkA n i (l.drop i) fm ⟨g, L⟩ f = (fd, P) ∧ fm.length ≤ i ∧ ∀ e ∈ fm, e.2 < i)) (fun _ t18 _ => n - (intOf t18).toNat)
  case atStart =>
    obtain ⟨h1, h2, h3, h4, h5⟩ := HI0.out
    exact ⟨0, false, Nat.zero_le _, rfl, rfl, [], g, L, t, jv, lv, h1, h2, h3, h4, h5, Nat.le_refl _, by simp⟩
  case round =>
    obtain ⟨i, f, hi, rfl, rfl, HR⟩ := hrel
    clear HI0
    by_cases hlt : i < n
    · have di : decide ((i : Int) < (n : Int)) = true := decide_eq_true (by omega)
      have hwrap : IntKind.i64.wrap ((i : Int) + 1) = (i : Int) + 1 := wrap_nat1 (by omega)
      have hil : i < l.length := by rw [← HN.out]; exact hlt
      have htt := List.getElem?_eq_getElem hil
      have hokt := HO.out l[i] (List.getElem_mem hil)
      have hdrop : l.drop i = l[i] :: l.drop (i + 1) := List.drop_eq_getElem_cons hil
      generalize l[i] = T at *
      obtain ⟨fm, g, L, t, jv, lv, hM, hR, hS, hB, hlk, hfm⟩ := HR.out
      obtain ⟨tb, tof, tc', u, e1, q1, q2, q3⟩ := (HT.out.mono (Mono.below hB)).get htt
      rw [htv, ← HN.out] at e1
      simp only [Value.slice.injEq, true_and] at e1
      obtain ⟨rfl, rfl⟩ := e1
      obtain ⟨aa, ac, rfl, q4⟩ := id q3
      have HA : Hid (NsAt w0 (.slice aa T.args.length ac) T.args) := by
        obtain ⟨tb', tof', tc'', u', e1, p1, p2, p3⟩ := HT.out.get htt
        have p2' := Mono.below hB _ _ p2
        rw [htv] at e1
        simp only [Value.slice.injEq, Option.some.injEq, Addr.mk.injEq, true_and, and_true] at e1
        obtain ⟨⟨rfl, rfl⟩, rfl⟩ := e1
        rw [q2] at p2'
        cases p2'
        exact p3
      rw [hdrop] at hlk
      have ha4 := hokt.1.args
      have hz0 : w0.heap.size ≤ wr.heap.size := hB.size
      have HI1 : Hid (LkM ((wr.alloc (.cells #[.string T.name, .slice aa T.args.length ac] 102)).alloc (.cells #[.string T.name, .int .i64 0, .int .i64 0, .int .i64 0, .int .i64 0] 288)) w0.heap.size pb sp nb kb tv dv jv n g t L lv ∧ SgIs ((wr.alloc (.cells #[.string T.name, .slice aa T.args.length ac] 102)).alloc (.cells #[.string T.name, .int .i64 0, .int .i64 0, .int .i64 0, .int .i64 0] 288)) mb fm ∧ Below w0.heap.size w0 ((wr.alloc (.cells #[.string T.name, .slice aa T.args.length ac] 102)).alloc (.cells #[.string T.name, .int .i64 0, .int .i64 0, .int .i64 0, .int .i64 0] 288)) ∧ ((wr.alloc (.cells #[.string T.name, .slice aa T.args.length ac] 102)).alloc (.cells #[.string T.name, .int .i64 0, .int .i64 0, .int .i64 0, .int .i64 0] 288)).heap[wr.heap.size + 1]? = some (.cells (sigL (sgP g T 0)).toArray 288)) := by
        have hB2 : Below wr.heap.size wr ((wr.alloc (.cells #[.string T.name, .slice aa T.args.length ac] 102)).alloc (.cells #[.string T.name, .int .i64 0, .int .i64 0, .int .i64 0, .int .i64 0] 288)) := ((Below.refl _ _).alloc (Nat.le_refl _) _).alloc (by simp) _
        obtain ⟨es, ck, hes⟩ := hS.lt
        refine ⟨hM.below hB2, hS.keep (hB2.block mb (Array.getElem?_eq_some_iff.1 hes).1), hB.trans (hB2.mono hz0), ?_⟩
        have := heap_alloc_new (wr.alloc (.cells #[.string T.name, .slice aa T.args.length ac] 102)) (.cells #[.string T.name, .int .i64 0, .int .i64 0, .int .i64 0, .int .i64 0] 288)
        have hz : (wr.alloc (.cells #[.string T.name, .slice aa T.args.length ac] 102)).heap.size = wr.heap.size + 1 := by simp
        rw [hz] at this
        rw [this]
        rfl
      have HK : Hid (_ ∧ _ ∧ _) := And.intro hR (And.intro hlk hfm)
      have HOK : Hid _ := hokt
      clear hR hlk hfm hM hS hB HR q3 q4 hokt hdrop htt
      have hso : Uf.Ok n g t.length := HI1.out.1.sets.ok
      go_wp2_with fail
      obtain ⟨w2, hw2⟩ : ∃ w2, w2 = ((wr.alloc (.cells #[.string T.name, .slice aa T.args.length ac] 102)).alloc (.cells #[.string T.name, .int .i64 0, .int .i64 0, .int .i64 0, .int .i64 0] 288)) := ⟨_, rfl⟩
      rw [← hw2] at HI1 ⊢
      obtain ⟨sb, hsb⟩ : ∃ s, wr.heap.size + 1 = s := ⟨_, rfl⟩
      rw [hsb] at HI1
      simp only [hsb]
      have hsbl : w0.heap.size ≤ sb := by omega
      clear hw2 q1 q2
      go_loopw [29] (fun t29 W => ∃ (j : Nat), j ≤ T.args.length ∧ t29 = .int .i64 (j : Int) ∧ Hid (LkM W w0.heap.size pb sp nb kb tv dv jv n g t L lv ∧ SgIs W mb fm ∧ Below w0.heap.size w0 W ∧ W.heap[sb]? = some (.cells (sigL (sgP g T j)).toArray 288))) (fun t29 _ => T.args.length - (intOf t29).toNat)
      case atStart => exact ⟨0, Nat.zero_le _, rfl, HI1⟩
      case round =>
        obtain ⟨j, hj, rfl, HJ⟩ := hrel
        clear HI1
        by_cases hjl : j < T.args.length
        · have dj : decide ((j : Int) < (T.args.length : Int)) = true := decide_eq_true (by omega)
          have hwj : IntKind.i64.wrap ((j : Int) + 1) = (j : Int) + 1 := wrap_nat1 (by omega)
          obtain ⟨ab, ao, ac', e1, k1⟩ := (HA.out.mono (Mono.below HJ.out.2.2.1)).get (List.getElem?_eq_getElem hjl)
          simp only [Value.slice.injEq, true_and] at e1
          obtain ⟨rfl, rfl⟩ := e1
          have haj := List.getElem?_eq_getElem hjl
          have han := HOK.out.2 T.args[j] (List.getElem_mem hjl)
          have x0 : wr.cell? ⟨pb, 0, none⟩ = some (.pointer (some ⟨sp, 0, none⟩)) := HJ.out.1.cells.cell (i := 0) (by omega)
          generalize T.args[j] = a at *
          have LE := Least_in wr w0.heap.size sp nb n g jv _ HJ.out.1.sets.lies t.length hso a
          rw [inB_nat han, if_pos rfl, Int.toNat_natCast] at LE
          have k2 : wr.cell? ⟨sb, 1 + j, none⟩ = some (.int .i64 ((sgP g T j).arg j : Int)) := by
            have hb := HJ.out.2.2.2
            simp only [World.cell?, hb]
            rcases (by omega : j = 0 ∨ j = 1 ∨ j = 2 ∨ j = 3) with rfl | rfl | rfl | rfl <;> rfl
          have k3 : wr.frozen? ⟨sb, 1 + j, none⟩ = false := by
            have hb := HJ.out.2.2.2
            simp [World.frozen?, hb]
          go_wp2_with (first | (go_at_call 38; refine LE.mono ?_; rintro e w5 ⟨rfl, mq, rfl⟩))
          refine ⟨⟨j + 1, hjl, by simp, ?_⟩, by simp [intOf]; omega⟩
          obtain ⟨z1, z2, z3, z4⟩ := HJ.out
          have z4' : (wr.drewN mq).heap[sb]? = some (.cells (sigL (sgP g T j)).toArray 288) := z4
          have z1' : LkM (wr.drewN mq) w0.heap.size pb sp nb kb tv dv jv n g t L lv := z1.below ⟨rfl, rfl, rfl, Nat.le_refl _, fun _ _ => rfl⟩
          refine ⟨z1'.setSig z4' _ _, z2.keep ?_, (show Below w0.heap.size w0 (wr.drewN mq) from ⟨z3.os, z3.tape, z3.output, z3.size, z3.block⟩).setCell (p := ⟨sb, 1 + j, none⟩) hsbl _, ?_⟩
          · obtain ⟨es, ck, hes⟩ := z2.lt
            have hne : ¬ sb = mb := fun e => by rw [e] at z4; rw [z4] at hes; cases hes
            simp only [World.setCell]
            rw [Array.getElem?_modify, if_neg hne]
            rfl
          · rw [setCell_cells z4' (1 + j) (.int .i64 (g.lo a : Int)), sgP_step g T j a (by omega) haj]
        · have dj : decide ((j : Int) < (T.args.length : Int)) = false := decide_eq_false (by omega)
          obtain rfl : j = T.args.length := by omega
          have hz4 := HJ.out.2.2.2
          rw [sgP_all] at hz4
          have hsk : Sk ⟨T.name, sigA g T⟩ := sgP_sk hso HOK.out.1 hn2 HOK.out.2
          have LK := HJ.out.2.1.look hsk
          simp only [sigV, sigL] at LK
          have c0 : wr.cell? ⟨sb, 0, none⟩ = some (.string T.name) := by simp only [World.cell?, hz4]; rfl
          have c1 : wr.cell? ⟨sb, 1, none⟩ = some (.int .i64 ((⟨T.name, sigA g T⟩ : Tm).arg 0 : Int)) := by simp only [World.cell?, hz4]; rfl
          have c2 : wr.cell? ⟨sb, 2, none⟩ = some (.int .i64 ((⟨T.name, sigA g T⟩ : Tm).arg 1 : Int)) := by simp only [World.cell?, hz4]; rfl
          have c3 : wr.cell? ⟨sb, 3, none⟩ = some (.int .i64 ((⟨T.name, sigA g T⟩ : Tm).arg 2 : Int)) := by simp only [World.cell?, hz4]; rfl
          have c4 : wr.cell? ⟨sb, 4, none⟩ = some (.int .i64 ((⟨T.name, sigA g T⟩ : Tm).arg 3 : Int)) := by simp only [World.cell?, hz4]; rfl
          have hlk := HK.out.2.1
          rw [lkA] at hlk
          simp only at hlk
          cases hf : fstK fm (T.name, sigA g T) with
          | none =>
            rw [hf] at LK hlk
            obtain ⟨W2, r1, r2, r3⟩ := HJ.out.2.1.store hsk hf (n := i) (by omega) (by have := HK.out.2.2.1; omega)
            simp only [sigV, sigL] at r1
            have HF : Hid (LkM W2 w0.heap.size pb sp nb kb tv dv jv n g t L lv ∧ Below w0.heap.size w0 W2) := by
              obtain ⟨z1, z2, z3, z4⟩ := HJ.out
              obtain ⟨es, ck, hes⟩ := z2.lt
              have hl := z1.sets.lies
              refine ⟨z1.keep (z1.sets.other r3 (fun e => drow_map hl.sets hes e.symm) (fun e => drow_map hl.nodes hes e.symm) (fun k hk e => down_map hl.joins hes (e ▸ hk))) (r3.block _ z1.cells.lt (fun e => drow_map z1.cells hes e.symm)) (r3.block _ z1.outer.lt (fun e => drow_map z1.outer hes e.symm)) (fun j b hj hb => r3.block b (ownsRow_lt (z1.rows j hj) hb).2 (fun e => down_map (z1.rows j hj) hes (e ▸ hb))), ⟨r3.os.trans z3.os, r3.tape.trans z3.tape, r3.output.trans z3.output, Nat.le_trans z3.size r3.size, fun k hk => (r3.block k (Nat.lt_of_lt_of_le hk z3.size) (fun e => by omega)).trans (z3.block k hk)⟩⟩
            have HS2 : Hid _ := r2
            generalize (⟨T.name, sigA g T⟩ : Tm).arg 0 = v0 at *
            generalize (⟨T.name, sigA g T⟩ : Tm).arg 1 = v1 at *
            generalize (⟨T.name, sigA g T⟩ : Tm).arg 2 = v2 at *
            generalize (⟨T.name, sigA g T⟩ : Tm).arg 3 = v3 at *
            have HLK : Hid _ := hlk
            clear r2 r3 hz4 hlk HJ hsk
            go_wp2_with fail
            refine ⟨⟨i + 1, f, hlt, by simp, rfl, ?_⟩, by simp [intOf]; omega⟩
            refine ⟨_, g, L, t, jv, lv, HF.out.1, HK.out.1, HS2.out, HF.out.2, HLK.out, ?_, fun e he => ?_⟩
            · have := HK.out.2.2.1
              simp
              exact this
            · rcases List.mem_append.1 he with he | he
              · exact Nat.lt_succ_of_lt (HK.out.2.2.2 e he)
              · simp at he
                subst he
                exact Nat.lt_succ_self i
          | some q =>
            rw [hf] at LK hlk
            simp only at hlk
            have hqi : q < i := by
              have := fstK_some hf
              exact HK.out.2.2.2 _ this
            have hrl : ∀ r ∈ L, r.length ≤ 1048576 := fun r hr => by
              have h1 := HK.out.1 r hr
              have h2 := hso.num
              omega
            have LI := link_in wr w0.heap.size pb sp nb kb tv dv jv n g t L lv HJ.out.1 q i (by omega) hlt hrl
            have HS2 : Hid (∀ W2, MapsStay wr W2 → SgIs W2 mb fm) := fun W2 hms => by
              obtain ⟨es, ck, hes⟩ := HJ.out.2.1.lt
              exact HJ.out.2.1.keep ((hms mb es ck hes).trans hes.symm)
            have HRL : Hid (Rsh (Pf.link n ⟨g, L⟩ q i).2.L (joinT n g t q i)) := HK.out.1.link HJ.out.1.len (by omega) hlt
            have HB2 : Hid (Below w0.heap.size w0 wr) := HJ.out.2.2.1
            generalize (⟨T.name, sigA g T⟩ : Tm).arg 0 = v0 at *
            generalize (⟨T.name, sigA g T⟩ : Tm).arg 1 = v1 at *
            generalize (⟨T.name, sigA g T⟩ : Tm).arg 2 = v2 at *
            generalize (⟨T.name, sigA g T⟩ : Tm).arg 3 = v3 at *
            have HLK : Hid _ := hlk
            simp only [Option.getD_some, Option.isSome_some] at LK
            cases hb : (Pf.link n ⟨g, L⟩ q i).1
            · rw [hb] at LI HLK
              clear hz4 hlk HJ hsk hrl hb hf
              go_wp2_with (first | (go_at_call 138; refine LI.mono ?_; rintro e w5 ⟨rfl, jv', lv', hM5, hB5, hS5⟩; have HF : Hid (_ ∧ _ ∧ _) := And.intro hM5 (And.intro hB5 hS5)))
              refine ⟨⟨i + 1, f, hlt, by simp, rfl, ?_⟩, by simp [intOf]; omega⟩
              refine ⟨fm, _, _, _, _, _, HF.out.1, HRL.out, HS2.out _ HF.out.2.2, HB2.out.trans HF.out.2.1, ?_, Nat.le_succ_of_le HK.out.2.2.1, fun e he => Nat.lt_succ_of_lt (HK.out.2.2.2 e he)⟩
              have := HLK.out
              rw [Bool.or_false] at this
              exact this
            · rw [hb] at LI HLK
              clear hz4 hlk HJ hsk hrl hb hf
              go_wp2_with (first | (go_at_call 138; refine LI.mono ?_; rintro e w5 ⟨rfl, jv', lv', hM5, hB5, hS5⟩; have HF : Hid (_ ∧ _ ∧ _) := And.intro hM5 (And.intro hB5 hS5)))
              refine ⟨⟨i + 1, true, hlt, by simp, rfl, ?_⟩, by simp [intOf]; omega⟩
              refine ⟨fm, _, _, _, _, _, HF.out.1, HRL.out, HS2.out _ HF.out.2.2, HB2.out.trans HF.out.2.1, ?_, Nat.le_succ_of_le HK.out.2.2.1, fun e he => Nat.lt_succ_of_lt (HK.out.2.2.2 e he)⟩
              have := HLK.out
              rw [Bool.or_true] at this
              exact this
    · have di : decide ((i : Int) < (n : Int)) = false := decide_eq_false (by omega)
      obtain rfl : i = n := by omega
      have HF : Hid (f = fd ∧ ∃ jv' t' lv', LkM wr w0.heap.size pb sp nb kb tv dv jv' i P.g t' P.L lv' ∧ Rsh P.L t' ∧ Below w0.heap.size w0 wr) := by
        obtain ⟨fm, g, L, t, jv, lv, h1, h2, h3, h4, h5, h6⟩ := HR.out
        rw [HN.out, List.drop_length, lkA] at h5
        cases h5
        exact ⟨rfl, jv, t, lv, h1, h2, h4⟩
      have hff := HF.out.1
      subst hff
      clear HR
      go_wp2_with fail
      go_ret
      obtain ⟨_, jv', t', lv', h1, h2, h3⟩ := HF.out
      rw [htv] at h1
      exact ⟨rfl, jv', t', ⟨lv', h1⟩, h2, h3⟩
end Go.Proofs.YtlehlgipbhfioaaGreat

namespace Go.Proofs.YtlehlgipbhfioaaGreat
open Go.RowKit Go.Maps

theorem infoIntsq : (Tryz.prog.info? 39).map (fun i => (i.zero, i.size, i.bytes)) = some (some (.slice none 0 0), 1, 24) := by kernel_rfl
theorem make_rowsq (w : World) (n : Nat) (hn : n ≤ 1048577) : (Instr.makeSlice 116 (.int .i64 (n : Int)) (.int .i64 (n : Int))).run Tryz.prog w = .ok (.slice (some ⟨w.heap.size, 0, none⟩) n n) (w.alloc (.cells (List.replicate n (.slice none 0 0)).toArray 39)) := by
  obtain ⟨i0, hi0, hz0, hz1, hz2⟩ := info_parts infoIntsq
  have hmk := run_make (P := Tryz.prog) w 116 39 i0 _ Tryz.underlying116 hi0 hz0 .i64 .i64 (n : Int) (n : Int) (by omega) (Int.le_refl _) (by rw [hz2]; omega) (by omega)
  rw [hz1] at hmk
  simp only [Int.toNat_natCast, Nat.mul_one] at hmk
  rw [← madeCells_one]
  exact hmk
theorem rows_made (w : World) (n : Nat) : (w.alloc (.cells (List.replicate n (Value.slice none 0 0)).toArray 39)).rowIs w.heap.size 39 n (fun _ => .slice none 0 0) := by
  refine ⟨_, heap_alloc_new _ _, by simp, fun i hi => ?_⟩
  simp [hi]
theorem St.lower {w : World} {base base' p nb n : Nat} {jv : Value} {g : Uf.G} {t : List Uf.Rec} (h : St w base p nb jv n g t) (hb : base' ≤ base) : St w base' p nb jv n g t := by
  obtain ⟨⟨h1, h2, h3, h4, h5, h6, h7, h8, h9⟩, hh, hl⟩ := h
  refine ⟨⟨h1, h2, ⟨h3.1, ?_⟩, h4, h5, h6, Nat.le_trans hb h7, Nat.le_trans hb h8, h9⟩, hh, Nat.le_trans hb hl⟩
  rcases h3.2 with e | ⟨g, cap, cur, e, e1, e2, e3⟩
  · exact Or.inl e
  · exact Or.inr ⟨g, cap, cur, e, Nat.le_trans hb e1, e2, e3⟩
theorem LkM.start {W : World} {B sp nb kb n : Nat} {tv dv : Value} (hs : St W B sp nb (.slice none 0 0) n Uf.g0 []) (hk : W.rowIs kb 39 n (fun _ => .slice none 0 0)) (hb : B ≤ kb) (hB : B ≤ W.heap.size) :
    LkM (W.alloc (.cells #[.pointer (some ⟨sp, 0, none⟩), tv, dv, .slice (some ⟨kb, 0, none⟩) n n] 246)) B W.heap.size sp nb kb tv dv (.slice none 0 0) n Uf.g0 [] (List.replicate n []) (fun _ => .slice none 0 0) := by
  have hbl : Below W.heap.size W (W.alloc (.cells #[.pointer (some ⟨sp, 0, none⟩), tv, dv, .slice (some ⟨kb, 0, none⟩) n n] 246)) := (Below.refl _ _).alloc (Nat.le_refl _) _
  refine ⟨(made_row W #[.pointer (some ⟨sp, 0, none⟩), tv, dv, .slice (some ⟨kb, 0, none⟩) n n] 246).congr (fun j hj => ?_), hs.other (S := fun _ => False) ⟨hbl.os, hbl.tape, hbl.output, hbl.size, fun k hk _ => hbl.block k hk⟩ id id (fun _ _ => id), hk.of_block (hbl.block _ hk.lt), fun j hj => ?_, fun i j b _ _ h => by simp [Value.ownBlock] at h, by simp, hB, hb⟩
  · have : j = 0 ∨ j = 1 ∨ j = 2 ∨ j = 3 := by simp at hj; omega
    rcases this with rfl | rfl | rfl | rfl <;> rfl
  · rw [List.getElem?_replicate, if_pos hj]
    exact World.ownsRow_nil _ _ _ _

theorem start1 {w w5 : World} {n : Nat} {tv dv : Value} (hM : St w5 w.heap.size (w.heap.size + 1) w.heap.size (.slice none 0 0) n Uf.g0 []) (hB : Below w.heap.size w.drew w5) :
    ∃ pb sp nb kb, Value.pointer (some ⟨w5.heap.size + 1, 0, none⟩) = .pointer (some ⟨pb, 0, none⟩) ∧ LkM ((w5.alloc (.cells (Array.replicate n (Value.slice none 0 0)) 39)).alloc (.cells #[.pointer (some ⟨w.heap.size + 1, 0, none⟩), tv, dv, .slice (some ⟨w5.heap.size, 0, none⟩) n n] 246)) w.heap.size pb sp nb kb tv dv (.slice none 0 0) n Uf.g0 [] (List.replicate n []) (fun _ => .slice none 0 0) ∧ Below w.heap.size w ((w5.alloc (.cells (Array.replicate n (Value.slice none 0 0)) 39)).alloc (.cells #[.pointer (some ⟨w.heap.size + 1, 0, none⟩), tv, dv, .slice (some ⟨w5.heap.size, 0, none⟩) n n] 246)) := by
  have e : (List.replicate n (Value.slice none 0 0)).toArray = Array.replicate n (Value.slice none 0 0) := by simp
  have hr := rows_made w5 n
  rw [e] at hr
  have hz := hB.size
  have hz' : w.heap.size ≤ w5.heap.size := hz
  have h1 := LkM.start (tv := tv) (dv := dv) (W := w5.alloc (.cells (Array.replicate n (Value.slice none 0 0)) 39)) (B := w.heap.size) (hM.other (S := fun _ => False) ((Kept.refl _ _).alloc _) id id (fun _ _ => id)) hr hz' (by simp; omega)
  have hs : (w5.alloc (.cells (Array.replicate n (Value.slice none 0 0)) 39)).heap.size = w5.heap.size + 1 := by simp
  rw [hs] at h1
  exact ⟨_, _, _, _, rfl, h1, ((show Below w.heap.size w w5 from ⟨hB.os, hB.tape, hB.output, hB.size, hB.block⟩).alloc hz' _).alloc (by rw [hs]; omega) _⟩
theorem start2 {w w5 : World} {n : Nat} {tv dv : Value} (hM : St w5 (w.heap.size + 1) (w.heap.size + 1 + 1) (w.heap.size + 1) (.slice none 0 0) n Uf.g0 []) (hB : Below (w.heap.size + 1) (w.alloc (.cells (Array.replicate n (Value.slice none 0 0)) 39)).drew w5) :
    ∃ pb sp nb kb, Value.pointer (some ⟨w5.heap.size, 0, none⟩) = .pointer (some ⟨pb, 0, none⟩) ∧ LkM (w5.alloc (.cells #[.pointer (some ⟨w.heap.size + 1 + 1, 0, none⟩), tv, dv, .slice (some ⟨w.heap.size, 0, none⟩) n n] 246)) w.heap.size pb sp nb kb tv dv (.slice none 0 0) n Uf.g0 [] (List.replicate n []) (fun _ => .slice none 0 0) ∧ Below w.heap.size w (w5.alloc (.cells #[.pointer (some ⟨w.heap.size + 1 + 1, 0, none⟩), tv, dv, .slice (some ⟨w.heap.size, 0, none⟩) n n] 246)) := by
  have e : (List.replicate n (Value.slice none 0 0)).toArray = Array.replicate n (Value.slice none 0 0) := by simp
  have hr := rows_made w n
  rw [e] at hr
  have hz := hB.size
  have hs : (w.alloc (.cells (Array.replicate n (Value.slice none 0 0)) 39)).drew.heap.size = w.heap.size + 1 := by simp
  rw [hs] at hz
  have h1 := LkM.start (tv := tv) (dv := dv) (W := w5) (B := w.heap.size) (hM.lower (Nat.le_succ _)) (hr.of_block (hB.block _ (Nat.lt_succ_self _))) (Nat.le_refl _) (by omega)
  refine ⟨_, _, _, _, rfl, h1, Below.alloc ?_ (by omega) _⟩
  exact (show Below w.heap.size w (w.alloc (.cells (Array.replicate n (Value.slice none 0 0)) 39)).drew from below_ad w _).trans (hB.mono (Nat.le_succ _))

set_option maxRecDepth 100000 in
set_option maxHeartbeats 2000000 in
theorem newProof_in (w : World) (l : List Tm) (hn2 : l.length ≤ 1000) (hoks : ∀ t ∈ l, t.ok ∧ ∀ a ∈ t.args, a < l.length) (ta : Option Addr) (tc : Nat) (hT : TsAt w (.slice ta l.length tc) l) (da : Option Addr) (dc : Nat) (told : List Pr) (hD : PsAt w (.slice da told.length dc) told) (htd : told.length ≤ 1048576) (htl : ∀ a ∈ told, a.1 < l.length ∧ a.2 < l.length) (P : Pf) (hP : proofN l told = some P) :
    Calls Tryz.prog 92 #[.slice ta l.length tc, .slice da told.length dc] w fun e w' => ∃ pb sp nb kb jv t lv, e = .returned (.pointer (some ⟨pb, 0, none⟩)) ∧ LkM w' w.heap.size pb sp nb kb (.slice ta l.length tc) (.slice da told.length dc) jv l.length P.g t P.L lv ∧ Rsh P.L t ∧ Below w.heap.size w w' := by
  have N : ∀ W, _ := fun W => New_st W l.length (by omega)
  have m1 : ∀ W, _ := fun W => make_rowsq W l.length (by omega)
  obtain ⟨n, hn⟩ : ∃ n, l.length = n := ⟨_, rfl⟩
  have HN : Hid _ := hn
  have HT : Hid _ := hT
  have HD : Hid _ := hD
  have HO : Hid _ := hoks
  have HL : Hid _ := htl
  have HP : Hid _ := hP
  rw [hn] at N m1 hn2 ⊢
  clear hT hD hoks htl hP hn
  go_enter Tryz.func92, Tryz.ntmps92
  go_wp2_with fail
  go_cut [5] from 8 to 17 (fun t5 wx => ∃ pb sp nb kb, t5 = .pointer (some ⟨pb, 0, none⟩) ∧ LkM wx w.heap.size pb sp nb kb (.slice ta n tc) (.slice da told.length dc) (.slice none 0 0) n Uf.g0 [] (List.replicate n []) (fun _ => .slice none 0 0) ∧ Below w.heap.size w wx)
  case first =>
    go_region_law (first | (go_simp; go_at_call 32; refine (N _).mono ?_; rintro e w5 ⟨rfl, hM5, hB5⟩))
    all_goals
      try simp only [Act.put, List.getElem_toArray, List.getElem_cons_succ, List.getElem_cons_zero, List.setIfInBounds_toArray, List.set_cons_succ, List.set_cons_zero]
      go_wp2_with fail
      go_meet
      case rel =>
        first
        | exact start1 hM5 hB5
        | (have hs : (w.alloc (.cells (Array.replicate n (Value.slice none 0 0)) 39)).drew.heap.size = w.heap.size + 1 := by simp
           rw [hs] at hM5 hB5
           exact start2 hM5 hB5)
  case rest =>
    obtain ⟨pb, sp, nb, kb, rfl, M1, B1⟩ := hcut
    have HM1 : Hid (_ ∧ _) := And.intro M1 B1
    clear M1 B1 N m1
    have HM2 : Hid (∃ g t L jv lv, LkM wc w.heap.size pb sp nb kb (.slice ta n tc) (.slice da told.length dc) jv n g t L lv ∧ Rsh L t ∧ Below w.heap.size w wc ∧ lkN l (n + 2) (Pf.tell n (told.drop 0) ⟨g, L⟩) = some P) := by
      refine ⟨_, _, _, _, _, HM1.out.1, fun r hr => ?_, HM1.out.2, ?_⟩
      · rw [List.mem_replicate] at hr
        rw [hr.2]
        exact Nat.zero_le _
      · have := HP.out
        unfold proofN at this
        rw [HN.out] at this
        exact this
    clear HM1
    go_wp2_with fail
    obtain ⟨dn, hdn⟩ : ∃ d, told.length = d := ⟨_, rfl⟩
    have HDN : Hid _ := hdn
    rw [hdn] at HM2 htd ⊢
    clear hdn
    go_loopw [20] (fun t20 W => ∃ (i : Nat), i ≤ dn ∧ t20 = .int .i64 (i : Int) ∧ Hid (∃ g t L jv lv, LkM W w.heap.size pb sp nb kb (.slice ta n tc) (.slice da dn dc) jv n g t L lv ∧ Rsh L t ∧ Below w.heap.size w W ∧ lkN l (n + 2) (Pf.tell n (told.drop i) ⟨g, L⟩) = some P)) (fun t20 _ => dn - (intOf t20).toNat)
    case atStart => exact ⟨0, Nat.zero_le _, rfl, HM2⟩
    case round =>
      obtain ⟨i, hi, rfl, HR⟩ := hrel
      clear HM2
      by_cases hlt : i < dn
      · have di : decide ((i : Int) < (dn : Int)) = true := decide_eq_true (by omega)
        have hwrap : IntKind.i64.wrap ((i : Int) + 1) = (i : Int) + 1 := wrap_nat1 (by omega)
        have hil : i < told.length := by rw [HDN.out]; exact hlt
        obtain ⟨g, t, L, jv, lv, hM, hR, hB, hlk⟩ := HR.out
        have hdrop : told.drop i = told[i] :: told.drop (i + 1) := List.drop_eq_getElem_cons hil
        rw [hdrop, Pf.tell] at hlk
        obtain ⟨a1, a2⟩ := HL.out _ (List.getElem_mem hil)
        obtain ⟨b, off, hda, q1, q2⟩ : ∃ b off, da = some ⟨b, off, none⟩ ∧ wr.cell? ⟨b, off + i * 2, none⟩ = some (.int .i64 (told[i].1 : Int)) ∧ wr.cell? ⟨b, off + i * 2 + 1, none⟩ = some (.int .i64 (told[i].2 : Int)) := by
          obtain ⟨a, c, e, hp⟩ := (show PsAt w (.slice da told.length dc) told from HD.out).mono (Mono.below hB)
          simp only [Value.slice.injEq, true_and] at e
          obtain ⟨rfl, rfl⟩ := e
          rcases hp with e | ⟨b, off, rfl, hp⟩
          · rw [e] at hil; simp at hil
          · exact ⟨b, off, rfl, hp i _ (List.getElem?_eq_getElem hil)⟩
        subst hda
        rw [HN.out] at a1 a2
        have hso : Uf.Ok n g t.length := hM.sets.ok
        have hrl : ∀ r ∈ L, r.length ≤ 1048576 := fun r hr => by
          have h1 := hR r hr
          have h2 := hso.num
          omega
        have hbx : Below wr.heap.size wr (wr.alloc (.cells #[.int .i64 (told[i].1 : Int), .int .i64 (told[i].2 : Int)] 34)) := (Below.refl _ _).alloc (Nat.le_refl _) _
        have LI := link_in (wr.alloc (.cells #[.int .i64 (told[i].1 : Int), .int .i64 (told[i].2 : Int)] 34)) w.heap.size pb sp nb kb _ _ jv n g t L lv (hM.below hbx) told[i].1 told[i].2 a1 a2 hrl
        have HF : Hid (Rsh (Pf.link n ⟨g, L⟩ told[i].1 told[i].2).2.L (joinT n g t told[i].1 told[i].2) ∧ Below w.heap.size w (wr.alloc (.cells #[.int .i64 (told[i].1 : Int), .int .i64 (told[i].2 : Int)] 34)) ∧ lkN l (n + 2) (Pf.tell n (told.drop (i + 1)) (Pf.link n ⟨g, L⟩ told[i].1 told[i].2).2) = some P) := ⟨hR.link hM.len a1 a2, hB.alloc hB.size _, hlk⟩
        clear hlk hR hM hB hrl HR hdrop hbx
        generalize told[i] = p at *
        go_wp2_with (first | (go_at_call 138; refine LI.mono ?_; rintro e w5 ⟨rfl, jv', lv', hM5, hB5, hS5⟩; have HG : Hid (_ ∧ _) := And.intro hM5 hB5))
        refine ⟨⟨i + 1, hlt, by simp, ?_⟩, by simp [intOf]; omega⟩
        exact ⟨_, _, _, _, _, HG.out.1, HF.out.1, HF.out.2.1.trans HG.out.2, HF.out.2.2⟩
      · have di : decide ((i : Int) < (dn : Int)) = false := decide_eq_false (by omega)
        obtain rfl : i = dn := by omega
        have HM3 : Hid (∃ g t L jv lv, LkM wr w.heap.size pb sp nb kb (.slice ta n tc) (.slice da i dc) jv n g t L lv ∧ Rsh L t ∧ Below w.heap.size w wr ∧ lkN l (n + 2) ⟨g, L⟩ = some P) := by
          obtain ⟨g, t, L, jv, lv, hM, hR, hB, hlk⟩ := HR.out
          rw [← HDN.out, List.drop_length, Pf.tell] at hlk
          exact ⟨g, t, L, jv, lv, hM, hR, hB, hlk⟩
        clear HR
        go_wp2_with fail
        go_loopg [31] (n + 2) (fun k _ W => Hid (∃ g t L jv lv, LkM W w.heap.size pb sp nb kb (.slice ta n tc) (.slice da i dc) jv n g t L lv ∧ Rsh L t ∧ Below w.heap.size w W ∧ lkN l k ⟨g, L⟩ = some P))
        case atStart => exact HM3
        case round =>
          clear HM3
          obtain ⟨g, t, L, jv, lv, hM, hR, hB, hlk⟩ := hrel.out
          cases gk with
          | zero => exact absurd hlk (by simp [lkN])
          | succ k =>
          rw [lkN] at hlk
          have hT2 : TsAt w (.slice ta n tc) l := by rw [← HN.out]; exact HT.out
          have hO2 : ∀ t ∈ l, t.ok ∧ ∀ a ∈ t.args, a < n := by rw [← HN.out]; exact HO.out
          cases hres : lkA l.length 0 l [] ⟨g, L⟩ false with
          | mk fd P' =>
          rw [hres] at hlk
          have LA := linkA_in w wr l n HN.out.symm hn2 hO2 pb sp nb kb _ _ jv g t L lv hM hT2 hB hR fd P' (by rw [← HN.out]; exact hres)
          cases fd
          · simp only [Bool.false_eq_true, if_false, Option.some.injEq] at hlk
            subst hlk
            clear hres hM hR hB hT2 hO2 hrel
            go_wp2_with (first | (go_at_call 139; refine LA.mono ?_; rintro e w5 ⟨rfl, jv', t', lv', hM5, hR5, hB5⟩; have HG : Hid (_ ∧ _ ∧ _) := And.intro hM5 (And.intro hR5 hB5)))
            go_ret
            have HG1 := HG.out.1
            rw [← HDN.out] at HG1
            exact ⟨pb, sp, nb, kb, jv', t', lv', rfl, HG1, HG.out.2.1, HG.out.2.2⟩
          · simp only [if_true] at hlk
            have HLK : Hid _ := hlk
            clear hres hM hR hB hT2 hO2 hrel hlk
            go_wp2_with (first | (go_at_call 139; refine LA.mono ?_; rintro e w5 ⟨rfl, jv', t', lv', hM5, hR5, hB5⟩; have HG : Hid (_ ∧ _ ∧ _) := And.intro hM5 (And.intro hR5 hB5)))
            go_roundg k
            case measure => omega
            case rel => exact ⟨P'.g, t', P'.L, jv', lv', HG.out.1, HG.out.2.1, HG.out.2.2, HLK.out⟩
end Go.Proofs.YtlehlgipbhfioaaGreat
