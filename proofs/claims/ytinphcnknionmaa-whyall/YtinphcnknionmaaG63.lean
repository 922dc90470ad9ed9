/- The document's Why (equateref04): within, All, Without, Good. The document's Why (equateref04): Good, Follows. The document's Why (equateref04): Follows, Rises, Is; law04: Kept. The document's Why (equateref04): Rises, Is; law04: Kept. law04: WhyAll's walk. -/
import Derived.Test.YtinphcnknionmaaG55
import Derived.Test.YtinphcnknionmaaG60
namespace Go.Proofs.Ytinphcnknionmaa
open Go.RowKit Go.Maps

set_option maxHeartbeats 1000000 in
theorem within4_in (w : World) (a : Int) (aa : Option Addr) (n ac : Nat) :
    Calls Try.prog 96 #[.int .i64 a, .slice aa n ac] w fun e w' => e = .returned (.bool (inB n a)) ∧ w = w' := by
  go_enter Try.func96, Try.ntmps96
  go_wp2
  · go_ret
    exact ⟨ret_bool (inB_ge ‹_›), rfl⟩
  · go_ret
    exact ⟨ret_bool (inB_lt ‹_›), rfl⟩

/-- Numbers in memory. -/
abbrev Nums (w : World) (B : Nat) (v : Value) (ns : List Nat) : Prop := w.ownsRow B 3 1 v ns.length (natC ns)
theorem Nums.kept0 {w w' : World} {B : Nat} {v : Value} {ns : List Nat} (h : Nums w B v ns) (K : Kept0 w w') : Nums w' B v ns := ownsRow_block h (fun j hj => K.block j (h.lt j hj).2 (fun e => e))
theorem Nums.cell {w : World} {B : Nat} {a : Option Addr} {c : Nat} {ns : List Nat} (h : Nums w B (.slice a ns.length c) ns) {k n : Nat} (hk : ns[k]? = some n) : ∃ g, a = some ⟨g, 0, none⟩ ∧ ∀ W, Kept0 w W → W.cell? ⟨g, k, none⟩ = some (.int .i64 (n : Int)) := by
  have hkl := (List.getElem?_eq_some_iff.1 hk).1
  rcases h.2 with ⟨_, e2⟩ | ⟨g, c9, cur, e', _⟩
  · omega
  · simp only [Value.slice.injEq] at e'
    obtain ⟨rfl, _, _⟩ := e'
    refine ⟨g, rfl, fun W K => ?_⟩
    have := (h.kept0 K).cellAt k (by omega)
    rw [natC_get, hk] at this
    exact this

/-- A number is put behind a row of one's own. -/
theorem Nums.snoc {w W wa w1 : World} {v v' : Value} {ns : List Nat} {n : Nat} (hrow : W.ownsRow w.heap.size 3 1 v ns.length (natC ns)) (K : Kept0 w W) (K0 : Kept0 W wa)
    (hown : w1.ownsRow w.heap.size 3 1 v' (ns.length + 1) (natC ns ++ [.int .i64 (n : Int)])) (hgrow : wa.grownBy w1 v.ownBlock) : w1.ownsRow w.heap.size 3 1 v' (ns ++ [n]).length (natC (ns ++ [n])) ∧ Kept0 w w1 := by
  refine ⟨by rw [List.length_append, ← natC_app]; exact hown, ?_⟩
  have K1 : Kept (fun j => v.ownBlock = some j) W w1 := Kept.grown (Kept.mono K0 (fun _ _ e => e.elim)) hgrow (fun _ e => e)
  exact K.into K1 (fun i hi => .inr (hrow.lt i hi).1)

set_option maxHeartbeats 2000000 in
set_option maxRecDepth 100000 in
theorem all4_in (w : World) (n : Nat) (hn : n ≤ 8796093022208) :
    Calls Try.prog 54 #[.int .i64 (n : Int)] w fun e w' => ∃ va vc, e = .returned (.slice va n vc) ∧ w'.ownsRow w.heap.size 3 1 (.slice va n vc) n (natC (List.range n)) ∧ Kept0 w w' := by
  obtain ⟨i0, hi0, hz0, hz1, hz2⟩ := info_parts infoIntK
  go_enter Try.func54, Try.ntmps54
  go_wp2_with fail
  go_loopw [3, 4] (fun t3 t4 W => ∃ k : Nat, k ≤ n ∧ t4 = .int .i64 (k : Int) ∧ W.ownsRow w.heap.size 3 1 t3 k (natC (List.range k)) ∧ Kept0 w W) (fun _ t4 _ => n - (intOf t4).toNat)
  case atStart => exact ⟨0, Nat.zero_le _, rfl, World.ownsRow_nil _ _ _ _, Kept.refl _ _⟩
  case round =>
    obtain ⟨k, hk, rfl, R, K⟩ := hrel
    obtain ⟨va, vc, hv⟩ := row_form' R
    subst hv
    by_cases hk2 : k < n
    · have dk : decide ((k : Int) < (n : Int)) = true := decide_eq_true (by omega)
      have hs := K.size
      have HF : Hid (∀ wa w1 v', Kept0 wr wa → w1.ownsRow w.heap.size 3 1 v' (k + 1) (natC (List.range k) ++ [.int .i64 (k : Int)]) → wa.grownBy w1 (Value.slice va k vc).ownBlock → w1.ownsRow w.heap.size 3 1 v' (k + 1) (natC (List.range (k + 1))) ∧ Kept0 w w1) := fun wa w1 v' K0 h1 h2 => by
        have R' : wr.ownsRow w.heap.size 3 1 (.slice va k vc) (List.range k).length (natC (List.range k)) := by rw [List.length_range]; exact R
        have := Nums.snoc R' K K0 (by rw [List.length_range]; exact h1) h2
        rw [List.length_append, List.length_range] at this
        rw [List.range_succ]
        exact this
      clear K
      generalize List.range k = rk at *
      go_wp2_with (at_builtin; go_loud (refine wpList_append_here rfl _ _ 40 rfl w.heap.size 3 i0 _ 1 8 Try.underlying40 hi0 hz0 hz1 hz2 rfl (by decide) _ _ (natC rk) rfl (R.alloc _) ⟨wr.heap.size, 0, none⟩ 1 1 [.int .i64 (k : Int)] rfl rfl (by exact one_newD wr 0 _ _) (by simp [Value.oneCell']) (by unfold maxLen; omega) (by omega) (by simp; omega) ?_; intro v6 w6 hown6 hgr6 hloc6))
      obtain ⟨f1, f2⟩ := HF.out _ w6 v6 ((Kept.refl _ wr).alloc _) hown6 hgr6
      exact ⟨⟨k + 1, hk2, by simp, f1, f2⟩, by simp [intOf]; omega⟩
    · have dk : decide ((k : Int) < (n : Int)) = false := decide_eq_false (by omega)
      obtain rfl : k = n := by omega
      have HH : Hid (_ ∧ _) := And.intro R K
      clear R K
      go_wp2_with fail
      go_ret
      exact ⟨va, vc, rfl, HH.out.1, HH.out.2⟩

/-- A list less the i-th. -/
def without (ns : List Nat) (i k : Nat) : List Nat := ((List.range k).filter (· != i)).filterMap fun j => ns[j]?
theorem without_snoc (ns : List Nat) (i k n : Nat) (hn : ns[k]? = some n) : without ns i (k + 1) = if k = i then without ns i k else without ns i k ++ [n] := by
  unfold without
  rw [List.range_succ, List.filter_append, List.filterMap_append]
  by_cases e : k = i
  · subst e; simp
  · simp [e, hn]
theorem without_len (ns : List Nat) (i k : Nat) : (without ns i k).length ≤ k := by
  unfold without
  refine Nat.le_trans (List.length_filterMap_le _ _) (Nat.le_trans (List.length_filter_le _ _) ?_)
  simp
theorem without_mem {ns : List Nat} {i k n : Nat} (h : n ∈ without ns i k) : ∃ j, j ≠ i ∧ ns[j]? = some n := by
  unfold without at h
  obtain ⟨j, hj, hn⟩ := List.mem_filterMap.1 h
  exact ⟨j, by simpa using (List.mem_filter.1 hj).2, hn⟩

set_option maxHeartbeats 2000000 in
set_option maxRecDepth 100000 in
theorem without_in (w : World) (B : Nat) (ca : Option Addr) (cc : Nat) (ns : List Nat) (h : Nums w B (.slice ca ns.length cc) ns) (hn : ns.length ≤ 8796093022208) (i : Nat) :
    Calls Try.prog 99 #[.slice ca ns.length cc, .int .i64 (i : Int)] w fun e w' => ∃ va vc, e = .returned (.slice va (without ns i ns.length).length vc) ∧ Nums w' w.heap.size (.slice va (without ns i ns.length).length vc) (without ns i ns.length) ∧ Kept0 w w' := by
  obtain ⟨i0, hi0, hz0, hz1, hz2⟩ := info_parts infoIntK
  go_enter Try.func99, Try.ntmps99
  go_wp2_with fail
  go_loopw [5, 6] (fun t5 t6 W => ∃ k : Nat, k ≤ ns.length ∧ t6 = .int .i64 (k : Int) ∧ W.ownsRow w.heap.size 3 1 t5 (without ns i k).length (natC (without ns i k)) ∧ Kept0 w W) (fun _ t6 _ => ns.length - (intOf t6).toNat)
  case atStart => exact ⟨0, Nat.zero_le _, rfl, World.ownsRow_nil _ _ _ _, Kept.refl _ _⟩
  case round =>
    obtain ⟨k, hk, rfl, R, K⟩ := hrel
    obtain ⟨va, vc, hv⟩ := row_form' R
    subst hv
    have hwl := without_len ns i k
    by_cases hk2 : k < ns.length
    · have dk : decide ((k : Int) < (ns.length : Int)) = true := decide_eq_true (by omega)
      have hx : ns[k]? = some ns[k] := List.getElem?_eq_getElem hk2
      generalize hok : ns[k] = n at hx
      clear hok
      obtain ⟨g, rfl, hc⟩ := h.cell hx
      have cn := hc wr K
      have hs := K.size
      have ew := without_snoc ns i k n hx
      by_cases e : k = i
      · have de : ((k : Int) != (i : Int)) = false := by simp [e]
        rw [if_pos e] at ew
        have HH : Hid (_ ∧ _ ∧ _) := And.intro R (And.intro K ew)
        clear R K ew hx hc h e hwl
        go_wp2_with fail
        exact ⟨⟨k + 1, hk2, by simp, by rw [HH.out.2.2]; exact HH.out.1, HH.out.2.1⟩, by simp [intOf]; omega⟩
      · have de : ((k : Int) != (i : Int)) = true := by simp; omega
        rw [if_neg e] at ew
        have HF : Hid (∀ wa w1 v', Kept0 wr wa → w1.ownsRow w.heap.size 3 1 v' ((without ns i k).length + 1) (natC (without ns i k) ++ [.int .i64 (n : Int)]) → wa.grownBy w1 (Value.slice va (without ns i k).length vc).ownBlock → w1.ownsRow w.heap.size 3 1 v' (without ns i (k + 1)).length (natC (without ns i (k + 1))) ∧ Kept0 w w1) := fun wa w1 v' K0 h1 h2 => by
          rw [ew]
          exact Nums.snoc R K K0 h1 h2
        clear K ew hx hc h e
        generalize without ns i k = rk at *
        go_wp2_with (at_builtin; go_loud (refine wpList_append_here rfl _ _ 40 rfl w.heap.size 3 i0 _ 1 8 Try.underlying40 hi0 hz0 hz1 hz2 rfl (by decide) _ _ (natC rk) rfl (R.alloc _) ⟨wr.heap.size, 0, none⟩ 1 1 [.int .i64 (n : Int)] rfl rfl (by exact one_newD wr 0 _ _) (by simp [Value.oneCell']) (by unfold maxLen; omega) (by omega) (by simp; omega) ?_; intro v6 w6 hown6 hgr6 hloc6))
        obtain ⟨f1, f2⟩ := HF.out _ w6 v6 ((Kept.refl _ wr).alloc _) hown6 hgr6
        exact ⟨⟨k + 1, hk2, by simp, f1, f2⟩, by simp [intOf]; omega⟩
    · have dk : decide ((k : Int) < (ns.length : Int)) = false := decide_eq_false (by omega)
      obtain rfl : k = ns.length := by omega
      have HH : Hid (_ ∧ _) := And.intro R K
      clear R K hwl
      go_wp2_with fail
      go_ret
      exact ⟨va, vc, rfl, HH.out.1, HH.out.2⟩

end Go.Proofs.Ytinphcnknionmaa

namespace Go.Proofs.Ytinphcnknionmaa
open Go.RowKit Go.Maps

theorem prs_step_no {N : Nat} {ps : List (Int × Int)} {ns : List Nat} {k n : Nat} {p : Int × Int} (hn : ns[k]? = some n) (hp : ps[n]? = some p) (hin : (inB N p.1 && inB N p.2) = false) : Wm.prs N ps (ns.take (k + 1)) = Wm.prs N ps (ns.take k) := by
  rw [List.take_add_one, hn, Option.toList_some, Wm.prs_app]
  simp [Wm.prs, hp, Wm.okP, hin]
theorem prs_step_yes {N : Nat} {ps : List (Int × Int)} {ns : List Nat} {k n : Nat} {p : Int × Int} (hn : ns[k]? = some n) (hp : ps[n]? = some p) (hin : (inB N p.1 && inB N p.2) = true) : Wm.prs N ps (ns.take (k + 1)) = Wm.prs N ps (ns.take k) ++ [(p.1.toNat, p.2.toNat)] := by
  rw [List.take_add_one, hn, Option.toList_some]
  exact Wm.prs_snoc (by rw [hp]; simp [Wm.okP, hin])

set_option maxHeartbeats 4000000 in
set_option maxRecDepth 100000 in
theorem good_in (w : World) (aa : Option Addr) (N ac : Nat) (a : Option Addr) (cp : Nat) (ps : List (Int × Int)) (hP : Prw w a ps) (B : Nat) (ca : Option Addr) (cc : Nat) (ns : List Nat) (h : Nums w B (.slice ca ns.length cc) ns) (hnb : ns.length ≤ 8796093022208) (hlt : ∀ n, n ∈ ns → n < ps.length) :
    Calls Try.prog 97 #[.slice aa N ac, .slice a ps.length cp, .slice ca ns.length cc] w fun e w' => ∃ va vc, e = .returned (.slice va (Wm.prs N ps ns).length vc) ∧ w'.ownsRow w.heap.size 70 2 (.slice va (Wm.prs N ps ns).length vc) (Wm.prs N ps ns).length (pairC (pInt (Wm.prs N ps ns))) ∧ Kept0 w w' := by
  obtain ⟨i0, hi0, hz0, hz1, hz2⟩ := info_parts (show (Try.prog.info? 70).map (fun i => (i.zero, i.size, i.bytes)) = some (some (.agg #[.int .i64 0, .int .i64 0]), 2, 16) by kernel_rfl)
  have HP : Hid (Prw w a ps) := hP
  have HN : Hid (Nums w B (.slice ca ns.length cc) ns) := h
  have HLT : Hid (∀ n, n ∈ ns → n < ps.length) := hlt
  clear hP h hlt
  go_enter Try.func97, Try.ntmps97
  go_wp2_with fail
  go_loopw [7, 8] (fun t7 t8 W => ∃ k : Nat, k ≤ ns.length ∧ t8 = .int .i64 (k : Int) ∧ W.ownsRow w.heap.size 70 2 t7 (Wm.prs N ps (ns.take k)).length (pairC (pInt (Wm.prs N ps (ns.take k)))) ∧ Kept0 w W) (fun _ t8 _ => ns.length - (intOf t8).toNat)
  case atStart => exact ⟨0, Nat.zero_le _, rfl, World.ownsRow_nil _ _ _ _, Kept.refl _ _⟩
  case round =>
    obtain ⟨k, hk, rfl, R, K⟩ := hrel
    obtain ⟨va, vc, hv⟩ := row_form' R
    subst hv
    have hpl : (Wm.prs N ps (ns.take k)).length ≤ k := Nat.le_trans (Wm.prs_len N ps (ns.take k)) (by rw [List.length_take]; omega)
    by_cases hk2 : k < ns.length
    · have dk : decide ((k : Int) < (ns.length : Int)) = true := decide_eq_true (by omega)
      have hx : ns[k]? = some ns[k] := List.getElem?_eq_getElem hk2
      generalize hok : ns[k] = n at hx
      clear hok
      have hnl := HLT.out n (List.mem_of_getElem? hx)
      have hp : ps[n]? = some ps[n] := List.getElem?_eq_getElem hnl
      generalize hok : ps[n] = p at hp
      clear hok
      obtain ⟨g, rfl, hc⟩ := HN.out.cell hx
      have cn := hc wr K
      obtain ⟨b, off, rfl, hbl, y1, y2⟩ := HP.out.kept0 K n p hp
      have hs := K.size
      have KA : Kept0 wr (wr.alloc (.cells #[.int .i64 p.1, .int .i64 p.2] 70)) := (Kept.refl _ wr).alloc _
      have RA := made_row wr #[.int .i64 p.1, .int .i64 p.2] 70
      have RB : (wr.alloc (.cells #[.int .i64 p.1, .int .i64 p.2] 70)).ownsRow w.heap.size 70 2 (.slice va (Wm.prs N ps (ns.take k)).length vc) (Wm.prs N ps (ns.take k)).length (pairC (pInt (Wm.prs N ps (ns.take k)))) := ownsRow_block R (fun j hj => KA.block j (R.lt j hj).2 (fun e => e))
      have z1 : (wr.alloc (.cells #[.int .i64 p.1, .int .i64 p.2] 70)).cell? ⟨wr.heap.size, 0, none⟩ = some (.int .i64 p.1) := RA.cell (i := 0) (by simp)
      have z2 : (wr.alloc (.cells #[.int .i64 p.1, .int .i64 p.2] 70)).cell? ⟨wr.heap.size, 1, none⟩ = some (.int .i64 p.2) := RA.cell (i := 1) (by simp)
      have WI : Hid (∀ (W : World) (q : Int) (b : Bool), inB N q = b → Calls Try.prog 96 #[.int .i64 q, .slice aa N ac] W fun e w' => e = .returned (.bool b) ∧ W = w') := fun W q b hb => by
        rw [← hb]
        exact within4_in W q aa N ac
      cases h1 : inB N p.1
      · have ew := prs_step_no (N := N) hx hp (by rw [h1]; rfl)
        have WA := fun W => WI.out W p.1 false h1
        have HH : Hid (_ ∧ _ ∧ _) := And.intro RB (And.intro (K.trans KA) ew)
        clear R RA RB K KA hc hx hp h1 ew WI hpl
        generalize p.1 = pa at *
        generalize p.2 = pb at *
        go_wp2_with (go_at_call 96; refine (WA _).mono ?_; rintro e w6 ⟨rfl, rfl⟩)
        exact ⟨⟨k + 1, hk2, by simp, by rw [HH.out.2.2]; exact HH.out.1, HH.out.2.1⟩, by simp [intOf]; omega⟩
      · have WA := fun W => WI.out W p.1 true h1
        cases h2 : inB N p.2
        · have ew := prs_step_no (N := N) hx hp (by rw [h1, h2]; rfl)
          have WB : Hid (∀ W, Calls Try.prog 96 #[.int .i64 p.2, .slice aa N ac] W fun e w' => e = .returned (.bool false) ∧ W = w') := fun W => WI.out W p.2 false h2
          have HH : Hid (_ ∧ _ ∧ _) := And.intro RB (And.intro (K.trans KA) ew)
          clear R RA RB K KA hc hx hp h1 h2 ew WI hpl
          generalize p.1 = pa at *
          generalize p.2 = pb at *
          go_wp2_with (first | (go_at_call 96; refine (WB1 _).mono ?_; rintro e w6 ⟨rfl, rfl⟩) | (go_at_call 96; refine (WA _).mono ?_; rintro e w6 ⟨rfl, rfl⟩; have WB1 := WB.out; clear WA))
          exact ⟨⟨k + 1, hk2, by simp, by rw [HH.out.2.2]; exact HH.out.1, HH.out.2.1⟩, by simp [intOf]; omega⟩
        · have ew := prs_step_yes (N := N) hx hp (by rw [h1, h2]; rfl)
          have WB : Hid (∀ W, Calls Try.prog 96 #[.int .i64 p.2, .slice aa N ac] W fun e w' => e = .returned (.bool true) ∧ W = w') := fun W => WI.out W p.2 true h2
          have i1 := (inB_true h1).1
          have i2 := (inB_true h2).1
          have HF : Hid (∀ wa w1 v', Kept0 (wr.alloc (.cells #[.int .i64 p.1, .int .i64 p.2] 70)) wa → w1.ownsRow w.heap.size 70 2 v' ((Wm.prs N ps (ns.take k)).length + 1) (pairC (pInt (Wm.prs N ps (ns.take k))) ++ [.int .i64 p.1, .int .i64 p.2]) → wa.grownBy w1 (Value.slice va (Wm.prs N ps (ns.take k)).length vc).ownBlock → w1.ownsRow w.heap.size 70 2 v' (Wm.prs N ps (ns.take (k + 1))).length (pairC (pInt (Wm.prs N ps (ns.take (k + 1))))) ∧ Kept0 w w1) := fun wa w1 v' K0 g1 g2 => by
            rw [ew]
            have e2 : pInt (Wm.prs N ps (ns.take k) ++ [(p.1.toNat, p.2.toNat)]) = pInt (Wm.prs N ps (ns.take k)) ++ [(p.1, p.2)] := by
              simp only [pInt, List.map_append, List.map_cons, List.map_nil]
              rw [Int.toNat_of_nonneg i1, Int.toNat_of_nonneg i2]
            rw [List.length_append, e2, pairC_snoc]
            refine ⟨g1, ?_⟩
            have K1 : Kept (fun j => (Value.slice va (Wm.prs N ps (ns.take k)).length vc).ownBlock = some j) _ w1 := Kept.grown (Kept.mono K0 (fun _ _ e => e.elim)) g2 (fun _ e => e)
            exact (K.trans KA).into K1 (fun i hi => .inr (R.lt i hi).1)
          have hsa : (wr.alloc (.cells #[.int .i64 p.1, .int .i64 p.2] 70)).heap.size = wr.heap.size + 1 := by simp
          clear R RA K KA hc hx hp h1 h2 ew WI i1 i2
          generalize p.1 = pa at *
          generalize p.2 = pb at *
          generalize Wm.prs N ps (ns.take k) = Qk at *
          generalize hw2 : wr.alloc (.cells #[.int .i64 pa, .int .i64 pb] 70) = w2 at *
          have NEW := cell_two_news w2 0 (.int .i64 pa) (.int .i64 pb) 70
          go_wp2_with (first | (go_at_call 96; refine (WB1 _).mono ?_; rintro e w6 ⟨rfl, rfl⟩) | (go_at_call 96; refine (WA _).mono ?_; rintro e w6 ⟨rfl, rfl⟩; have WB1 := WB.out; clear WA) | (at_builtin; go_loud (refine wpList_append_here rfl _ _ 65 rfl w.heap.size 70 i0 _ 2 16 Try.underlying65 hi0 hz0 hz1 hz2 rfl (by decide) _ _ (pairC (pInt Qk)) rfl (RB.alloc _) ⟨w2.heap.size, 0, none⟩ 1 1 [.int .i64 pa, .int .i64 pb] (by simp [Act.eval, hsa]) rfl (by exact NEW) (by simp [Value.oneCell']) (by unfold maxLen; omega) (by omega) (by simp; omega) ?_; intro v6 w6 hown6 hgr6 hloc6)))
          obtain ⟨f1, f2⟩ := HF.out _ w6 v6 ((Kept.refl _ w2).alloc _) hown6 hgr6
          exact ⟨⟨k + 1, hk2, by simp, f1, f2⟩, by simp [intOf]; omega⟩
    · have dk : decide ((k : Int) < (ns.length : Int)) = false := decide_eq_false (by omega)
      obtain rfl : k = ns.length := by omega
      rw [List.take_length] at R
      have HH : Hid (_ ∧ _) := And.intro R K
      clear R K
      rw [List.take_length]
      go_wp2_with fail
      go_ret
      exact ⟨va, vc, rfl, HH.out.1, HH.out.2⟩

end Go.Proofs.Ytinphcnknionmaa

namespace Go.Proofs.Ytinphcnknionmaa
open Go.RowKit Go.Maps

set_option maxHeartbeats 2000000 in
set_option maxRecDepth 100000 in
theorem follows4_in (w : World) (base : Nat) (aa : Option Addr) (ac : Nat) (l : List Tm) (vs : List Value) (hL : Ls w base (.slice aa l.length ac) l vs) (hb : Cc.Bd l) (hl : l.length ≤ 150) (a : Option Addr) (cp : Nat) (ps : List (Int × Int)) (hP : Prw w a ps) (B : Nat) (ca : Option Addr) (cc : Nat) (ns : List Nat) (h : Nums w B (.slice ca ns.length cc) ns) (hnb : ns.length ≤ 8796093022208) (hlt : ∀ n, n ∈ ns → n < ps.length) (x y : Int) :
    Calls Try.prog 53 #[.slice aa l.length ac, .slice a ps.length cp, .slice ca ns.length cc, .int .i64 x, .int .i64 y] w fun e w' => e = .returned (.bool (cgB l (Wm.prs l.length ps ns) x y)) ∧ Kept0 w w' := by
  have WI : Hid (∀ (W : World) (q : Int) (b : Bool), inB l.length q = b → Calls Try.prog 96 #[.int .i64 q, .slice aa l.length ac] W fun e w' => e = .returned (.bool b) ∧ W = w') := fun W q b hb => by
    rw [← hb]
    exact within4_in W q aa l.length ac
  cases hx : inB l.length x
  · have e1 : cgB l (Wm.prs l.length ps ns) x y = false := by simp [cgB, hx]
    have WA := fun W => WI.out W x false hx
    rw [e1]
    clear hL hP h e1 hx
    go_enter Try.func53, Try.ntmps53
    go_wp2_with (go_at_call 96; refine (WA _).mono ?_; rintro e w6 ⟨rfl, rfl⟩)
    go_ret
    exact ⟨rfl, Kept.refl _ _⟩
  · have WA := fun W => WI.out W x true hx
    cases hy : inB l.length y
    · have e1 : cgB l (Wm.prs l.length ps ns) x y = false := by simp [cgB, hy]
      have WB : Hid (∀ W, Calls Try.prog 96 #[.int .i64 y, .slice aa l.length ac] W fun e w' => e = .returned (.bool false) ∧ W = w') := fun W => WI.out W y false hy
      rw [e1]
      clear hL hP h e1 hx hy
      go_enter Try.func53, Try.ntmps53
      go_wp2_with (first | (go_at_call 96; refine (WB1 _).mono ?_; rintro e w6 ⟨rfl, rfl⟩) | (go_at_call 96; refine (WA _).mono ?_; rintro e w6 ⟨rfl, rfl⟩; have WB1 := WB.out; clear WA))
      go_ret
      exact ⟨rfl, Kept.refl _ _⟩
    · have WB : Hid (∀ W, Calls Try.prog 96 #[.int .i64 y, .slice aa l.length ac] W fun e w' => e = .returned (.bool true) ∧ W = w') := fun W => WI.out W y true hy
      have GD := good_in w aa l.length ac a cp ps hP B ca cc ns h hnb hlt
      obtain ⟨p1, p2⟩ := inB_true hx
      obtain ⟨q1, q2⟩ := inB_true hy
      obtain ⟨i, rfl⟩ := Int.eq_ofNat_of_zero_le p1
      obtain ⟨j, rfl⟩ := Int.eq_ofNat_of_zero_le q1
      have hi : i < l.length := by omega
      have hj : j < l.length := by omega
      have hpl := Wm.prs_len l.length ps ns
      have CL : Hid (∀ W va vc, Kept0 w W → W.ownsRow w.heap.size 70 2 (.slice va (Wm.prs l.length ps ns).length vc) (Wm.prs l.length ps ns).length (pairC (pInt (Wm.prs l.length ps ns))) → Calls Try.prog 43 #[.slice aa l.length ac, .slice va (Wm.prs l.length ps ns).length vc] W fun e w' => ∃ g cap li lj, e = .returned (.slice (some ⟨g, 0, none⟩) l.length cap) ∧ w'.cell? ⟨g, i, none⟩ = some (.int .i64 (li : Nat)) ∧ w'.cell? ⟨g, j, none⟩ = some (.int .i64 (lj : Nat)) ∧ (((li : Nat) : Int) == ((lj : Nat) : Int)) = cgB l (Wm.prs l.length ps ns) (i : Int) (j : Int) ∧ Kept0 W w') := fun W va vc K hrow => by
        rw [← pInt_len] at hrow
        obtain ⟨a2, c2, e2, hP2⟩ := Prw.of_rowE hrow
        rw [pInt_len] at e2
        cases e2
        refine (closed_in W base aa ac l vs (hL.kept0 K) hb hl va vc (Wm.prs l.length ps ns) hP2 (fun p hp => ?_) (by omega)).mono ?_
        · obtain ⟨n, hn, hq⟩ := Wm.mem_prs.1 hp
          obtain ⟨p0, _, hpo⟩ := Option.bind_eq_some_iff.1 hq
          obtain ⟨hin, rfl⟩ := okP_some hpo
          rw [Bool.and_eq_true] at hin
          have a1 := inB_true hin.1
          have b1 := inB_true hin.2
          exact ⟨by show p0.1.toNat < _; omega, by show p0.2.toNat < _; omega⟩
        · rintro e w' ⟨v, s, rfl, R, J, D, K'⟩
          rcases R.2 with ⟨_, e2⟩ | ⟨g, cap, cur, e', _⟩
          · omega
          · subst e'
            have ci := R.cellAt i (by omega)
            have cj := R.cellAt j (by omega)
            have gi : (intsC (Uf.los l.length s.1))[i]? = some (.int .i64 (s.1.lo i : Int)) := by simp [intsC, Uf.los, hi]
            have gj : (intsC (Uf.los l.length s.1))[j]? = some (.int .i64 (s.1.lo j : Int)) := by simp [intsC, Uf.los, hj]
            refine ⟨g, cap, s.1.lo i, s.1.lo j, rfl, ci.trans gi, cj.trans gj, ?_, K'⟩
            rw [Bool.eq_iff_iff, beq_iff_eq, cgB_iff]
            constructor
            · intro e
              exact ⟨hx, hy, J.sound i j hi hj (by omega)⟩
            · rintro ⟨_, _, hc⟩
              have := J.all hb D hc
              rw [Int.toNat_natCast, Int.toNat_natCast] at this
              rw [this]
      generalize cgB l (Wm.prs l.length ps ns) (i : Int) (j : Int) = BB at *
      generalize Wm.prs l.length ps ns = Q at *
      clear hL hP h hx hy p1 p2 q1 q2
      go_enter Try.func53, Try.ntmps53
      go_wp2_with (first | (go_at_call 96; refine (WB1 _).mono ?_; rintro e w6 ⟨rfl, rfl⟩) | (go_at_call 96; refine (WA _).mono ?_; rintro e w6 ⟨rfl, rfl⟩; have WB1 := WB.out; clear WA) | (go_at_call 97; refine GD.mono ?_; rintro e w7 ⟨va, vc, rfl, R7, K7⟩; have CL7 := CL.out w7 va vc K7 R7) | (go_at_call 43; refine CL7.mono ?_; rintro e w8 ⟨g, cap, li, lj, rfl, ci, cj, hE, K8⟩))
      clear CL7 CL GD R7 WB1 WB
      go_quiet (fail)
      go_wp2_with fail
      go_ret
      refine ⟨?_, (K7.trans K8).drewN _⟩
      rfl

end Go.Proofs.Ytinphcnknionmaa

namespace Go.Proofs.Ytinphcnknionmaa
open Go.RowKit Go.Maps

set_option maxHeartbeats 2000000 in
set_option maxRecDepth 100000 in
theorem rises_in (w : World) (B : Nat) (ca : Option Addr) (cc : Nat) (ns : List Nat) (h : Nums w B (.slice ca ns.length cc) ns) (N : Nat) (hnb : ns.length ≤ 8796093022208) (hlt : ∀ n, n ∈ ns → n < N) (hup : ns.Pairwise (· < ·)) :
    Calls Try.prog 98 #[.slice ca ns.length cc, .int .i64 (N : Int)] w fun e w' => e = .returned (.bool true) ∧ Kept0 w w' := by
  go_enter Try.func98, Try.ntmps98
  go_wp2_with fail
  go_loopw [5] (fun t5 W => ∃ k : Nat, k ≤ ns.length ∧ t5 = .int .i64 (k : Int) ∧ Kept0 w W) (fun t5 _ => ns.length - (intOf t5).toNat)
  case atStart => exact ⟨0, Nat.zero_le _, rfl, Kept.refl _ _⟩
  case round =>
    obtain ⟨k, hk, rfl, K⟩ := hrel
    by_cases hk2 : k < ns.length
    · have dk : decide ((k : Int) < (ns.length : Int)) = true := decide_eq_true (by omega)
      have hx : ns[k]? = some ns[k] := List.getElem?_eq_getElem hk2
      generalize hok : ns[k] = n at hx
      obtain ⟨g, rfl, hc⟩ := h.cell hx
      have cn := hc wr K
      have hn := hlt n (List.mem_of_getElem? hx)
      have dn1 : decide ((n : Int) < 0) = false := decide_eq_false (by omega)
      have dn2 : decide ((N : Int) ≤ (n : Int)) = false := decide_eq_false (by omega)
      have dn3 : decide (N ≤ n) = false := decide_eq_false (by omega)
      cases k with
      | zero =>
        have HK : Hid _ := K
        have c0 : wr.cell? ⟨g, 0, none⟩ = some (.int .i64 (n : Int)) := cn
        clear K hc hx hok cn
        go_wp2_with fail
        go_quiet (fail)
        go_wp2_with fail
        exact ⟨⟨0 + 1, hk2, by simp, HK.out.drewN _⟩, by simp [intOf]; omega⟩
      | succ j =>
        have hx2 : ns[j]? = some (ns[j]'(by omega)) := List.getElem?_eq_getElem (by omega)
        have hlt2 := List.pairwise_iff_getElem.1 hup j (j + 1) (by omega) hk2 (by omega)
        rw [hok] at hlt2
        generalize hok2 : ns[j]'(by omega) = n2 at hx2
        rw [hok2] at hlt2
        obtain ⟨g2, hg2, hc2⟩ := h.cell hx2
        cases hg2
        have cm := hc2 wr K
        have dj : decide ((0 : Int) < ((j + 1 : Nat) : Int)) = true := decide_eq_true (by omega)
        have ej : (((j + 1 : Nat) : Int) - 1) = (j : Int) := by omega
        have dl : decide ((n : Int) ≤ (n2 : Int)) = false := decide_eq_false (by omega)
        have dl2 : decide (n ≤ n2) = false := decide_eq_false (by omega)
        have hjl : j < ns.length := by omega
        have HK : Hid _ := K
        clear K hc hc2 hx hx2 hok hok2 hlt2
        clear ej
        have ec : ((j + 1 : Nat) : Int) = (j : Int) + 1 := by omega
        rw [ec] at dk dj ⊢
        have b1 : ((j : Int) + 1) < (ns.length : Int) := by omega
        clear ec
        go_wp2_with fail
        go_quiet (fail)
        go_wp2_with fail
        exact ⟨⟨j + 1 + 1, hk2, by simp, HK.out.drewN _⟩, by simp [intOf]; omega⟩
    · have dk : decide ((k : Int) < (ns.length : Int)) = false := decide_eq_false (by omega)
      go_wp2_with fail
      go_ret
      exact ⟨rfl, K⟩

set_option maxHeartbeats 2000000 in
set_option maxRecDepth 100000 in
theorem kept4_in (w : World) (a b : Option Addr) (ca cb : Nat) (ps : List (Int × Int)) (hA : Prw w a ps) (hB : Prw w b ps) (hb : ps.length ≤ 8796093022208) :
    Calls Try.prog 55 #[.slice a ps.length ca, .slice b ps.length cb] w fun e w' => e = .returned (.bool true) ∧ Kept0 w w' := by
  go_enter Try.func55, Try.ntmps55
  go_wp2_with fail
  go_loopw [5] (fun t5 W => ∃ k : Nat, k ≤ ps.length ∧ t5 = .int .i64 (k : Int) ∧ Kept0 w W) (fun t5 _ => ps.length - (intOf t5).toNat)
  case atStart => exact ⟨0, Nat.zero_le _, rfl, Kept.refl _ _⟩
  case round =>
    obtain ⟨k, hk, rfl, K⟩ := hrel
    by_cases hk2 : k < ps.length
    · have dk : decide ((k : Int) < (ps.length : Int)) = true := decide_eq_true (by omega)
      have hx : ps[k]? = some ps[k] := List.getElem?_eq_getElem hk2
      generalize hok : ps[k] = q at hx
      obtain ⟨b1, o1, rfl, _, x1, x2⟩ := hA.kept0 K k q hx
      obtain ⟨b2, o2, rfl, _, y1, y2⟩ := hB.kept0 K k q hx
      have HK : Hid _ := K
      clear K hx hok
      generalize q.1 = qa at *
      generalize q.2 = qb at *
      have da : (qa != qa) = false := by simp
      have db : (qb != qb) = false := by simp
      go_wp2_with fail
      go_quiet (fail)
      go_wp2_with fail
      exact ⟨⟨k + 1, hk2, by simp, HK.out.drewN _⟩, by simp [intOf]; omega⟩
    · have dk : decide ((k : Int) < (ps.length : Int)) = false := decide_eq_false (by omega)
      go_wp2_with fail
      go_ret
      exact ⟨rfl, K⟩

theorem Fits.out {l : List Tm} {ps : List (Int × Int)} {x y : Int} {ns : List Nat} (h : Fits l ps x y ns) {i n : Nat} (hi : ns[i]? = some n) : (∀ m, m ∈ without ns i ns.length → m < ps.length) ∧ cgB l (Wm.prs l.length ps (without ns i ns.length)) x y = false := by
  refine ⟨fun m hm => ?_, h.less n (List.mem_of_getElem? hi) _ (fun k hk => ?_)⟩
  · obtain ⟨j, _, hj⟩ := without_mem hm
    exact h.lt m (List.mem_of_getElem? hj)
  · obtain ⟨j, hne, hj⟩ := without_mem hk
    refine ⟨List.mem_of_getElem? hj, fun e => ?_⟩
    obtain ⟨j1, j2⟩ := List.getElem?_eq_some_iff.1 hj
    obtain ⟨i1, i2⟩ := List.getElem?_eq_some_iff.1 hi
    rcases Nat.lt_or_gt_of_ne hne with e2 | e2
    · have := List.pairwise_iff_getElem.1 h.up j i j1 i1 e2
      omega
    · have := List.pairwise_iff_getElem.1 h.up i j i1 j1 e2
      omega

set_option maxHeartbeats 4000000 in
set_option maxRecDepth 100000 in
theorem is4_in (w : World) (base : Nat) (aa : Option Addr) (ac : Nat) (l : List Tm) (vs : List Value) (hL : Ls w base (.slice aa l.length ac) l vs) (hb : Cc.Bd l) (hl : l.length ≤ 150) (a : Option Addr) (cp : Nat) (ps : List (Int × Int)) (hP : Prw w a ps) (B : Nat) (ca : Option Addr) (cc : Nat) (ns : List Nat) (h : Nums w B (.slice ca ns.length cc) ns) (hnb : ns.length ≤ 8796093022208) (x y : Int) (F : Fits l ps x y ns) :
    Calls Try.prog 57 #[.slice aa l.length ac, .slice a ps.length cp, .slice ca ns.length cc, .int .i64 x, .int .i64 y] w fun e w' => e = .returned (.bool true) ∧ Kept0 w w' := by
  have RS := rises_in w B ca cc ns h ps.length hnb F.lt F.up
  have FO : Hid (∀ W, Kept0 w W → Calls Try.prog 53 #[.slice aa l.length ac, .slice a ps.length cp, .slice ca ns.length cc, .int .i64 x, .int .i64 y] W fun e w' => e = .returned (.bool true) ∧ Kept0 W w') := fun W K => by
    have := follows4_in W base aa ac l vs (hL.kept0 K) hb hl a cp ps (hP.kept0 K) B ca cc ns (h.kept0 K) hnb F.lt x y
    rw [F.fol] at this
    exact this
  have WO : Hid (∀ W i, Kept0 w W → Calls Try.prog 99 #[.slice ca ns.length cc, .int .i64 ((i : Nat) : Int)] W fun e w' => ∃ va vc, e = .returned (.slice va (without ns i ns.length).length vc) ∧ Nums w' W.heap.size (.slice va (without ns i ns.length).length vc) (without ns i ns.length) ∧ Kept0 W w') := fun W i K => without_in W B ca cc ns (h.kept0 K) hnb i
  have FN : Hid (∀ W (i B' : Nat) va vc, i < ns.length → Kept0 w W → Nums W B' (.slice va (without ns i ns.length).length vc) (without ns i ns.length) → Calls Try.prog 53 #[.slice aa l.length ac, .slice a ps.length cp, .slice va (without ns i ns.length).length vc, .int .i64 x, .int .i64 y] W fun e w' => e = .returned (.bool false) ∧ Kept0 W w') := fun W i B' va vc hi K hN => by
    obtain ⟨f1, f2⟩ := F.out (List.getElem?_eq_getElem hi)
    have := follows4_in W base aa ac l vs (hL.kept0 K) hb hl a cp ps (hP.kept0 K) B' va vc (without ns i ns.length) hN (Nat.le_trans (without_len _ _ _) hnb) f1 x y
    rw [f2] at this
    exact this
  clear hL hP h F
  go_enter Try.func57, Try.ntmps57
  go_wp2_with (first | (go_at_call 98; refine RS.mono ?_; rintro e w1 ⟨rfl, K1⟩; have FO1 := FO.out w1 K1) | (go_at_call 53; refine FO1.mono ?_; rintro e w2 ⟨rfl, K2⟩))
  have K02 : Kept0 w w2 := K1.trans K2
  clear RS FO FO1 K1 K2
  go_loopw [12] (fun t12 W => ∃ i : Nat, i ≤ ns.length ∧ t12 = .int .i64 (i : Int) ∧ Kept0 w W) (fun t12 _ => ns.length - (intOf t12).toNat)
  case atStart => exact ⟨0, Nat.zero_le _, rfl, K02⟩
  case round =>
    clear K02
    obtain ⟨i, hi, rfl, K⟩ := hrel
    by_cases hi2 : i < ns.length
    · have di : decide ((i : Int) < (ns.length : Int)) = true := decide_eq_true (by omega)
      have WO1 := WO.out wr i K
      have FN1 : Hid (∀ W (B' : Nat) va vc, Kept0 w W → Nums W B' (.slice va (without ns i ns.length).length vc) (without ns i ns.length) → Calls Try.prog 53 #[.slice aa l.length ac, .slice a ps.length cp, .slice va (without ns i ns.length).length vc, .int .i64 x, .int .i64 y] W fun e w' => e = .returned (.bool false) ∧ Kept0 W w') := fun W B' va vc K hN => FN.out W i B' va vc hi2 K hN
      generalize without ns i ns.length = ms at *
      go_wp2_with (first | (go_at_call 99; refine WO1.mono ?_; rintro e w5 ⟨va, vc, rfl, N5, K5⟩; have FN5 := FN1.out w5 _ va vc (K.trans K5) N5; replace N5 : Hid _ := N5) | (go_at_call 53; refine FN5.mono ?_; rintro e w6 ⟨rfl, K6⟩))
      exact ⟨⟨i + 1, hi2, by simp, (K.trans K5).trans K6⟩, by simp [intOf]; omega⟩
    · have di : decide ((i : Int) < (ns.length : Int)) = false := decide_eq_false (by omega)
      go_wp2_with fail
      go_ret
      exact ⟨rfl, K⟩

end Go.Proofs.Ytinphcnknionmaa

namespace Go.Proofs.Ytinphcnknionmaa
open Go.RowKit Go.Maps

set_option maxHeartbeats 4000000 in
set_option maxRecDepth 100000 in
theorem whyAll_in (w : World) (a1 a2 : Option Addr) (cp1 cp2 : Nat) (ss : List ByteArray) (ps : List (Int × Int)) (hT : Texts w a1 ss) (hm : ss.length ≤ maxLen) (hP : Prw w a2 ps) (hr : ps.length * 16 ≤ 140737488351232) (x y : Int) :
    Calls Try.prog 11 #[.slice a1 ss.length cp1, .slice a2 ps.length cp2, .int .i64 x, .int .i64 y] w fun e w' => e = .returned (.bool true) ∧ Below w.heap.size w w' := by
  have LD := load_in w a1 cp1 ss hT hm
  have hpb : ps.length ≤ 8796093022208 := by omega
  have AFT : Hid (∀ w1 p ev nb fb l q aa ac vs, Duo w w1 p ev nb fb l q (.slice aa l.length ac) vs → ∃ BB : Bool, (∀ W, Kept0 w1 W → Calls Try.prog 50 #[.slice a2 ps.length cp2] W fun e w' => ∃ b c, e = .returned (.slice b ps.length c) ∧ Prw w' b ps ∧ Kept0 W w') ∧
      (∀ W b c, Kept0 w1 W → Prw W b ps → Calls Try.prog 51 #[.pointer (some ⟨p, 0, none⟩), .slice b ps.length c, .int .i64 x, .int .i64 y] W fun e w' => e = .returned (.bool BB) ∧ Kept0 W w') ∧
      (∀ W b c, Kept0 w1 W → Prw W b ps → Calls Try.prog 52 #[.pointer (some ⟨p, 0, none⟩), .slice b ps.length c, .int .i64 x, .int .i64 y] W fun e w' => Kept0 W w' ∧ ∃ (ns : List Nat) (va : Option Addr) (vc : Nat), e = .returned (.tuple #[.slice va ns.length vc, .bool BB]) ∧ Nums w' W.heap.size (.slice va ns.length vc) ns ∧ (BB = false → ns = []) ∧ (BB = true → Fits l ps x y ns) ∧ ns.length ≤ ps.length) ∧
      (∀ W, Kept0 w1 W → Calls Try.prog 54 #[.int .i64 (ps.length : Int)] W fun e w' => ∃ va vc, e = .returned (.slice va ps.length vc) ∧ w'.ownsRow W.heap.size 3 1 (.slice va ps.length vc) ps.length (natC (List.range ps.length)) ∧ Kept0 W w') ∧
      (∀ W B va vc, Kept0 w1 W → W.ownsRow B 3 1 (.slice va ps.length vc) ps.length (natC (List.range ps.length)) → Calls Try.prog 53 #[.slice aa l.length ac, .slice a2 ps.length cp2, .slice va ps.length vc, .int .i64 x, .int .i64 y] W fun e w' => e = .returned (.bool BB) ∧ Kept0 W w') ∧
      (∀ W b c, Kept0 w1 W → Prw W b ps → Calls Try.prog 55 #[.slice b ps.length c, .slice a2 ps.length cp2] W fun e w' => e = .returned (.bool true) ∧ Kept0 W w') ∧
      (∀ W B va vc ns, Kept0 w1 W → Nums W B (.slice va ns.length vc) ns → Fits l ps x y ns → ns.length ≤ ps.length → Calls Try.prog 57 #[.slice aa l.length ac, .slice a2 ps.length cp2, .slice va ns.length vc, .int .i64 x, .int .i64 y] W fun e w' => e = .returned (.bool true) ∧ Kept0 W w') ∧ Below w.heap.size w w1) := by
    intro w1 p ev nb fb l q aa ac vs D
    have PW : ∀ W, Kept0 w1 W → Prw W a2 ps := fun W K => hP.kept0 ((below_kept0 D.bel).trans K)
    refine ⟨cgB l (Wm.prs l.length ps (List.range ps.length)) x y, fun W K => ?_, fun W b c K hb => ?_, fun W b c K hb => ?_, fun W K => ?_, fun W B va vc K hN => ?_, fun W b c K hb => ?_, fun W B va vc ns K hN F hl => ?_, D.bel⟩
    · exact (given_in W a2 cp2 ps (PW W K) (by omega)).mono fun _ _ ⟨b, c, h1, _, h2, h3⟩ => ⟨b, c, h1, h2, h3⟩
    · exact follows_in W w.heap.size p ev nb fb l (D.b.kept0 K) D.bd D.kl.len b c ps hb (by omega) x y
    · refine (why_in W w.heap.size p ev nb fb l (D.b.kept0 K) D.bd D.kl.len b c ps hb (by omega) x y).mono ?_
      rintro e w' ⟨K', ⟨hf, he⟩ | ⟨ht, ns, v, he, R, F, hl⟩⟩
      · exact ⟨K', [], none, 0, by rw [hf]; exact he, World.ownsRow_nil _ _ _ _, fun _ => rfl, (fun e => by rw [hf] at e; cases e), by simp⟩
      · obtain ⟨va, vc, rfl⟩ := row_form' R
        exact ⟨K', ns, va, vc, by rw [ht]; exact he, R, (fun e => by rw [ht] at e; cases e), fun _ => F, hl⟩
    · exact all4_in W ps.length hpb
    · have hN' : Nums W B (.slice va (List.range ps.length).length vc) (List.range ps.length) := by show W.ownsRow _ _ _ _ _ _; rw [List.length_range]; exact hN
      have := follows4_in W w.heap.size aa ac l vs (D.r.ls.kept0 K) D.bd D.kl.len a2 cp2 ps (PW W K) B va vc (List.range ps.length) hN' (by rw [List.length_range]; exact hpb) (fun n hn => List.mem_range.1 hn) x y
      rw [List.length_range] at this
      exact this
    · exact kept4_in W b a2 c cp2 ps hb (PW W K) hpb
    · exact is4_in W w.heap.size aa ac l vs (D.r.ls.kept0 K) D.bd D.kl.len a2 cp2 ps (PW W K) B va vc ns hN (by omega) x y F
  clear hr hP
  go_enter Try.func11, Try.ntmps11
  go_upto_region 9 with (first | (go_at_call 37; refine LD.mono ?_; rintro e w1 ⟨p, ev, nb, fb, l, q, av, vs, rfl, D⟩; obtain ⟨aa, ac, hav⟩ := D.r.ls.form; subst hav; obtain ⟨BB, hGV, hFL, hWY, hAL, hF4, hKP, hIS, B1⟩ := AFT.out w1 p ev nb fb l q aa ac vs D; have GV1 := hGV w1 (Kept.refl _ w1); replace hGV : Hid _ := hGV; replace hFL : Hid _ := hFL; replace hWY : Hid _ := hWY; replace hAL : Hid _ := hAL; replace hF4 : Hid _ := hF4; replace hKP : Hid _ := hKP; replace hIS : Hid _ := hIS; clear D LD) | (go_at_call 50; refine GV1.mono ?_; rintro e w2 ⟨b2, c2, rfl, P2, K2⟩; have FL2 := hFL.out w2 b2 c2 K2 P2) | (go_at_call 51; refine FL2.mono ?_; rintro e w3 ⟨rfl, K3⟩; have K03 := K2.trans K3; have P3 := P2.kept0 K3; have WY3 := hWY.out w3 b2 c2 K03 P3) | (go_at_call 52; refine WY3.mono ?_; rintro e w4 ⟨K4, ns, va, vc, rfl, N4, n4, f4, l4⟩; have K04 := K03.trans K4; have AL4 := hAL.out w4 K04; replace N4 : Hid _ := N4; replace n4 : Hid _ := n4; replace f4 : Hid _ := f4) | (go_at_call 54; refine AL4.mono ?_; rintro e w5 ⟨va5, vc5, rfl, N5, K5⟩; have K05 := K04.trans K5; have F5 := hF4.out w5 _ va5 vc5 K05 N5) | (go_at_call 53; refine F5.mono ?_; rintro e w6 ⟨rfl, K6⟩; have K06 := K05.trans K6; have K46 : Kept0 w4 w6 := K5.trans K6; have K36 : Kept0 w3 w6 := K4.trans K46; have KP6 := hKP.out w6 b2 c2 K06 (P3.kept0 K36)) | (go_at_call 55; refine KP6.mono ?_; rintro e w7 ⟨rfl, K7⟩))
  have K37 : Kept0 w3 w7 := K36.trans K7
  have K07 : Kept0 w1 w7 := K03.trans K37
  have K47 : Kept0 w4 w7 := K46.trans K7
  clear GV1 FL2 WY3 AL4 F5 KP6 N5 K5 K6 K7 K36 K46 K06 K05 hGV hFL hAL hF4 hKP P2
  cases BB with
  | false =>
    obtain rfl := n4.out rfl
    have AL := alive4_any w7
    go_wp2_with (go_at_call 56; refine AL.mono ?_; rintro e w8 ⟨rfl, B8⟩)
    go_ret
    have b7 : Below w.heap.size w w7 := B1.trans (Kept.below K07 B1.size (fun _ e => e.elim))
    exact ⟨rfl, b7.trans (B8.mono b7.size)⟩
  | true =>
    have N7 : Nums w7 w3.heap.size (.slice va ns.length vc) ns := Nums.kept0 N4.out K47
    have IS7 := hIS.out w7 w3.heap.size va vc ns K07 N7 (f4.out rfl) l4
    have KK : Hid (Kept0 w1 w3) := K03
    have PP : Hid (Prw w3 b2 ps) := P3
    clear N4 n4 f4 K47 K4 K04 K07 K03 P3
    go_wp2_with (go_at_call 57; refine IS7.mono ?_; rintro e w8 ⟨rfl, K8⟩)
    have R8 : w8.ownsRow w3.heap.size 3 1 (.slice va ns.length vc) ns.length (natC ns) := Nums.kept0 N7 K8
    have K38 : Kept0 w3 w8 := K37.trans K8
    clear IS7 N7 K37 K8
    go_loopw [18] (fun t18 W => ∃ (j : Nat) (us : List Value), j ≤ ns.length ∧ t18 = .int .i64 (j : Int) ∧ W.ownsRow w3.heap.size 3 1 (.slice va ns.length vc) ns.length us ∧ Kept0 w3 W) (fun t18 _ => ns.length - (intOf t18).toNat)
    case atStart => exact ⟨0, natC ns, Nat.zero_le _, rfl, R8, K38⟩
    case round =>
      clear R8 K38
      obtain ⟨j, us, hj, rfl, R, K⟩ := hrel
      by_cases hj2 : j < ns.length
      · have dj : decide ((j : Int) < (ns.length : Int)) = true := decide_eq_true (by omega)
        obtain ⟨g, rfl⟩ : ∃ g, va = some ⟨g, 0, none⟩ := by
          rcases R.2 with ⟨_, e2⟩ | ⟨g, c9, cur, e', _⟩
          · omega
          · simp only [Value.slice.injEq] at e'
            exact ⟨g, e'.1⟩
        have hul : us.length = ns.length := by have := R.1; omega
        obtain ⟨uj, huj⟩ : ∃ uj, us[j]? = some uj := ⟨_, List.getElem?_eq_getElem (by omega)⟩
        have cj := (R.cellAt j (by omega)).trans huj
        have fj := R.frozenAt j
        have hge := (R.lt g (by simp [Value.ownBlock])).1
        have HH : Hid (_ ∧ _) := And.intro R K
        clear R K hul huj
        go_wp2_with fail
        exact ⟨⟨j + 1, _, hj2, by simp, ownsRow_put HH.out.1 _, Kept.setNew HH.out.2 hge _⟩, by simp [intOf]; omega⟩
      · have dj : decide ((j : Int) < (ns.length : Int)) = false := decide_eq_false (by omega)
        have WY9 := hWY.out wr b2 c2 (KK.out.trans K) (PP.out.kept0 K)
        have K0r : Kept0 w1 wr := KK.out.trans K
        clear R K
        go_wp2_with (first | (go_at_call 52; refine WY9.mono ?_; rintro e w9 ⟨K9, ms, vb, vd, rfl, N9, _, f9, l9⟩; have IS9 := hIS.out w9 wr.heap.size vb vd ms (K0r.trans K9) N9 (f9 (by simp)) l9; clear WY9; replace N9 : Hid _ := N9; replace f9 : Hid _ := f9) | (go_at_call 57; refine IS9.mono ?_; rintro e w10 ⟨rfl, K10⟩; have AL := alive4_any w10) | (go_at_call 56; refine AL.mono ?_; rintro e w11 ⟨rfl, B11⟩))
        go_ret
        have b10 : Below w.heap.size w w10 := B1.trans (Kept.below ((K0r.trans K9).trans K10) B1.size (fun _ e => e.elim))
        exact ⟨rfl, b10.trans (B11.mono b10.size)⟩

end Go.Proofs.Ytinphcnknionmaa
