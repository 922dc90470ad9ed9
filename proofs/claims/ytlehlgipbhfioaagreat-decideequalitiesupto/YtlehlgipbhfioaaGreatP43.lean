/- Package why: Follows and Why. DecideEqualities, plainly: of equalities there is a model. DecideEqualities, plainly: what follows. Package decide: learnWhole. -/
import Derived.Test.YtlehlgipbhfioaaGreatP25
import Derived.Deep.RegionWith
import Derived.Test.YtlehlgipbhfioaaGreatP39
namespace Go.Proofs.YtlehlgipbhfioaaGreat
open Go.RowKit Go.Maps

/-- What Why answers. -/
def WhyIs (w : World) (l : List Tm) (ps : List (Int × Int)) (x y : Int) (e : Ending) (w' : World) : Prop :=
  Kept0 w w' ∧ ((cgB l (Wm.prs l.length ps (List.range ps.length)) x y = false ∧ e = .returned (.tuple #[.slice none 0 0, .bool false])) ∨
    (cgB l (Wm.prs l.length ps (List.range ps.length)) x y = true ∧ ∃ (ns : List Nat) (v : Value), e = .returned (.tuple #[v, .bool true]) ∧ w'.ownsRow w.heap.size 3 1 v ns.length (natC ns) ∧ Fits l ps x y ns ∧ ns.length ≤ ps.length))

/-- What Why's loop keeps to. -/
structure Yl (w W : World) (l : List Tm) (ps : List (Int × Int)) (x y : Int) (c : Ks) (needed rest : List Nat) (nv rv : Value) : Prop where
  yz : Yz w W l c (Wm.prs l.length ps needed) needed rest nv rv
  wy : Wm.Wy (Wm.Fol l ps x.toNat y.toNat) needed rest
  ok : ∀ n, n ∈ needed ++ rest → ∃ q, (ps[n]?).bind (Wm.okP l.length) = some q
  few : needed.length + rest.length ≤ ps.length

theorem Yl.next {w W : World} {l : List Tm} {ps : List (Int × Int)} {x y : Int} {c : Ks} {needed rest : List Nat} {nv rv : Value} (h : Yl w W l ps x y c needed rest nv rv) (hx : inB l.length x = true) (hy : inB l.length y = true) (hn : cgB l (Wm.prs l.length ps needed) x y = false) :
    ∃ i n, rest[i]? = some n ∧ cgB l (Wm.prs l.length ps needed ++ Wm.prs l.length ps (rest.take (i + 1))) x y = true ∧ (∀ j, j ≤ i → cgB l (Wm.prs l.length ps needed ++ Wm.prs l.length ps (rest.take j)) x y = false) ∧ Wm.Wy (Wm.Fol l ps x.toNat y.toNat) (needed ++ [n]) (rest.take i) ∧
      (∀ k, k ∈ (needed ++ [n]) ++ rest.take i → ∃ q, (ps[k]?).bind (Wm.okP l.length) = some q) ∧ (needed ++ [n]).length + (rest.take i).length ≤ ps.length := by
  have hF := Wm.fol_mon l ps x.toNat y.toNat
  obtain ⟨i, hi, h1, h2⟩ := h.wy.turn hF (fun e => by rw [(cgB_fol hx hy _).2 e] at hn; cases hn)
  have hfew := h.few
  refine ⟨i, rest[i], List.getElem?_eq_getElem hi, ?_, fun j hj => ?_, h.wy.step hF hi h1 (h2 i (Nat.le_refl _)), fun k hk => h.ok k ?_, by simp; omega⟩
  · rw [← Wm.prs_app]
    exact (cgB_fol hx hy _).2 h1
  · rw [← Wm.prs_app, Bool.eq_false_iff]
    exact fun e => h2 j hj ((cgB_fol hx hy _).1 e)
  · simp only [List.mem_append, List.mem_singleton] at hk ⊢
    rcases hk with (hk | hk) | hk
    · exact .inl hk
    · exact .inr (hk ▸ List.getElem_mem hi)
    · exact .inr (List.mem_of_mem_take hk)

set_option maxHeartbeats 4000000 in
set_option maxRecDepth 100000 in
theorem why_in (w : World) (base p : Nat) (ev : Value) (nb fb : Nat) (l : List Tm) (h : Bk w base p ev nb fb l) (hb : Cc.Bd l) (hl : l.length ≤ 150) (a : Option Addr) (cp : Nat) (ps : List (Int × Int)) (hP : Prw w a ps) (hr : ps.length * 16 ≤ 140737488355328) (x y : Int) :
    Calls Tryz.prog 143 #[.pointer (some ⟨p, 0, none⟩), .slice a ps.length cp, .int .i64 x, .int .i64 y] w (WhyIs w l ps x y) := by
  have EN := enough_in w base p ev nb fb l h hb hl a cp ps hP hr x y
  have hps : ps.length ≤ 8796093022208 := by omega
  cases hB : cgB l (Wm.prs l.length ps (List.range ps.length)) x y
  · have EN' : Calls Tryz.prog 179 #[.pointer (some ⟨p, 0, none⟩), .slice a ps.length cp, .int .i64 x, .int .i64 y] w fun e w' => ∃ va n vc, e = .returned (.tuple #[.slice va n vc, .bool false]) ∧ Kept0 w w' := by
      refine EN.mono ?_
      rintro e w' ⟨ns, v, k, rfl, R, E, hk, hn, K, _⟩
      obtain ⟨va, vc, rfl⟩ := row_form' R
      exact ⟨va, _, vc, by rw [enough_all E hk hn, hB], K⟩
    have HB : Hid _ := hB
    clear h hP hr EN hB
    go_enter Tryz.func143, Tryz.ntmps143
    go_wp2_with (go_at_call 179; refine EN'.mono ?_; rintro e w1 ⟨va, n, vc, rfl, K1⟩)
    go_ret2
    exact ⟨K1, .inl ⟨HB.out, rfl⟩⟩
  · obtain ⟨hx, hy⟩ := cgB_in hB
    have EN' : Calls Tryz.prog 179 #[.pointer (some ⟨p, 0, none⟩), .slice a ps.length cp, .int .i64 x, .int .i64 y] w fun e w' => ∃ (ns : List Nat) (va : Option Addr) (vc : Nat), e = .returned (.tuple #[.slice va ns.length vc, .bool true]) ∧ w'.ownsRow w.heap.size 3 1 (.slice va ns.length vc) ns.length (natC ns) ∧
        Wm.Wy (Wm.Fol l ps x.toNat y.toNat) [] ns ∧ (∀ n, n ∈ ns → ∃ q, (ps[n]?).bind (Wm.okP l.length) = some q) ∧ Kept0 w w' ∧ ns.length ≤ ps.length := by
      refine EN.mono ?_
      rintro e w' ⟨ns, v, k, rfl, R, E, hk, hn, K, hf⟩
      obtain ⟨va, vc, rfl⟩ := row_form' R
      have e1 := enough_all E hk hn
      rw [hB] at e1
      exact ⟨ns, va, vc, by rw [e1], R, .start ((cgB_fol hx hy _).1 e1) E.up, E.ok, K, hf⟩
    have HB : Hid _ := hB
    have HX : Hid (_ ∧ _) := And.intro hx hy
    have HP : Hid (Prw w a ps) := hP
    have HR : Hid (ps.length * 16 ≤ 140737488355328) := hr
    have NC : ∀ W, Kept0 w W → Calls Tryz.prog 5 #[.pointer (some ⟨p, 0, none⟩)] W fun e w' => ∃ c : Ks, e = .returned (.pointer (some ⟨c.pc, 0, none⟩)) ∧ Cl w' W.heap.size l c [] ∧ Kept0 W w' := fun W K => kNew_in W base p ev nb fb l (h.kept0 K) hb hl
    have HN : Hid _ := NC
    obtain ⟨i0, hi0, hz0, hz1, hz2⟩ := info_parts infoIntK
    clear h hP hr EN hB hx hy NC
    go_enter Tryz.func143, Tryz.ntmps143
    go_wp2_with (first | (go_at_call 179; refine EN'.mono ?_; rintro e w1 ⟨ns, va, vc, rfl, R1, Y1, ok1, K1, few1⟩; have NC1 := HN.out w1 K1) | (go_at_call 5; refine NC1.mono ?_; rintro e w2 ⟨c, rfl, C2, K2⟩))
    have L0 : Yl w w2 l ps x y c [] ns (.slice none 0 0) (.slice va ns.length vc) := by
      refine ⟨⟨(C2.base K1.size).fresh, World.ownsRow_nil _ _ _ _, ownsRow_blockC R1 (fun j hj => K2.block j (R1.lt j hj).2 (fun e => e)), fun j hj => by simp [Value.ownBlock] at hj, fun j hj hA => ?_, fun j hj => by simp [Value.ownBlock] at hj, K1.trans K2⟩, Y1, fun n hn => ok1 n hn, by simpa using few1⟩
      have h1 := C2.all_ge hA
      have h2 := (R1.lt j hj).2
      omega
    clear R1 Y1 ok1 K1 few1 C2 K2 EN' NC1
    go_loopw [10, 12] (fun t10 t12 W => ∃ (c' : Ks) (needed rest : List Nat), c'.pc = c.pc ∧ Yl w W l ps x y c' needed rest t12 t10) (fun t10 _ _ => slLenW t10)
    case atStart => exact ⟨c, [], ns, rfl, L0⟩
    case round =>
      clear L0
      obtain ⟨c', needed, rest, hpc, L⟩ := hrel
      obtain ⟨na, nc, hnv⟩ := row_form' L.yz.nrow
      obtain ⟨ra, rc, hrv⟩ := row_form' L.yz.rrow
      subst hnv hrv
      have hfew := L.few
      have SM : Calls Tryz.prog 11 #[.pointer (some ⟨c.pc, 0, none⟩), .int .i64 x, .int .i64 y] wr fun e w' => e = .returned (.bool (cgB l (Wm.prs l.length ps needed) x y)) ∧ Kept0 wr w' := by
        rw [← hpc]
        exact qSame_k wr w.heap.size l c' _ L.yz.cq.cl x y
      cases hc : cgB l (Wm.prs l.length ps needed) x y
      · obtain ⟨i, n, hin, hyes, hno, hWy, hok, hfw⟩ := L.next HX.out.1 HX.out.2 hc
        rw [hc] at SM
        have hil : i < rest.length := (List.getElem?_eq_some_iff.1 hin).1
        obtain ⟨g, hg, hrc⟩ : ∃ g, ra = some ⟨g, 0, none⟩ ∧ rest.length ≤ rc := by
          rcases L.yz.rrow.2 with ⟨_, e2⟩ | ⟨g, c9, cur, e', _, _, h3, _⟩
          · omega
          · simp only [Value.slice.injEq] at e'
            exact ⟨g, e'.1, by rw [e'.2.2]; exact h3⟩
        subst hg
        obtain ⟨q, hq⟩ := hok n (by simp)
        obtain ⟨pr, hpr, hpo⟩ := Option.bind_eq_some_iff.1 hq
        obtain ⟨hpin, _⟩ := okP_some hpo
        have hnl : n < ps.length := (List.getElem?_eq_some_iff.1 hpr).1
        have TN : Hid (∀ W, Kept0 wr W → Calls Tryz.prog 180 #[.pointer (some ⟨c.pc, 0, none⟩), .slice a ps.length cp, .slice (some ⟨g, 0, none⟩) rest.length rc, .int .i64 x, .int .i64 y] W fun e w' => e = .returned (.int .i64 (i : Int)) ∧ ∃ c2 : Ks, c2.pc = c.pc ∧ Yz w w' l c2 (Wm.prs l.length ps needed) needed rest (.slice na needed.length nc) (.slice (some ⟨g, 0, none⟩) rest.length rc)) := fun W K => by
          have Lk := L.yz.kept0 K
          have hpl := Wm.prs_len l.length ps needed
          have hRR := HR.out
          rw [← hpc]
          refine (turn_in W w.heap.size l c' _ Lk.cq a cp ps g rc rest (fun W' K' => ⟨?_, fun j m hj => ?_⟩) (fun m hm => L.ok m (List.mem_append_right _ hm)) x y i hil hyes hno (by omega)).mono ?_
          · exact HP.out.kept0 (Lk.bel.into K' (fun i hi => .inr (Lk.cq.cl.all_ge hi)))
          · have R' := ownsRow_blockC Lk.rrow (fun j hj => K'.block j (Lk.rrow.lt j hj).2 (Lk.farR j hj))
            have hcell := R'.cellAt j (by rw [Nat.mul_one]; exact (List.getElem?_eq_some_iff.1 hj).1)
            rw [natC_get, hj] at hcell
            exact hcell
          · rintro e w' ⟨he, c2, C2, K2, p2, A2⟩
            exact ⟨he, c2, p2, Lk.moved K2 C2 A2⟩
        have CN : Hid (∀ W c2, Yz w W l c2 (Wm.prs l.length ps needed) needed rest (.slice na needed.length nc) (.slice (some ⟨g, 0, none⟩) rest.length rc) → W.cell? ⟨g, i, none⟩ = some (.int .i64 (n : Int))) := fun W c2 Z => by
          have hcell := Z.rrow.cellAt i (by rw [Nat.mul_one]; exact hil)
          rw [natC_get, hin] at hcell
          exact hcell
        obtain ⟨b, off, rfl, hbl, _, _⟩ := HP.out n pr hpr
        have PC : Hid (∀ W, Kept0 w W → W.cell? ⟨b, off + n * 2, none⟩ = some (.int .i64 pr.1) ∧ W.cell? ⟨b, off + n * 2 + 1, none⟩ = some (.int .i64 pr.2)) := fun W K => by
          obtain ⟨b', off', he, _, y1, y2⟩ := HP.out.kept0 K n pr hpr
          cases he
          exact ⟨y1, y2⟩
        have MGX : Hid (∀ W c2 m, c2.pc = c.pc → Yz w W l c2 (Wm.prs l.length ps needed) needed rest (.slice na needed.length nc) (.slice (some ⟨g, 0, none⟩) rest.length rc) → Calls Tryz.prog 7 #[.pointer (some ⟨c.pc, 0, none⟩), .int .i64 pr.1, .int .i64 pr.2] (W.drewN m) fun e W' => (∃ x, e = .returned (.int .i64 x)) ∧ ∃ c3 : Ks, c3.pc = c.pc ∧ Yz w W' l c3 (Wm.prs l.length ps (needed ++ [n])) needed rest (.slice na needed.length nc) (.slice (some ⟨g, 0, none⟩) rest.length rc)) := fun W c2 m h2 Z => by
          have hRR := HR.out
          rw [← h2]
          exact (Z.kept0 ((Kept.refl _ W).drewN m)).tell hpr hpin (by omega)
        have LN : Hid (∀ W c3 v', Yz w W l c3 (Wm.prs l.length ps (needed ++ [n])) (needed ++ [n]) rest v' (.slice (some ⟨g, 0, none⟩) rest.length rc) → Yl w W l ps x y c3 (needed ++ [n]) (rest.take i) v' (.slice (some ⟨g, 0, none⟩) i rc)) := fun W c3 v' Z => ⟨Z.cut i (by omega), hWy, hok, hfw⟩
        have hirc : i ≤ rc := by omega
        clear L hc hpc hyes hno hWy hok hfw hq hpr hpo hpin hin HP HN
        generalize pr.1 = pa at *
        generalize pr.2 = pb at *
        go_wp2_with (first | (go_at_call 11; refine SM.mono ?_; rintro e w3 ⟨rfl, K3⟩; have TN3 := TN.out w3 K3) | (go_at_call 180; refine TN3.mono ?_; rintro e w4 ⟨rfl, c4, hc4, Z4⟩; have cn := CN.out w4 c4 Z4; obtain ⟨y1, y2⟩ := PC.out w4 Z4.bel; have MG := fun m => MGX.out w4 c4 m hc4 Z4; replace Z4 : Hid _ := Z4))
        clear TN3 SM
        go_region_with (go_at_call 7; refine (MG 1).mono ?_; rintro e w5 ⟨⟨x5, rfl⟩, c5, hc5, Z5⟩)
        all_goals
          have R5 := Z5.nrow
          have K5 := Z5.bel
          replace Z5 : Hid _ := Z5
          clear cn y1 y2 MG
          go_wp2_with (at_builtin; go_loud (refine wpList_append_here rfl _ _ 39 rfl w.heap.size 3 i0 _ 1 8 Tryz.underlying39 hi0 hz0 hz1 hz2 rfl (by decide) _ _ (natC needed) rfl (R5.alloc _) ⟨w5.heap.size, 0, none⟩ 1 1 [.int .i64 (n : Int)] rfl rfl (by exact one_newD w5 0 _ _) (by simp [Value.oneCell']) (by unfold maxLen; omega) (by omega) (by have := K5.size; simp; omega) ?_; intro v6 w6 hown6 hgr6 hloc6))
          exact ⟨⟨c5, needed ++ [n], rest.take i, hc5, LN.out w6 c5 v6 (Z5.out.note ((Kept.refl _ w5).alloc _) hown6 hgr6 hloc6)⟩, by simp [slLenW]; omega⟩
      · rw [hc] at SM
        have RV : Hid (∀ W, Kept0 wr W → Calls Tryz.prog 181 #[.slice na needed.length nc] W fun e w' => e = .returned (.tuple #[]) ∧ w'.ownsRow w.heap.size 3 1 (.slice na needed.length nc) needed.length (natC needed.reverse) ∧ Kept0 w w') := fun W K => by
          have Lk := L.yz.kept0 K
          refine (reverse_in W w.heap.size _ needed Lk.nrow (by omega)).mono ?_
          rintro e w' ⟨he, R, KR⟩
          exact ⟨he, R, Lk.bel.into KR (fun j hj => .inr (Lk.nrow.lt j hj).1)⟩
        have FT : Hid (Fits l ps x y needed.reverse) := Fits.of HX.out.1 HX.out.2 L.wy (fun n hn => L.ok n (List.mem_append_left _ hn)) hc
        clear L hc hpc
        go_wp2_with (first | (go_at_call 11; refine SM.mono ?_; rintro e w3 ⟨rfl, K3⟩; have RV3 := RV.out w3 K3) | (go_at_call 181; refine RV3.mono ?_; rintro e w4 ⟨rfl, R4, K4⟩))
        go_ret2
        exact ⟨K4, .inr ⟨HB.out, needed.reverse, .slice na needed.length nc, rfl, by rw [List.length_reverse]; exact R4, FT.out, by rw [List.length_reverse]; omega⟩⟩

end Go.Proofs.YtlehlgipbhfioaaGreat

namespace Go.Proofs.YtlehlgipbhfioaaGreat
open Go.RowKit Go.Maps

def ordQ (q : Pr) : Pr := ordP q.1 q.2
theorem ordQ_le (q : Pr) : (ordQ q).1 ≤ (ordQ q).2 := by simp [ordQ, ordP]; omega
def foE (q : Pr) : Fo := Fo.eq (q.1 : Int) (q.2 : Int)
theorem ats_eq (q : Pr) : ats (eqF (foE q)) = [((q.1 : Int), (q.2 : Int))] := by simp [foE, Fo.eq, eqF, ats]
theorem ats_neg (q : Pr) : ats (eqF (Fo.neg (foE q))) = [((q.1 : Int), (q.2 : Int))] := by simp [foE, Fo.neg, Fo.eq, eqF, ats]
theorem atsN_eq (q : Pr) : atsN (foE q) = [ordQ q] := by simp [atsN, ats_eq, ordQ]
theorem atsN_neg (q : Pr) : atsN (Fo.neg (foE q)) = [ordQ q] := by simp [atsN, ats_neg, ordQ]
theorem tseN_eq (q : Pr) : tseN (foE q) = (1, (1, [])) := by
  unfold tseN
  rw [ats_eq]
  simp [foE, Fo.eq, Cn.tse, numP]
theorem tseN_neg (q : Pr) : tseN (Fo.neg (foE q)) = (-1, (1, [])) := by
  unfold tseN
  rw [ats_neg]
  simp [foE, Fo.neg, Fo.eq, Cn.tse, numP]
theorem addF_eq (P : Pb) (q : Pr) : P.addF (foE q) = (P.vari (ordQ q)).2 := by
  unfold Pb.addF
  rw [atsN_eq, tseN_eq]
  rfl
theorem addF_neg (P : Pb) (q : Pr) : P.addF (Fo.neg (foE q)) = (P.vari (ordQ q)).2 := by
  unfold Pb.addF
  rw [atsN_neg, tseN_neg]
  rfl
theorem fmOf_eq (n : Nat) (P : Pb) (q : Pr) : fmOf n P (foE q) = ⟨[ordQ q], [[((P.vari (ordQ q)).1 : Int)]], fun e => evE n e (foE q)⟩ := by
  unfold fmOf nmsN
  rw [atsN_eq, tseN_eq]
  simp [Pb.names, renL]
theorem fmOf_neg (n : Nat) (P : Pb) (q : Pr) : fmOf n P (Fo.neg (foE q)) = ⟨[ordQ q], [[-((P.vari (ordQ q)).1 : Int)]], fun e => evE n e (Fo.neg (foE q))⟩ := by
  unfold fmOf nmsN
  rw [atsN_neg, tseN_neg]
  simp [Pb.names, renL]
theorem evE_eq (n : Nat) (e : Nat → Nat → Bool) (q : Pr) (h : InN n q) : evE n e (foE q) = e q.1 q.2 := by
  have h1 : inC n (q.1 : Int) = true := by simp [inC]; exact h.1
  have h2 : inC n (q.2 : Int) = true := by simp [inC]; exact h.2
  rw [foE, Fo.eq, evE, evM]
  simp [h1, h2]
theorem evE_neg (n : Nat) (e : Nat → Nat → Bool) (f : Fo) : evE n e (Fo.neg f) = !evE n e f := by
  rw [Fo.neg, evE, evM]
  simp
/-- What stands behind some equalities. -/
structure EqI (n : Nat) (qs : List Pr) (P : Pb) (fs : List Fm) : Prop where
  num : NumOk P
  pk : Pk P
  known : P.known = []
  keys : P.vars.map (·.1) = addP [] (qs.map ordQ)
  len : fs.length = qs.length
  at_ : ∀ (i : Nat) (q : Pr), qs[i]? = some q → ∃ v, P.num (ordQ q) = some v ∧ fs[i]? = some ⟨[ordQ q], [[(v : Int)]], fun e => evE n e (foE q)⟩
  lem : ∀ c ∈ P.lemmas, ∃ (a : Pr) (v : Nat), a.1 = a.2 ∧ P.num a = some v ∧ c = [(v : Int)]
  few : P.lemmas.length ≤ P.count
theorem vari_lem {P : Pb} (h : ∀ c ∈ P.lemmas, ∃ (a : Pr) (v : Nat), a.1 = a.2 ∧ P.num a = some v ∧ c = [(v : Int)]) (hf : P.lemmas.length ≤ P.count) (a : Pr) :
    (∀ c ∈ (P.vari a).2.lemmas, ∃ (a' : Pr) (v : Nat), a'.1 = a'.2 ∧ (P.vari a).2.num a' = some v ∧ c = [(v : Int)]) ∧ (P.vari a).2.lemmas.length ≤ (P.vari a).2.count := by
  have hG := (P.vari_ok a).1
  cases hn : P.num a with
  | some x =>
    have e : (P.vari a).2 = P := by unfold Pb.vari; rw [hn]
    rw [e]
    exact ⟨h, hf⟩
  | none =>
    have e : (P.vari a).2 = { P with count := P.count + 1, vars := P.vars ++ [(a, P.count + 1)], lemmas := if a.1 = a.2 then P.lemmas ++ [[((P.count + 1 : Nat) : Int)]] else P.lemmas } := by unfold Pb.vari; rw [hn]
    have e1 : (P.vari a).1 = P.count + 1 := by unfold Pb.vari; rw [hn]
    have hl : (P.vari a).2.lemmas = if a.1 = a.2 then P.lemmas ++ [[((P.count + 1 : Nat) : Int)]] else P.lemmas := by rw [e]
    have hc : (P.vari a).2.count = P.count + 1 := by rw [e]
    refine ⟨fun c hcm => ?_, ?_⟩
    · rw [hl] at hcm
      have hold : c ∈ P.lemmas → ∃ (a' : Pr) (v : Nat), a'.1 = a'.2 ∧ (P.vari a).2.num a' = some v ∧ c = [(v : Int)] := fun hm => by
        obtain ⟨a', v, k1, k2, k3⟩ := h c hm
        exact ⟨a', v, k1, hG.num _ _ k2, k3⟩
      split at hcm
      · rename_i haa
        rcases List.mem_append.1 hcm with k | k
        · exact hold k
        · simp only [List.mem_singleton] at k
          refine ⟨a, P.count + 1, haa, ?_, k⟩
          rw [(P.vari_ok a).2.1, e1]
      · exact hold hcm
    · rw [hl, hc]
      split
      · simp; exact hf
      · omega
theorem EqI.start (n : Nat) : EqI n [] pb0 [] := ⟨⟨rfl, fun i e h => by simp [pb0] at h, by simp [pb0]⟩, ⟨fun e h => by simp [pb0] at h, fun c h => by simp [pb0] at h⟩, rfl, rfl, rfl, fun i q h => by simp at h, fun c h => by simp [pb0] at h, by simp [pb0]⟩
theorem EqI.snoc {n : Nat} {qs : List Pr} {P : Pb} {fs : List Fm} (h : EqI n qs P fs) (q : Pr) : EqI n (qs ++ [q]) (P.addF (foE q)) (fs ++ [fmOf n P (foE q)]) := by
  rw [addF_eq, fmOf_eq]
  obtain ⟨n1, n2⟩ := h.num.vari (ordQ q)
  obtain ⟨l1, l2⟩ := vari_lem h.lem h.few (ordQ q)
  obtain ⟨g1, g2, g3⟩ := P.vari_ok (ordQ q)
  refine ⟨n1, (h.pk.vari _).1, g3.trans h.known, ?_, by simp [h.len], fun i q' hi => ?_, l1, l2⟩
  · rw [n2, h.keys, List.map_append, addP_app]
    rfl
  · by_cases hlt : i < qs.length
    · rw [List.getElem?_append_left hlt] at hi
      obtain ⟨v, k1, k2⟩ := h.at_ i q' hi
      exact ⟨v, g1.num _ _ k1, by rw [List.getElem?_append_left (by rw [h.len]; exact hlt)]; exact k2⟩
    · rw [List.getElem?_append_right (by omega)] at hi
      have hi0 : i - qs.length = 0 := by
        have := (List.getElem?_eq_some_iff.1 hi).1
        simp at this
        omega
      rw [hi0] at hi
      simp at hi
      subst hi
      exact ⟨_, g2, by rw [List.getElem?_append_right (by rw [h.len]; omega), h.len, hi0]; rfl⟩
theorem EqI.all (n : Nat) (qs : List Pr) : ∀ k, k ≤ qs.length → EqI n (qs.take k) (Pb.adds n ((qs.take k).map foE) pb0 []).1 (Pb.adds n ((qs.take k).map foE) pb0 []).2
  | 0, _ => by simpa [Pb.adds] using EqI.start n
  | k + 1, h => by
    have ih := EqI.all n qs k (by omega)
    have e : qs.take (k + 1) = qs.take k ++ [qs[k]] := by rw [List.take_add_one, List.getElem?_eq_getElem (by omega)]; rfl
    rw [e, List.map_append, List.map_cons, List.map_nil, adds_snoc]
    exact ih.snoc _
/-- Members alone count. -/
theorem nil_of_mem {l : List Pr} (h : ∀ q, q ∉ l) : l = [] := List.eq_nil_iff_forall_not_mem.2 h
theorem cg_ord {l : List Tm} {qs : List Pr} (i j : Nat) : Cc.Cg l (addP [] (qs.map ordQ)) i j ↔ Cc.Cg l qs i j := by
  have hm : ∀ q, q ∈ addP [] (qs.map ordQ) ↔ ∃ q' ∈ qs, ordQ q' = q := fun q => by
    obtain ⟨a1, a2, a3⟩ := addP_sub (qs.map ordQ) []
    rw [← List.mem_map]
    exact ⟨fun h => (a3 q h).resolve_left (by simp), a2 q⟩
  constructor
  · refine fun h => Cc.Cg.mono (fun a b hab ha hb => ?_) h
    obtain ⟨q, hq, e⟩ := (hm _).1 hab
    simp only [ordQ, ordP, Prod.mk.injEq] at e
    by_cases hle : q.1 ≤ q.2
    · rw [Nat.min_eq_left hle, Nat.max_eq_right hle] at e
      exact Cc.Cg.told (by rw [← e.1, ← e.2]; exact hq) ha hb
    · rw [Nat.min_eq_right (by omega), Nat.max_eq_left (by omega)] at e
      exact Cc.Cg.symm (Cc.Cg.told (by rw [← e.1, ← e.2]; exact hq) hb ha)
  · refine fun h => Cc.Cg.mono (fun a b hab ha hb => ?_) h
    have := (hm (ordQ (a, b))).2 ⟨(a, b), hab, rfl⟩
    simp only [ordQ, ordP] at this
    by_cases hle : a ≤ b
    · rw [Nat.min_eq_left hle, Nat.max_eq_right hle] at this
      exact Cc.Cg.told this ha hb
    · rw [Nat.min_eq_right (by omega), Nat.max_eq_left (by omega)] at this
      exact Cc.Cg.symm (Cc.Cg.told this hb ha)
theorem mem_argN {l : List Tm} {a b : Nat} {t u : Tm} (ha : l[a]? = some t) (hb : l[b]? = some u) {q : Pr} (h : q ∈ argN l (ordP a b)) : ∃ k x y : Nat, t.args[k]? = some x ∧ u.args[k]? = some y ∧ (q = ordP x y ∨ q = ordP y x) := by
  have key : ∀ (xs ys : List Nat) (q : Pr), q ∈ List.zipWith ordP xs ys → ∃ k x y : Nat, xs[k]? = some x ∧ ys[k]? = some y ∧ q = ordP x y := fun xs ys q h => by
    obtain ⟨k, hk, e⟩ := List.getElem_of_mem h
    have hk' := hk
    rw [List.length_zipWith] at hk'
    refine ⟨k, xs[k]'(by omega), ys[k]'(by omega), List.getElem?_eq_getElem _, List.getElem?_eq_getElem _, ?_⟩
    rw [← e, List.getElem_zipWith]
  have e1 : argsN l a = t.args := by simp [argsN, ha]
  have e2 : argsN l b = u.args := by simp [argsN, hb]
  unfold argN ordP at h
  by_cases hle : a ≤ b
  · simp only [Nat.min_eq_left hle, Nat.max_eq_right hle] at h
    rw [e1, e2] at h
    obtain ⟨k, x, y, k1, k2, k3⟩ := key _ _ _ h
    exact ⟨k, x, y, k1, k2, .inl k3⟩
  · simp only [Nat.min_eq_right (show b ≤ a by omega), Nat.max_eq_left (show b ≤ a by omega)] at h
    rw [e1, e2] at h
    obtain ⟨k, x, y, k1, k2, k3⟩ := key _ _ _ h
    exact ⟨k, y, x, k2, k1, .inr k3⟩
theorem conn_ord {E : Edges} {x y : Nat} (h : Conn E x y) {q : Pr} (e : q = ordP x y ∨ q = ordP y x) : Conn E q.1 q.2 := by
  have : q = ordP x y := by
    rcases e with e | e
    · exact e
    · rw [e, ordP_comm]
  rw [this]
  unfold ordP
  by_cases hle : x ≤ y
  · simp only [Nat.min_eq_left hle, Nat.max_eq_right hle]
    exact h
  · simp only [Nat.min_eq_right (show y ≤ x by omega), Nat.max_eq_left (show y ≤ x by omega)]
    exact h.symm
/-- What was linked follows. -/
theorem PfIs.cg {l : List Tm} (hB : Bnk l) {told : List Pr} {P : Pf} {E : Edges} (h : PfIs l told P E) (hle : ∀ a ∈ told, a.2 < l.length ∧ a.1 ≤ a.2) : ∀ (n s : Nat), s ≤ n → n ≤ E.length → ∀ a b, a < l.length → Conn (E.take s) a b → Cc.Cg l told a b
  | 0, s, hs, _, a, b, ha, hc => by
    obtain rfl : s = 0 := by omega
    rw [List.take_zero] at hc
    cases hc with
    | refl => exact Cc.Cg.refl ha
    | step _ k => rcases k with k | k <;> cases k
  | n + 1, s, hs, hn, a, b, ha, hc => by
    by_cases hsn : s ≤ n
    · exact PfIs.cg hB h hle n s hsn (by omega) a b ha hc
    · obtain rfl : s = n + 1 := by omega
      have he : E.take (n + 1) = E.take n ++ [E[n]] := by rw [List.take_add_one, List.getElem?_eq_getElem (by omega)]; rfl
      have ih := fun a b ha hc => PfIs.cg hB h hle n n (Nat.le_refl _) (by omega) a b ha hc
      obtain ⟨l1, l2⟩ := h.lt E[n] (List.getElem_mem _)
      have hed : Cc.Cg l told (E[n]).1 (E[n]).2 := by
        rcases h.edge n (by omega) with k | ⟨t, u, t1, t2, t3, t4, t5⟩
        · obtain ⟨k1, k2⟩ := hle _ k
          unfold ordP at k
          by_cases hle' : (E[n]).1 ≤ (E[n]).2
          · rw [Nat.min_eq_left hle', Nat.max_eq_right hle'] at k
            exact Cc.Cg.told k l1 l2
          · rw [Nat.min_eq_right (by omega), Nat.max_eq_left (by omega)] at k
            exact Cc.Cg.symm (Cc.Cg.told k l2 l1)
        · refine Cc.Cg.cong t1 t2 t3 t4 fun k x y hx hy => ?_
          have hxl : x < l.length := hB.lt _ t t1 x (List.mem_of_getElem? hx)
          exact ih x y hxl (t5 k x y hx hy)
      rw [he] at hc
      have hc' := conn_add.1 hc
      rcases hc' with k | ⟨k1, k2⟩ | ⟨k1, k2⟩
      · exact ih a b ha k
      · exact (ih a _ ha k1).trans (hed.trans (ih _ b l2 k2))
      · exact (ih a _ ha k1).trans (hed.symm.trans (ih _ b l1 k2))
theorem cgN_iff {l : List Tm} (hB : Bnk l) {told : List Pr} (ht : ∀ a ∈ told, a.1 ≤ a.2 ∧ a.2 < l.length) {a b : Nat} (ha : a < l.length) (hb : b < l.length) : cgN l told a b = true ↔ Cc.Cg l told a b := by
  obtain ⟨P, E, h1, h2, h3⟩ := proof_ok hB ht
  unfold cgN
  rw [h1]
  simp only [decide_eq_true_eq]
  rw [h2.conn a b ha hb]
  constructor
  · intro h
    refine PfIs.cg hB h2 (fun q hq => ⟨(ht q hq).2, (ht q hq).1⟩) E.length E.length (Nat.le_refl _) (Nat.le_refl _) a b ha ?_
    rw [List.take_length]
    exact h
  · exact h3 a b
theorem toldN_addP (val : Nat → Bool) (vs : List (Pr × Nat)) (am : Nat → List Pr) : ∀ (ns : List Nat) (acc : List Pr), toldN val vs am acc ns = addP acc ((ns.flatMap am).filter fun a => val ((numV vs a).getD 0 - 1)) := by
  have h1 : ∀ (xs acc : List Pr), tellL val vs acc xs = addP acc (xs.filter fun a => val ((numV vs a).getD 0 - 1)) := by
    intro xs
    induction xs with
    | nil => intro acc; rfl
    | cons a xs ih =>
      intro acc
      have e : tellL val vs acc (a :: xs) = tellL val vs (tell1 val vs acc a) xs := rfl
      rw [e, ih, tell1, List.filter_cons]
      split
      · exact (addP_app acc [a] _).symm
      · rfl
  intro ns
  induction ns with
  | nil => intro acc; rfl
  | cons n ns ih =>
    intro acc
    have e : toldN val vs am acc (n :: ns) = toldN val vs am (tellL val vs acc (am n)) ns := rfl
    rw [e, ih, h1, List.flatMap_cons, List.filter_append, addP_app]
theorem wrongN_addP (val : Nat → Bool) (vs : List (Pr × Nat)) (cq : Nat → Nat → Bool) (am : Nat → List Pr) (ok : Nat → Bool) : ∀ (ns : List Nat) (acc : List Pr), wrongN val vs cq am ok acc ns = addP acc ((ns.flatMap fun n => if ok n then [] else am n).filter fun a => cq a.1 a.2 && !val ((numV vs a).getD 0 - 1)) := by
  have h1 : ∀ (xs acc : List Pr), wrngL val vs cq acc xs = addP acc (xs.filter fun a => cq a.1 a.2 && !val ((numV vs a).getD 0 - 1)) := by
    intro xs
    induction xs with
    | nil => intro acc; rfl
    | cons a xs ih =>
      intro acc
      have e : wrngL val vs cq acc (a :: xs) = wrngL val vs cq (wrng1 val vs cq acc a) xs := rfl
      rw [e, ih, wrng1, List.filter_cons]
      by_cases hc : cq a.1 a.2 = true ∧ val ((numV vs a).getD 0 - 1) = false
      · rw [if_pos hc, if_pos (by simp [hc.1, hc.2])]
        exact (addP_app acc [a] _).symm
      · rw [if_neg hc, if_neg (by simpa using hc)]
  intro ns
  induction ns with
  | nil => intro acc; rfl
  | cons n ns ih =>
    intro acc
    have e : wrongN val vs cq am ok acc (n :: ns) = wrongN val vs cq am ok (if ok n then acc else wrngL val vs cq acc (am n)) ns := rfl
    rw [e, ih, List.flatMap_cons, List.filter_append, addP_app]
    split
    · rfl
    · rw [h1]
theorem fm_range {fs : List Fm} {α : Type} (F : Fm → List α) : (List.range fs.length).flatMap (fun n => F (Fm.get fs n)) = fs.flatMap F := by
  have : (List.range fs.length).map (Fm.get fs) = fs := by
    refine List.ext_getElem? fun i => ?_
    by_cases hi : i < fs.length
    · rw [List.getElem?_map, List.getElem?_range hi]
      simp [Fm.get, List.getElem?_eq_getElem hi]
    · rw [List.getElem?_eq_none (by simp; omega), List.getElem?_eq_none (by omega)]
  conv => rhs; rw [← this]
  rw [List.flatMap_map]
/-- Behind equalities and one more variable. -/
structure EqJ (n : Nat) (qs : List Pr) (P : Pb) (fs : List Fm) : Prop where
  num : NumOk P
  pk : Pk P
  known : P.known = []
  len : fs.length = qs.length
  at_ : ∀ (i : Nat) (q : Pr), qs[i]? = some q → ∃ v, P.num (ordQ q) = some v ∧ fs[i]? = some ⟨[ordQ q], [[(v : Int)]], fun e => evE n e (foE q)⟩
  lem : ∀ c ∈ P.lemmas, ∃ (a : Pr) (v : Nat), a.1 = a.2 ∧ P.num a = some v ∧ c = [(v : Int)]
  few : P.lemmas.length ≤ P.count
theorem EqI.j {n : Nat} {qs : List Pr} {P : Pb} {fs : List Fm} (h : EqI n qs P fs) : EqJ n qs P fs := ⟨h.num, h.pk, h.known, h.len, h.at_, h.lem, h.few⟩
theorem EqJ.vari {n : Nat} {qs : List Pr} {P : Pb} {fs : List Fm} (h : EqJ n qs P fs) (a : Pr) : EqJ n qs (P.vari a).2 fs := by
  obtain ⟨l1, l2⟩ := vari_lem h.lem h.few a
  obtain ⟨g1, g2, g3⟩ := P.vari_ok a
  exact ⟨(h.num.vari a).1, (h.pk.vari _).1, g3.trans h.known, h.len, fun i q hi => by obtain ⟨v, k1, k2⟩ := h.at_ i q hi; exact ⟨v, g1.num _ _ k1, k2⟩, l1, l2⟩
theorem EqJ.mem {n : Nat} {qs : List Pr} {P : Pb} {fs : List Fm} (h : EqJ n qs P fs) {f : Fm} (hf : f ∈ fs) : ∃ q ∈ qs, ∃ v, P.num (ordQ q) = some v ∧ f = ⟨[ordQ q], [[(v : Int)]], fun e => evE n e (foE q)⟩ := by
  obtain ⟨i, hi, e⟩ := List.getElem_of_mem hf
  have hq : i < qs.length := by rw [← h.len]; exact hi
  obtain ⟨v, k1, k2⟩ := h.at_ i _ (List.getElem?_eq_getElem hq)
  refine ⟨_, List.getElem_mem hq, v, k1, ?_⟩
  rw [List.getElem?_eq_getElem hi] at k2
  injection k2 with k2
  exact e.symm.trans k2
theorem EqJ.has {n : Nat} {qs : List Pr} {P : Pb} {fs : List Fm} (h : EqJ n qs P fs) {q : Pr} (hq : q ∈ qs) : ∃ v, P.num (ordQ q) = some v ∧ ⟨[ordQ q], [[(v : Int)]], fun e => evE n e (foE q)⟩ ∈ fs := by
  obtain ⟨i, hi, e⟩ := List.getElem_of_mem hq
  obtain ⟨v, k1, k2⟩ := h.at_ i q (by rw [← e]; exact List.getElem?_eq_getElem hi)
  exact ⟨v, k1, List.mem_of_getElem? k2⟩
theorem flat_one (f : Pr → Pr) : ∀ qs : List Pr, qs.flatMap (fun q => [f q]) = qs.map f
  | [] => rfl
  | q :: qs => by rw [List.flatMap_cons, flat_one f qs]; rfl
theorem EqJ.ams {n : Nat} {qs : List Pr} {P : Pb} {fs : List Fm} (h : EqJ n qs P fs) : fs.flatMap Fm.am = qs.map ordQ := by
  have : fs.map Fm.am = qs.map fun q => [ordQ q] := by
    refine List.ext_getElem? fun i => ?_
    by_cases hi : i < qs.length
    · obtain ⟨v, k1, k2⟩ := h.at_ i _ (List.getElem?_eq_getElem hi)
      rw [List.getElem?_map, List.getElem?_map, k2, List.getElem?_eq_getElem hi]
      rfl
    · rw [List.getElem?_eq_none (by simp [h.len]; omega), List.getElem?_eq_none (by simp; omega)]
  have e : fs.flatMap Fm.am = (fs.map Fm.am).flatten := by rw [List.flatMap_def]
  rw [e, this, ← List.flatMap_def, flat_one]
/-- The clauses of equalities are units, and their variables are true. -/
theorem EqJ.unit {n : Nat} {qs : List Pr} {P : Pb} {fs : List Fm} (h : EqJ n qs P fs) {c : List Int} (hc : c ∈ P.lemmas ++ fs.flatMap Fm.cs) : ∃ (a : Pr) (v : Nat), (a.1 = a.2 ∨ ∃ q ∈ qs, ordQ q = a) ∧ P.num a = some v ∧ c = [(v : Int)] := by
  rcases List.mem_append.1 hc with k | k
  · obtain ⟨a, v, k1, k2, k3⟩ := h.lem c k
    exact ⟨a, v, .inl k1, k2, k3⟩
  · obtain ⟨f, k1, k2⟩ := List.mem_flatMap.1 k
    obtain ⟨q, hq, v, k3, rfl⟩ := h.mem k1
    simp only [List.mem_singleton] at k2
    exact ⟨_, v, .inr ⟨q, hq, rfl⟩, k3, k2⟩
theorem unit_ok {P : Pb} (hP : Pk P) {a : Pr} {v : Nat} (hv : P.num a = some v) (s : Int) (hs : s = (v : Int) ∨ s = -(v : Int)) : ClOk P.count [s] ∧ s ≠ 0 ∧ s.natAbs ≤ P.count := by
  have := hP.num hv
  have h2 : s ≠ 0 ∧ s.natAbs ≤ P.count := by omega
  exact ⟨⟨.inl (by simp), fun x hx => by simp only [List.mem_singleton] at hx; subst hx; exact h2⟩, h2⟩
/-- Of equalities alone there is a model. -/
theorem eq_model {l : List Tm} (hB : Bnk l) {qs : List Pr} (hq : ∀ q ∈ qs, InN l.length q) (hl : qs.length ≤ 600) {P : Pb} {fs : List Fm} (h : EqI l.length qs P fs) : MdlT l fs (List.range fs.length) (fun r _ => ∃ t, r = some t) 1 P := by
  have hj := h.j
  have hcls : clsN P fs (List.range fs.length) = P.lemmas ++ fs.flatMap Fm.cs := by unfold clsN; rw [fm_range Fm.cs]
  have hcnt : P.count ≤ 600 := by
    rw [h.num.cnt]
    have e1 : P.vars.length = (P.vars.map (·.1)).length := by simp
    rw [e1, h.keys]
    have := addP_len [] (qs.map ordQ)
    simp at this
    omega
  have hun : ∀ c ∈ clsN P fs (List.range fs.length), ∃ x, c = [x] ∧ 0 < x ∧ ClOk P.count c ∧ x.natAbs ≤ P.count := fun c hc => by
    rw [hcls] at hc
    obtain ⟨a, v, _, k2, rfl⟩ := hj.unit hc
    have := hj.pk.num k2
    exact ⟨_, rfl, by omega, (unit_ok hj.pk k2 _ (.inl rfl)).1, by omega⟩
  have hlen : (clsN P fs (List.range fs.length)).length ≤ 100000000 := by
    rw [hcls, List.length_append, List.length_flatMap]
    have h1 := h.few
    have h2 : (fs.map fun f => f.cs.length).sum ≤ fs.length * 1 := by
      have : ∀ gs : List Fm, (∀ f ∈ gs, f.cs.length ≤ 1) → (gs.map fun f => f.cs.length).sum ≤ gs.length * 1 := by
        intro gs
        induction gs with
        | nil => intro _; simp
        | cons g gs ih =>
          intro hg
          have := ih (fun f hf => hg f (by simp [hf]))
          have := hg g (by simp)
          simp at *
          omega
      exact this fs fun f hf => by obtain ⟨q, _, v, _, rfl⟩ := hj.mem hf; simp
    rw [h.len] at h2
    omega
  obtain ⟨vs, s1, s2, s3⟩ := solve_units (n := P.count) (cs := clsN P fs (List.range fs.length)) (fun c hc => by obtain ⟨x, k1, k2, k3, k4⟩ := hun c hc; exact ⟨x, k1, by omega, k4⟩) (fun x h1 h2 => by
    obtain ⟨y, k1, k2, _⟩ := hun _ h1
    obtain ⟨z, k3, k4, _⟩ := hun _ h2
    simp at k1 k3
    omega)
  refine ⟨⟨by omega, hlen, fun c hc => by obtain ⟨x, _, _, k3, _⟩ := hun c hc; exact k3⟩, ?_⟩
  rw [s1]
  have htrue : ∀ q ∈ qs, valB vs ((numV P.vars (ordQ q)).getD 0 - 1) = true := fun q hq => by
    obtain ⟨v, k1, k2⟩ := hj.has hq
    have e : numV P.vars (ordQ q) = some v := k1
    have hv := hj.pk.num k1
    rw [e]
    obtain ⟨v', rfl⟩ : ∃ v', v = v' + 1 := ⟨v - 1, by omega⟩
    have := (s3 v').1 (by rw [hcls]; exact List.mem_append_right _ (List.mem_flatMap.2 ⟨_, k2, by simp⟩))
    simp [valB, this]
  have htold : tolN fs P (List.range fs.length) vs = addP [] (qs.map ordQ) := by
    unfold tolN
    rw [toldN_addP, fm_range Fm.am, hj.ams, List.filter_eq_self.2 (fun a ha => by obtain ⟨q, k1, rfl⟩ := List.mem_map.1 ha; exact htrue q k1)]
  have hin : ∀ a ∈ addP [] (qs.map ordQ), a.1 ≤ a.2 ∧ a.2 < l.length := fun a ha => by
    rcases (addP_sub (qs.map ordQ) []).2.2 a ha with k | k
    · cases k
    · obtain ⟨q, k1, rfl⟩ := List.mem_map.1 k
      exact ⟨ordQ_le q, (InN.ord (hq q k1).1 (hq q k1).2).2⟩
  have hw : wroN l fs P (List.range fs.length) vs = [] := by
    refine nil_of_mem fun q hm => ?_
    unfold wroN at hm
    rw [wrongN_mem] at hm
    rcases hm with k | ⟨⟨n, hn, k1, k2⟩, _⟩
    · cases k
    · have hnl : n < fs.length := by simpa using hn
      have hnq : n < qs.length := by rw [← hj.len]; exact hnl
      obtain ⟨v, e1, e2⟩ := hj.at_ n _ (List.getElem?_eq_getElem hnq)
      have eg : Fm.get fs n = ⟨[ordQ qs[n]], [[(v : Int)]], fun e => evE l.length e (foE qs[n])⟩ := by unfold Fm.get; rw [e2]; rfl
      have hqn : qs[n] ∈ qs := List.getElem_mem _
      rw [eg] at k1
      simp only at k1
      rw [evE_eq _ _ _ (hq _ hqn), htold] at k1
      have := (cgN_iff hB hin (hq _ hqn).1 (hq _ hqn).2).2 ((cg_ord _ _).2 (Cc.Cg.told hqn (hq _ hqn).1 (hq _ hqn).2))
      rw [k1] at this
      cases this
  exact ⟨fun _ => ⟨_, rfl⟩, fun k => absurd hw k⟩
end Go.Proofs.YtlehlgipbhfioaaGreat

namespace Go.Proofs.YtlehlgipbhfioaaGreat
open Go.RowKit Go.Maps

theorem argN_in {l : List Tm} (hB : Bnk l) (p : Pr) : (∀ q ∈ argN l p, q.1 ≤ q.2 ∧ q.1 < l.length ∧ q.2 < l.length) ∧ (argN l p).length ≤ 4 := by
  have ha : ∀ i, (∀ a ∈ argsN l i, a < l.length) ∧ (argsN l i).length ≤ 4 := fun i => by
    unfold argsN
    cases hi : l[i]? with
    | none => simp
    | some t => exact ⟨fun a h => hB.lt i t hi a h, hB.four i t hi⟩
  refine ⟨fun q hq => ?_, ?_⟩
  · obtain ⟨k, hk, e⟩ := List.getElem_of_mem hq
    unfold argN at hk e
    have hk' := hk
    rw [List.length_zipWith] at hk'
    rw [List.getElem_zipWith] at e
    have h1 := (ha p.1).1 _ (List.getElem_mem (show k < (argsN l p.1).length by omega))
    have h2 := (ha p.2).1 _ (List.getElem_mem (show k < (argsN l p.2).length by omega))
    have := InN.ord h1 h2
    rw [e] at this
    refine ⟨?_, this⟩
    rw [← e]
    simp [ordP]
    omega
  · unfold argN
    rw [List.length_zipWith]
    have := (ha p.1).2
    omega
/-- What the links of a proof come of. -/
theorem PfIs.facts {l : List Tm} (hB : Bnk l) {told : List Pr} {F : Pf} {E : Edges} (h : PfIs l told F E) :
    (∀ s (hs : s < E.length), ordP (E[s]).1 (E[s]).2 ∈ told ∨ ∀ q ∈ argN l (ordP (E[s]).1 (E[s]).2), Conn (E.take s) q.1 q.2) ∧
    ∀ x y, AdjE E x y → ordP x y ∉ told → (∃ s t : Tm, l[(ordP x y).1]? = some s ∧ l[(ordP x y).2]? = some t ∧ s.args.length = t.args.length ∧ s.args.length ≤ 4) ∧ ∀ q ∈ argN l (ordP x y), Conn E q.1 q.2 ∧ q.1 < l.length ∧ q.2 < l.length := by
  have key : ∀ s (hs : s < E.length), ordP (E[s]).1 (E[s]).2 ∈ told ∨ ((∃ s' t : Tm, l[(ordP (E[s]).1 (E[s]).2).1]? = some s' ∧ l[(ordP (E[s]).1 (E[s]).2).2]? = some t ∧ s'.args.length = t.args.length ∧ s'.args.length ≤ 4) ∧ ∀ q ∈ argN l (ordP (E[s]).1 (E[s]).2), Conn (E.take s) q.1 q.2) := fun s hs => by
    rcases h.edge s hs with k | ⟨t, u, t1, t2, t3, t4, t5⟩
    · exact .inl k
    · refine .inr ⟨?_, fun q hq => ?_⟩
      · unfold ordP
        by_cases hle : (E[s]).1 ≤ (E[s]).2
        · simp only [Nat.min_eq_left hle, Nat.max_eq_right hle]
          exact ⟨t, u, t1, t2, t4, hB.four _ _ t1⟩
        · simp only [Nat.min_eq_right (show (E[s]).2 ≤ (E[s]).1 by omega), Nat.max_eq_left (show (E[s]).2 ≤ (E[s]).1 by omega)]
          exact ⟨u, t, t2, t1, t4.symm, hB.four _ _ t2⟩
      · obtain ⟨k, x, y, k1, k2, k3⟩ := mem_argN t1 t2 hq
        exact conn_ord (t5 k x y k1 k2) k3
  refine ⟨fun s hs => (key s hs).imp id (·.2), fun x y hxy hno => ?_⟩
  have hs : ∃ s, ∃ hs : s < E.length, ordP (E[s]).1 (E[s]).2 = ordP x y := by
    rcases hxy with k | k
    · obtain ⟨s, hs, e⟩ := List.getElem_of_mem k
      exact ⟨s, hs, by rw [e]⟩
    · obtain ⟨s, hs, e⟩ := List.getElem_of_mem k
      exact ⟨s, hs, by rw [e, ordP_comm]⟩
  obtain ⟨s, hs, e⟩ := hs
  have := key s hs
  rw [e] at this
  obtain ⟨k1, k2⟩ := this.resolve_left hno
  exact ⟨k1, fun q hq => ⟨(k2 q hq).mono (fun e he => List.mem_of_mem_take he), ((argN_in hB _).1 q hq).2⟩⟩
theorem forced_unit {cs : List (List Int)} {x : Int} (h : [x] ∈ cs) : Forced (cs.map litsN) (litN x) := by
  have e : litsN [x] = [litN x] := rfl
  refine Forced.by_ (c := litsN [x]) (List.mem_map.2 ⟨_, h, rfl⟩) (by rw [e]; simp) (fun y hy hne => ?_)
  rw [e] at hy
  exact absurd (by simpa using hy) hne
theorem forced_not {cs : List (List Int)} {v : Nat} (hv : v ≠ 0) (h : [-(v : Int)] ∈ cs) : Forced (cs.map litsN) (opp (litN (v : Int))) := by
  rw [opp_litN (by omega)]
  exact forced_unit h
theorem Pb.vari_had {P : Pb} {a : Pr} {x : Nat} (h : P.num a = some x) : P.vari a = (x, P) := by
  unfold Pb.vari
  rw [h]
theorem cube_le {n : Nat} (h : n ≤ 150) : 2 * n * (n * n) ≤ 6750000 := by
  have h1 : n * n ≤ 150 * 150 := Nat.mul_le_mul h h
  have h2 : 2 * n ≤ 300 := by omega
  exact Nat.le_trans (Nat.mul_le_mul h2 h1) (by decide)
/-- The formulas of Follows. -/
structure FoI (l : List Tm) (qs : List Pr) (q0 : Pr) (P : Pb) (V : Nat) (fs : List Fm) : Prop where
  j : EqJ l.length qs P fs
  num : P.num (ordQ q0) = some V
  keys : P.vars.map (·.1) = addP (addP [] (qs.map ordQ)) [ordQ q0]
  self : (ordQ q0).1 = (ordQ q0).2 → [(V : Int)] ∈ P.lemmas ++ fs.flatMap Fm.cs
theorem FoI.of {l : List Tm} {qs : List Pr} {P : Pb} {fs : List Fm} (h : EqI l.length qs P fs) (q0 : Pr) : FoI l qs q0 (P.vari (ordQ q0)).2 (P.vari (ordQ q0)).1 fs := by
  refine ⟨h.j.vari _, (P.vari_ok _).2.1, by rw [(h.num.vari _).2, h.keys], fun hs => ?_⟩
  cases hn : P.num (ordQ q0) with
  | some x =>
    have hm : ordQ q0 ∈ P.vars.map (·.1) := Classical.byContradiction fun k => by rw [(num_none_iff P _).2 k] at hn; cases hn
    rw [h.keys] at hm
    rcases (addP_sub (qs.map ordQ) []).2.2 _ hm with k | k
    · cases k
    · obtain ⟨q, k1, k2⟩ := List.mem_map.1 k
      obtain ⟨v, k3, k4⟩ := (h.j.vari (ordQ q0)).has k1
      rw [k2, (P.vari_ok _).2.1] at k3
      cases k3
      exact List.mem_append_right _ (List.mem_flatMap.2 ⟨_, k4, by simp⟩)
  | none =>
    refine List.mem_append_left _ ?_
    unfold Pb.vari
    rw [hn]
    simp only [if_pos hs]
    simp
theorem FoI.last {l : List Tm} {qs : List Pr} {q0 : Pr} {P : Pb} {V : Nat} {fs : List Fm} (h : FoI l qs q0 P V fs) (hno : ordQ q0 ∉ addP [] (qs.map ordQ)) : V = (addP [] (qs.map ordQ)).length + 1 ∧ ∀ (n : Nat) (a : Pr), (addP [] (qs.map ordQ))[n]? = some a → P.num a = some (n + 1) := by
  have hk := h.keys
  simp only [addP, if_neg hno] at hk
  have hat : ∀ (n : Nat) (a : Pr), (addP [] (qs.map ordQ) ++ [ordQ q0])[n]? = some a → P.num a = some (n + 1) := fun n a hn => by
    rw [← hk, List.getElem?_map] at hn
    cases he : P.vars[n]? with
    | none => rw [he] at hn; cases hn
    | some e =>
      rw [he] at hn
      cases hn
      exact h.j.num.num_at (i := n) (a := e.1) (x := e.2) he
  refine ⟨?_, fun n a hn => hat n a ?_⟩
  · have := hat (addP [] (qs.map ordQ)).length (ordQ q0) (by simp)
    rw [h.num] at this
    cases this
    rfl
  · rw [List.getElem?_append_left (List.getElem?_eq_some_iff.1 hn).1]
    exact hn
theorem nodup_addP : ∀ (r l : List Pr), l.Nodup → (addP l r).Nodup
  | [], _, h => h
  | a :: r, l, h => by
    rw [addP]
    refine nodup_addP r _ ?_
    split
    · exact h
    · rename_i hn
      rw [List.nodup_append]
      exact ⟨h, by simp, fun x hx y hy => by simp only [List.mem_singleton] at hy; subst hy; exact fun e => hn (e ▸ hx)⟩
/-- Once the goal is learned, the clauses cannot be. -/
theorem follow_learned {l : List Tm} (hB : Bnk l) (hl : l.length ≤ 150) {qs : List Pr} (hq : ∀ q ∈ qs, InN l.length q) (hql : qs.length ≤ 600) {q0 : Pr} (hq0 : InN l.length q0) {P : Pb} {V : Nat} {fs : List Fm} (h : FoI l qs q0 P V fs) (hno : ordQ q0 ∉ addP [] (qs.map ordQ)) (hns : (ordQ q0).1 ≠ (ordQ q0).2)
    (hcg : Cc.Cg l qs q0.1 q0.2) {F : Pf} (hF : proofN l (addP [] (qs.map ordQ)) = some F) {Q : Pb} (hL : LrnK l (addP [] (qs.map ordQ)) F P (ordQ q0) Q) (ns : List Nat) (fs' : List Fm) (hcls : ∀ R : Pb, clsN R fs' ns = R.lemmas ++ (fs.flatMap Fm.cs ++ [[-(V : Int)]])) :
    SlvOk Q fs' ns ∧ solveN Q.count (clsN Q fs' ns) = some none := by
  have htin : ∀ a ∈ addP [] (qs.map ordQ), ∃ q ∈ qs, ordQ q = a := fun a ha => by
    rcases (addP_sub (qs.map ordQ) []).2.2 a ha with k | k
    · cases k
    · exact List.mem_map.1 k
  have hin : ∀ a ∈ addP [] (qs.map ordQ), a.1 ≤ a.2 ∧ a.2 < l.length := fun a ha => by
    obtain ⟨q, k1, rfl⟩ := htin a ha
    exact ⟨ordQ_le q, (InN.ord (hq q k1).1 (hq q k1).2).2⟩
  have htlen : (addP [] (qs.map ordQ)).length ≤ 600 := by
    have := addP_len [] (qs.map ordQ)
    simp at this
    omega
  obtain ⟨hV, hnum⟩ := h.last hno
  have hP := h.j.pk
  have hVr := hP.num h.num
  have hcnt : P.count ≤ 601 := by
    rw [h.j.num.cnt]
    have e1 : P.vars.length = (P.vars.map (·.1)).length := by simp
    rw [e1, h.keys]
    have := addP_len (addP [] (qs.map ordQ)) [ordQ q0]
    simp at this
    omega
  have hunit : ∀ a ∈ addP [] (qs.map ordQ), ∃ v : Nat, v ≠ 0 ∧ P.num a = some v ∧ [(v : Int)] ∈ fs.flatMap Fm.cs := fun a ha => by
    obtain ⟨q, k1, rfl⟩ := htin a ha
    obtain ⟨v, k2, k3⟩ := h.j.has k1
    have := hP.num k2
    exact ⟨v, by omega, k2, List.mem_flatMap.2 ⟨_, k3, by simp⟩⟩
  have hrest : ∀ c ∈ fs.flatMap Fm.cs ++ [[-(V : Int)]], ClOk P.count c := fun c hc => by
    rcases List.mem_append.1 hc with k | k
    · obtain ⟨a, v, _, k2, rfl⟩ := h.j.unit (List.mem_append_right _ k)
      exact (unit_ok hP k2 _ (.inl rfl)).1
    · simp only [List.mem_singleton] at k
      subst k
      exact (unit_ok hP h.num _ (.inr rfl)).1
  have hfl : (fs.flatMap Fm.cs ++ [[-(V : Int)]]).length ≤ 601 := by
    rw [List.length_append, List.length_flatMap]
    have : ∀ gs : List Fm, (∀ f ∈ gs, f.cs.length ≤ 1) → (gs.map fun f => f.cs.length).sum ≤ gs.length := by
      intro gs
      induction gs with
      | nil => intro _; simp
      | cons g gs ih =>
        intro hg
        have := ih (fun f hf => hg f (by simp [hf]))
        have := hg g (by simp)
        simp at *
        omega
    have := this fs fun f hf => by obtain ⟨q, _, v, _, rfl⟩ := h.j.mem hf; simp
    rw [h.j.len] at this
    simp
    omega
  have hPl := h.j.few
  -- what is left to show of Q
  have fin : Pk Q → P.count ≤ Q.count → Q.count ≤ 2000 → Q.lemmas.length ≤ 90000000 → Forced ((clsN Q fs' ns).map litsN) (litN (V : Int)) → SlvOk Q fs' ns ∧ solveN Q.count (clsN Q fs' ns) = some none := fun hQ hle h2000 hlem hf => by
    have hall : ∀ c ∈ clsN Q fs' ns, ClOk Q.count c := fun c hc => by
      rw [hcls] at hc
      rcases List.mem_append.1 hc with k | k
      · exact hQ.lem c k
      · exact (hrest c k).mono hle
    refine ⟨⟨h2000, ?_, hall⟩, ?_⟩
    · rw [hcls, List.length_append]
      omega
    · refine solve_no (fun c hc x hx => ((hall c hc).2 x hx).2) hf (forced_not (by omega) ?_)
      rw [hcls]
      simp
  obtain ⟨F', E, p1, p2, p3⟩ := proof_ok hB hin
  rw [hF] at p1
  cases p1
  obtain ⟨f1, f2⟩ := p2.facts hB
  have hg0 : Conn E (ordQ q0).1 (ordQ q0).2 := conn_ord (p3 _ _ ((cg_ord _ _).2 hcg)) (.inl rfl)
  have hgi := InN.ord hq0.1 hq0.2
  obtain ⟨S, hS, hroom, hwhole⟩ := hL
  by_cases hr : P.count + (missN P S []).length ≤ 2000
  · have hQ := hroom hr
    subst hQ
    obtain ⟨S', e1, e2⟩ := stepsN_ok p2.lnk p2.grew (argp := argN l) (told := addP [] (qs.map ordQ)) (fun p q hq => by rw [p2.len]; exact (argN_in hB p).1 q hq) f1 hg0 (by rw [p2.len]; exact hgi.1) (by rw [p2.len]; exact hgi.2)
    rw [hS] at e1
    cases e1
    obtain ⟨n1, n2, n3, n4⟩ := stepsN_had p2.lnk (argp := argN l) (told := addP [] (qs.map ordQ)) (fun p q hq => by rw [p2.len]; exact ((argN_in hB p).1 q hq).2) (fun p => (argN_in hB p).2) (fun p q hq => ((argN_in hB p).1 q hq).1) (fun x y hxy hn => by rw [p2.len]; exact (f2 x y hxy hn).2) hg0 (by rw [p2.len]; exact hgi.1) (by rw [p2.len]; exact hgi.2) (ordQ_le q0) hS
    have hG := Gr.proof P (S := S) (told := addP [] (qs.map ordQ)) (fun q hq => by obtain ⟨v, _, k, _⟩ := hunit q hq; rw [k]; simp) n1 S.length
    rw [List.take_length] at hG
    rw [p2.len] at n4
    have n4 := Nat.le_trans n4 (cube_le hl)
    have hk0 : KnownOk P := fun k hk => by rw [h.j.known] at hk; cases hk
    obtain ⟨g1, g2, g3⟩ := Pb.steps_ok S P hk0
    have hPQ := Pk.steps S P hP
    have hQc : (S.foldl Pb.step P).count ≤ 2000 := Nat.le_trans hG.count hr
    refine fin hPQ hG.cnt hQc (by have := hG.lem; omega) ?_
    obtain ⟨x, x1, x2⟩ := goal_forced (P := S.foldl Pb.step P) (S := S) (told := addP [] (qs.map ordQ)) (g := ordQ q0) (cs := clsN (S.foldl Pb.step P) fs' ns) g3 (fun c hc => by rw [hcls]; exact List.mem_append_left _ hc)
      (fun p hp => by obtain ⟨v, k1, k2, k3⟩ := hunit p hp; exact ⟨v, k1, g1.num _ _ k2, by rw [hcls]; exact List.mem_append_right _ (List.mem_append_left _ k3)⟩) (fun a x hx => by have := hPQ.num hx; omega)
      (fun G h1 h2 h3 => by have := e2 G h1 h2 h3; rw [ordP_self (ordQ_le q0)] at this; exact this) hns
    rw [g1.num _ _ h.num] at x1
    cases x1
    exact x2
  · obtain ⟨nl, hfit, hQ⟩ := hwhole hr
    have hlt : ∀ n ∈ nl, n < (addP [] (qs.map ordQ)).length := fun n hn => by have := hfit.lt n hn; simpa using this
    have hget : ∀ n ∈ nl, ∃ a, (addP [] (qs.map ordQ))[n]? = some a ∧ P.num a = some (n + 1) ∧ a ∈ addP [] (qs.map ordQ) := fun n hn => by
      have e := List.getElem?_eq_getElem (hlt n hn)
      exact ⟨_, e, hnum n _ e, List.getElem_mem _⟩
    have hqs' : ∀ a ∈ nl.map fun n => (addP [] (qs.map ordQ))[n]?.getD (0, 0), P.num a ≠ none := fun a ha => by
      obtain ⟨n, k1, rfl⟩ := List.mem_map.1 ha
      obtain ⟨a, k2, k3, _⟩ := hget n k1
      rw [k2, Option.getD_some, k3]
      simp
    obtain ⟨m1, m2⟩ := names_had _ P hqs'
    have hlits : (Pb.names (nl.map fun n => (addP [] (qs.map ordQ))[n]?.getD (0, 0)) P).1.map (fun n : Nat => -(n : Int)) = nl.map fun n : Nat => -((n : Int) + 1) := by
      rw [m2, List.map_map, List.map_map]
      refine List.map_congr_left fun n hn => ?_
      obtain ⟨a, k2, k3, _⟩ := hget n hn
      simp [k2, k3]
    have hQ2 : Q = { P with lemmas := P.lemmas ++ [(V : Int) :: nl.map fun n : Nat => -((n : Int) + 1)] } := by
      rw [hQ]
      unfold Pb.whole
      rw [Pb.vari_had h.num]
      simp only
      rw [hlits, m1]
    have hnl : nl.length ≤ 600 := by
      have h1 := nodup_le (n := (addP [] (qs.map ordQ)).length) (hfit.up.imp (fun h => Nat.ne_of_lt h)) hlt
      omega
    have hc : ClOk P.count ((V : Int) :: nl.map fun n : Nat => -((n : Int) + 1)) := by
      refine ⟨.inr ⟨by simp; omega, litN (V : Int), (nl.map fun n : Nat => -((n : Int) + 1)).map litN, by simp, ?_, fun x hx => ?_⟩, fun x hx => ?_⟩
      · rw [List.map_map]
        refine List.pairwise_map.2 (hfit.up.imp fun {a b} hab => ?_)
        simp only [Function.comp, litN]
        rw [if_pos (by omega), if_pos (by omega)]
        omega
      · obtain ⟨y, k1, rfl⟩ := List.mem_map.1 hx
        obtain ⟨n, k2, rfl⟩ := List.mem_map.1 k1
        have := hlt n k2
        simp only [litN]
        rw [if_pos (by omega), if_neg (by omega)]
        omega
      · rcases List.mem_cons.1 hx with rfl | hx
        · omega
        · obtain ⟨n, k2, rfl⟩ := List.mem_map.1 hx
          have := hlt n k2
          omega
    have hPQ : Pk Q := by
      rw [hQ2]
      refine ⟨hP.vars, fun c hc' => ?_⟩
      rcases List.mem_append.1 hc' with k | k
      · exact hP.lem c k
      · simp only [List.mem_singleton] at k
        subst k
        exact hc
    refine fin hPQ (by rw [hQ2]; exact Nat.le_refl _) (by rw [hQ2]; simp only; omega) (by rw [hQ2]; simp; omega) ?_
    have hmem : (V : Int) :: nl.map (fun n : Nat => -((n : Int) + 1)) ∈ clsN Q fs' ns := by
      rw [hcls, hQ2]
      exact List.mem_append_left _ (by simp)
    refine Forced.by_ (c := litsN ((V : Int) :: nl.map fun n : Nat => -((n : Int) + 1))) (List.mem_map.2 ⟨_, hmem, rfl⟩) ((mem_litsN _ _).2 ⟨_, by simp, rfl⟩) (fun x hx hne => ?_)
    obtain ⟨y, k1, rfl⟩ := (mem_litsN _ _).1 hx
    rcases List.mem_cons.1 k1 with rfl | k1
    · exact absurd rfl hne
    · obtain ⟨n, k2, rfl⟩ := List.mem_map.1 k1
      rw [opp_litN (by omega), Int.neg_neg]
      obtain ⟨a, _, k3, k4⟩ := hget n k2
      obtain ⟨v, _, k5, k6⟩ := hunit a k4
      rw [k3] at k5
      cases k5
      exact forced_unit (by rw [hcls]; exact List.mem_append_right _ (List.mem_append_left _ (by simpa using k6)))
/-- An equality follows just if the closure says so. -/
theorem follow_model {l : List Tm} (hB : Bnk l) (hl : l.length ≤ 150) {qs : List Pr} (hq : ∀ q ∈ qs, InN l.length q) (hql : qs.length ≤ 600) {q0 : Pr} (hq0 : InN l.length q0) {P : Pb} {V : Nat} {fs : List Fm} (h : FoI l qs q0 P V fs) :
    MdlT l (fs ++ [⟨[ordQ q0], [[-(V : Int)]], fun e => evE l.length e (Fo.neg (foE q0))⟩]) (List.range (fs ++ [(⟨[ordQ q0], [[-(V : Int)]], fun e => evE l.length e (Fo.neg (foE q0))⟩ : Fm)]).length) (fun r _ => (r = none ↔ Cc.Cg l qs q0.1 q0.2)) 2 P := by
  obtain ⟨fs', hfs⟩ : ∃ fs', fs' = fs ++ [(⟨[ordQ q0], [[-(V : Int)]], fun e => evE l.length e (Fo.neg (foE q0))⟩ : Fm)] := ⟨_, rfl⟩
  rw [← hfs]
  have hcls : ∀ R : Pb, clsN R fs' (List.range fs'.length) = R.lemmas ++ (fs.flatMap Fm.cs ++ [[-(V : Int)]]) := fun R => by
    unfold clsN
    rw [fm_range Fm.cs, hfs, List.flatMap_append]
    rfl
  have hj := h.j
  have hP := hj.pk
  have hVr := hP.num h.num
  have hcnt : P.count ≤ 601 := by
    rw [h.j.num.cnt]
    have e1 : P.vars.length = (P.vars.map (·.1)).length := by simp
    rw [e1, h.keys]
    have h1 := addP_len (addP [] (qs.map ordQ)) [ordQ q0]
    have h2 := addP_len [] (qs.map ordQ)
    simp at h1 h2
    omega
  have hall : ∀ c ∈ clsN P fs' (List.range fs'.length), c = [-(V : Int)] ∨ ∃ (a : Pr) (v : Nat), (a.1 = a.2 ∨ ∃ q ∈ qs, ordQ q = a) ∧ P.num a = some v ∧ c = [(v : Int)] := fun c hc => by
    rw [hcls, ← List.append_assoc] at hc
    rcases List.mem_append.1 hc with k | k
    · exact .inr (hj.unit k)
    · exact .inl (by simpa using k)
  have hunit : ∀ c ∈ clsN P fs' (List.range fs'.length), ∃ x, c = [x] ∧ x ≠ 0 ∧ x.natAbs ≤ P.count ∧ ClOk P.count c := fun c hc => by
    rcases hall c hc with rfl | ⟨a, v, _, k2, rfl⟩
    · exact ⟨_, rfl, (unit_ok hP h.num _ (.inr rfl)).2.1, (unit_ok hP h.num _ (.inr rfl)).2.2, (unit_ok hP h.num _ (.inr rfl)).1⟩
    · exact ⟨_, rfl, (unit_ok hP k2 _ (.inl rfl)).2.1, (unit_ok hP k2 _ (.inl rfl)).2.2, (unit_ok hP k2 _ (.inl rfl)).1⟩
  have hlen : (clsN P fs' (List.range fs'.length)).length ≤ 100000000 := by
    rw [hcls, List.length_append, List.length_append, List.length_flatMap]
    have : ∀ gs : List Fm, (∀ f ∈ gs, f.cs.length ≤ 1) → (gs.map fun f => f.cs.length).sum ≤ gs.length := by
      intro gs
      induction gs with
      | nil => intro _; simp
      | cons g gs ih =>
        intro hg
        have := ih (fun f hf => hg f (by simp [hf]))
        have := hg g (by simp)
        simp at *
        omega
    have := this fs fun f hf => by obtain ⟨q, _, v, _, rfl⟩ := hj.mem hf; simp
    rw [hj.len] at this
    have := hj.few
    simp
    omega
  have hslv : SlvOk P fs' (List.range fs'.length) := ⟨by omega, hlen, fun c hc => by obtain ⟨x, _, _, _, k⟩ := hunit c hc; exact k⟩
  refine ⟨hslv, ?_⟩
  by_cases hpos : [(V : Int)] ∈ P.lemmas ++ fs.flatMap Fm.cs
  · have hno : solveN P.count (clsN P fs' (List.range fs'.length)) = some none := by
      refine solve_no (l := litN (V : Int)) (fun c hc x hx => ?_) (forced_unit ?_) (forced_not (by omega) ?_)
      · obtain ⟨y, k1, _, k3, _⟩ := hunit c hc
        rw [k1] at hx
        simp only [List.mem_singleton] at hx
        rw [hx]
        exact k3
      · rw [hcls, ← List.append_assoc]
        exact List.mem_append_left _ hpos
      · rw [hcls]
        simp
    rw [hno]
    refine ⟨fun _ => ?_, fun _ => rfl⟩
    obtain ⟨a, v, k1, k2, k3⟩ := hj.unit hpos
    have hv : V = v := by simp at k3; omega
    have ha := hj.num.inj k2 (by rw [← hv]; exact h.num)
    subst ha
    rcases k1 with k1 | ⟨q, k1, k4⟩
    · have : q0.1 = q0.2 := by simp only [ordQ, ordP] at k1; omega
      rw [this]
      exact Cc.Cg.refl hq0.2
    · refine (cg_ord (qs := qs) _ _).1 ?_
      have hm : ordQ q0 ∈ addP [] (qs.map ordQ) := (addP_sub _ _).2.1 _ (List.mem_map.2 ⟨q, k1, k4⟩)
      unfold ordQ ordP at hm
      by_cases hle : q0.1 ≤ q0.2
      · rw [Nat.min_eq_left hle, Nat.max_eq_right hle] at hm
        exact Cc.Cg.told hm hq0.1 hq0.2
      · rw [Nat.min_eq_right (by omega), Nat.max_eq_left (by omega)] at hm
        exact Cc.Cg.symm (Cc.Cg.told hm hq0.2 hq0.1)
  · have hns : (ordQ q0).1 ≠ (ordQ q0).2 := fun e => hpos (h.self e)
    have hnq : ∀ q ∈ qs, ordQ q ≠ ordQ q0 := fun q hqm e => by
      obtain ⟨v, k1, k2⟩ := hj.has hqm
      rw [e, h.num] at k1
      cases k1
      exact hpos (List.mem_append_right _ (List.mem_flatMap.2 ⟨_, k2, by simp⟩))
    have hno : ordQ q0 ∉ addP [] (qs.map ordQ) := fun k => by
      rcases (addP_sub (qs.map ordQ) []).2.2 _ k with k | k
      · cases k
      · obtain ⟨q, k1, k2⟩ := List.mem_map.1 k
        exact hnq q k1 k2
    obtain ⟨vs, s1, s2, s3⟩ := solve_units (n := P.count) (cs := clsN P fs' (List.range fs'.length)) (fun c hc => by obtain ⟨x, k1, k2, k3, _⟩ := hunit c hc; exact ⟨x, k1, k2, k3⟩) (fun x h1 h2 => by
      rcases hall _ h1 with e1 | ⟨a, v, k1, k2, e1⟩
      · rcases hall _ h2 with e2 | ⟨a, v, k1, k2, e2⟩
        · simp at e1 e2
          omega
        · have hv := hP.num k2
          simp at e1 e2
          have : v = V := by omega
          exact hpos (by rw [← this]; exact (by
            rcases List.mem_append.1 (show [-x] ∈ (P.lemmas ++ fs.flatMap Fm.cs) ++ [[-(V : Int)]] by rw [List.append_assoc, ← hcls]; exact h2) with k | k
            · rw [e2] at k; exact k
            · simp at k; omega))
      · have hv := hP.num k2
        rcases hall _ h2 with e2 | ⟨a', v', k1', k2', e2⟩
        · simp at e1 e2
          have : v = V := by omega
          exact hpos (by rw [← this]; exact (by
            rcases List.mem_append.1 (show [x] ∈ (P.lemmas ++ fs.flatMap Fm.cs) ++ [[-(V : Int)]] by rw [List.append_assoc, ← hcls]; exact h1) with k | k
            · rw [e1] at k; exact k
            · simp at k; omega))
        · have hv' := hP.num k2'
          simp at e1 e2
          omega)
    rw [s1]
    have htrue : ∀ q ∈ qs, valB vs ((numV P.vars (ordQ q)).getD 0 - 1) = true := fun q hqm => by
      obtain ⟨v, k1, k2⟩ := hj.has hqm
      have e : numV P.vars (ordQ q) = some v := k1
      have hv := hP.num k1
      rw [e]
      obtain ⟨v', rfl⟩ : ∃ v', v = v' + 1 := ⟨v - 1, by omega⟩
      have := (s3 v').1 (by rw [hcls]; exact List.mem_append_right _ (List.mem_append_left _ (List.mem_flatMap.2 ⟨_, k2, by simp⟩)))
      simp [valB, this]
    have hfalse : valB vs ((numV P.vars (ordQ q0)).getD 0 - 1) = false := by
      have e : numV P.vars (ordQ q0) = some V := h.num
      rw [e]
      obtain ⟨v', rfl⟩ : ∃ v', V = v' + 1 := ⟨V - 1, by omega⟩
      have := (s3 v').2 (by rw [hcls]; simp)
      simp [valB, this]
    have hams : fs'.flatMap Fm.am = qs.map ordQ ++ [ordQ q0] := by
      rw [hfs, List.flatMap_append, hj.ams]
      rfl
    have htold : tolN fs' P (List.range fs'.length) vs = addP [] (qs.map ordQ) := by
      unfold tolN
      rw [toldN_addP, fm_range Fm.am, hams, List.filter_append, List.filter_eq_self.2 (fun a ha => by obtain ⟨q, k1, rfl⟩ := List.mem_map.1 ha; exact htrue q k1)]
      simp [hfalse]
    have hin : ∀ a ∈ addP [] (qs.map ordQ), a.1 ≤ a.2 ∧ a.2 < l.length := fun a ha => by
      rcases (addP_sub (qs.map ordQ) []).2.2 a ha with k | k
      · cases k
      · obtain ⟨q, k1, rfl⟩ := List.mem_map.1 k
        exact ⟨ordQ_le q, (InN.ord (hq q k1).1 (hq q k1).2).2⟩
    have hcq := fun a b (ha : a < l.length) (hb : b < l.length) => cgN_iff hB hin ha hb
    have hok : ∀ f ∈ fs, f.ev (cgN l (addP [] (qs.map ordQ))) = true := fun f hf => by
      obtain ⟨q, k1, v, k2, rfl⟩ := hj.mem hf
      simp only
      rw [evE_eq _ _ _ (hq q k1)]
      exact (hcq _ _ (hq q k1).1 (hq q k1).2).2 ((cg_ord _ _).2 (Cc.Cg.told k1 (hq q k1).1 (hq q k1).2))
    have hflat : (fs'.flatMap fun f => if f.ev (cgN l (addP [] (qs.map ordQ))) then [] else f.am) = if cgN l (addP [] (qs.map ordQ)) q0.1 q0.2 then [ordQ q0] else [] := by
      rw [hfs, List.flatMap_append]
      have e1 : (fs.flatMap fun f => if f.ev (cgN l (addP [] (qs.map ordQ))) then [] else f.am) = [] := by
        rw [List.flatMap_eq_nil_iff]
        intro f hf
        rw [if_pos (hok f hf)]
      rw [e1]
      simp only [List.flatMap_cons, List.flatMap_nil, List.append_nil, List.nil_append, evE_neg, evE_eq _ _ _ hq0]
      cases cgN l (addP [] (qs.map ordQ)) q0.1 q0.2 <;> rfl
    have hwro : wroN l fs' P (List.range fs'.length) vs = if cgN l (addP [] (qs.map ordQ)) q0.1 q0.2 then [ordQ q0] else [] := by
      unfold wroN
      rw [htold, wrongN_addP]
      have e := fm_range (fs := fs') (fun f : Fm => if f.ev (cgN l (addP [] (qs.map ordQ))) then [] else f.am)
      rw [e, hflat]
      cases hc : cgN l (addP [] (qs.map ordQ)) q0.1 q0.2
      · rfl
      · have hc2 : cgN l (addP [] (qs.map ordQ)) (ordQ q0).1 (ordQ q0).2 = true := by
          have hgi := InN.ord hq0.1 hq0.2
          refine (hcq (ordQ q0).1 (ordQ q0).2 hgi.1 hgi.2).2 ?_
          rw [hcq _ _ hq0.1 hq0.2] at hc
          unfold ordQ ordP
          by_cases hle : q0.1 ≤ q0.2
          · simp only [Nat.min_eq_left hle, Nat.max_eq_right hle]
            exact hc
          · simp only [Nat.min_eq_right (show q0.2 ≤ q0.1 by omega), Nat.max_eq_left (show q0.2 ≤ q0.1 by omega)]
            exact hc.symm
        simp [hc2, hfalse, addP]
    have hcc : cgN l (addP [] (qs.map ordQ)) q0.1 q0.2 = true ↔ Cc.Cg l qs q0.1 q0.2 := (hcq _ _ hq0.1 hq0.2).trans (cg_ord _ _)
    refine ⟨fun hw => ⟨fun e => by simp at e, fun hc => ?_⟩, fun hw => ⟨⟨by rw [hwro]; split <;> simp, Nat.le_refl _⟩, fun F Q hF hL => ?_⟩⟩
    · rw [hwro, if_pos (hcc.2 hc)] at hw
      cases hw
    · have hc : cgN l (addP [] (qs.map ordQ)) q0.1 q0.2 = true := by
        cases hc : cgN l (addP [] (qs.map ordQ)) q0.1 q0.2
        · rw [hwro, hc] at hw
          exact absurd rfl hw
        · rfl
      rw [htold] at hF
      rw [hwro, if_pos hc, htold] at hL
      obtain ⟨P1, hK, rfl⟩ := hL
      obtain ⟨r1, r2⟩ := follow_learned hB hl hq hql hq0 h hno hns (hcc.1 hc) hF hK (List.range fs'.length) fs' hcls
      refine ⟨r1, ?_⟩
      rw [r2]
      exact ⟨fun _ => hcc.1 hc, fun _ => rfl⟩
end Go.Proofs.YtlehlgipbhfioaaGreat

namespace Go.Proofs.YtlehlgipbhfioaaGreat
open Go.RowKit Go.Maps

set_option maxHeartbeats 400000 in
/-- variable, of a pair that has one. -/
theorem dvar_had (w : World) (pb vb : Nat) (vs : List (Pr × Nat)) (c3 : w.cell? ⟨pb, 3, none⟩ = some (.map (some vb))) (hv : VrIs w vb vs) (a : Pr) (ha : PrOk a) (x : Nat) (hx : numV vs a = some x) :
    Calls Tryz.prog 80 #[.pointer (some ⟨pb, 0, none⟩), .agg #[.int .i64 (a.1 : Int), .int .i64 (a.2 : Int)]] w fun e w' => e = .returned (.int .i64 (x : Int)) ∧ Below w.heap.size w w' := by
  have hB : Hid (∀ m, Below w.heap.size w ((w.alloc (.cells #[.int .i64 (a.1 : Int), .int .i64 (a.2 : Int)] 34)).drewN m)) := fun m => ((Below.refl w.heap.size w).alloc (Nat.le_refl _) _).trans ⟨rfl, rfl, rfl, Nat.le_refl _, fun _ _ => rfl⟩
  have A1 := made_row w #[.int .i64 (a.1 : Int), .int .i64 (a.2 : Int)] 34
  have y1 := A1.cell (i := 0) (by simp)
  have y2 := A1.cell (i := 1) (by simp)
  have c3' : (w.alloc (.cells #[.int .i64 (a.1 : Int), .int .i64 (a.2 : Int)] 34)).cell? ⟨pb, 3, none⟩ = some (.map (some vb)) := ((hB.out 0).cell (World.block_lt_of_cell? w _ c3)).trans c3
  have LK : ∀ m, _ := fun m => (show VrIs ((w.alloc (.cells #[.int .i64 (a.1 : Int), .int .i64 (a.2 : Int)] 34)).drewN m) vb vs from hv.keep (by
    obtain ⟨es, ck, he⟩ := hv.lt
    exact (hB.out m).block vb (Array.getElem?_eq_some_iff.1 he).1)).look ha
  rw [hx] at LK
  simp only [Option.getD_some, Option.isSome_some] at LK
  clear A1 hv
  go_enter Tryz.func80, Tryz.ntmps80
  go_wp2_with fail
  go_quiet (fail)
  go_wp2_with fail
  go_ret
  exact ⟨rfl, hB.out _⟩
theorem Kept0.bel {w w' : World} (h : Kept0 w w') : Below w.heap.size w w' := ⟨h.os, h.tape, h.output, h.size, fun k hk => h.block k hk (fun e => e)⟩
theorem PsAt.prw {W : World} {a : Option Addr} {c : Nat} {l : List Pr} (h : PsAt W (.slice a l.length c) l) : Prw W a (l.map prI) := by
  intro k x hx
  rw [List.getElem?_map] at hx
  cases hk : l[k]? with
  | none => rw [hk] at hx; cases hx
  | some q =>
    rw [hk] at hx
    cases hx
    obtain ⟨a', c', e, h2⟩ := h
    cases e
    rcases h2 with e | ⟨b, off, rfl, h2⟩
    · rw [e] at hk; simp at hk
    · exact ⟨b, off, rfl, World.block_lt_of_cell? W _ (h2 k q hk).1, (h2 k q hk).1, (h2 k q hk).2⟩
theorem fm_congr {α β : Type} (f g : α → Option β) : ∀ l : List α, (∀ x ∈ l, f x = g x) → l.filterMap f = l.filterMap g
  | [], _ => rfl
  | a :: l, h => by rw [List.filterMap_cons, List.filterMap_cons, h a (by simp), fm_congr f g l (fun x hx => h x (by simp [hx]))]
theorem prs_all {N : Nat} {l : List Pr} (h : ∀ q ∈ l, q.1 < N ∧ q.2 < N) : Wm.prs N (l.map prI) (List.range (l.map prI).length) = l := by
  have hok : ∀ q ∈ l, Wm.okP N (prI q) = some q := fun q hq => by
    have h1 : (inB N ((q.1 : Nat) : Int) && inB N ((q.2 : Nat) : Int)) = true := by
      simp [inB]
      exact h q hq
    unfold Wm.okP prI
    rw [if_pos h1]
    simp
  unfold Wm.prs
  refine List.ext_getElem? fun i => ?_
  have key : ∀ (l : List Pr), (∀ q ∈ l, Wm.okP N (prI q) = some q) → (List.range (l.map prI).length).filterMap (fun n => ((l.map prI)[n]?).bind (Wm.okP N)) = l := by
    intro l
    refine snocInd (P := fun l => (∀ q ∈ l, Wm.okP N (prI q) = some q) → (List.range (l.map prI).length).filterMap (fun n => ((l.map prI)[n]?).bind (Wm.okP N)) = l) (fun _ => rfl) (fun l q ih hq => ?_) l
    have ih := ih (fun q hq' => hq q (by simp [hq']))
    rw [List.length_map, List.length_append, List.length_singleton, List.range_succ, List.filterMap_append]
    rw [List.length_map] at ih
    have e1 : (List.range l.length).filterMap (fun n => (((l ++ [q]).map prI)[n]?).bind (Wm.okP N)) = (List.range l.length).filterMap (fun n => ((l.map prI)[n]?).bind (Wm.okP N)) := by
      refine fm_congr _ _ _ fun n hn => ?_
      rw [List.map_append, List.getElem?_append_left (by simpa using hn)]
    rw [e1, ih]
    congr 1
    simp [hq q (by simp)]
  rw [key l hok]

/-- learnWhole in its loop: the literals so far, and the numbers that Why has answered. -/
structure LwI (w W : World) (lits : List Int) (v : Value) (ns : List Nat) (nv : Value) : Prop where
  row : W.ownsRow w.heap.size 3 1 v lits.length (lits.map fun x => Value.int .i64 x)
  nums : W.ownsRow w.heap.size 3 1 nv ns.length (natC ns)
  sep : ∀ b, v.ownBlock = some b → nv.ownBlock ≠ some b
  bel : Below w.heap.size w W
theorem LwI.below {w W W' : World} {lits : List Int} {v : Value} {ns : List Nat} {nv : Value} (h : LwI w W lits v ns nv) (hB : Below W.heap.size W W') : LwI w W' lits v ns nv := ⟨ownsRow_below h.row hB, ownsRow_below h.nums hB, h.sep, h.bel.trans (hB.mono h.bel.size)⟩
def litW (vs : List (Pr × Nat)) (told : List Pr) (n : Nat) : Int := -(((numV vs (told[n]?.getD (0, 0))).getD 0 : Nat) : Int)

set_option maxRecDepth 100000 in
set_option maxHeartbeats 1000000 in
theorem learnWhole_in (S : Nat → Prop) (w : World) (pb vb kb : Nat) (tv fv lv : Value) (P : Pb) (base p : Nat) (ev : Value) (nb fb : Nat) (l : List Tm) (h : Pm S w pb vb kb (.pointer (some ⟨p, 0, none⟩)) tv fv lv P) (hB : Bk w base p ev nb fb l) (hb : Cc.Bd l) (hl : l.length ≤ 150) (da : Option Addr) (dc : Nat) (told : List Pr) (hD : PsAt w (.slice da told.length dc) told) (htl : told.length ≤ 1000)
    (hti : ∀ q ∈ told, q.1 < l.length ∧ q.2 < l.length) (htv : ∀ q ∈ told, ∃ x, numV P.vars q = some x ∧ x ≤ 100000) (a : Pr) (hai : a.1 < l.length ∧ a.2 < l.length) (V : Nat) (hav : numV P.vars a = some V) (hcg : Cc.Cg l told a.1 a.2) (hPl : P.lemmas.length ≤ 1000000000) :
    Calls Tryz.prog 95 #[.pointer (some ⟨pb, 0, none⟩), .slice da told.length dc, .agg #[.int .i64 (a.1 : Int), .int .i64 (a.2 : Int)]] w fun e w' => e = .returned (.tuple #[]) ∧ ∃ ns S' lv', Fits l (told.map prI) (a.1 : Int) (a.2 : Int) ns ∧ PmX S w S' w' pb vb kb (.pointer (some ⟨p, 0, none⟩)) tv fv lv lv' (P.whole a (ns.map fun n => told[n]?.getD (0, 0))) := by
  have hB0 : Below w.heap.size w (w.alloc (.cells #[.int .i64 (a.1 : Int), .int .i64 (a.2 : Int)] 34)) := (Below.refl _ _).alloc (Nat.le_refl _) _
  have c0 : (w.alloc (.cells #[.int .i64 (a.1 : Int), .int .i64 (a.2 : Int)] 34)).cell? ⟨pb, 0, none⟩ = some (.pointer (some ⟨p, 0, none⟩)) := (h.below hB0).cells.cell (i := 0) (by omega)
  have hB1 : Below w.heap.size w (w.alloc (.cells #[.int .i64 (a.1 : Int), .int .i64 (a.2 : Int)] 34)).drew := hB0.trans ⟨rfl, rfl, rfl, Nat.le_refl _, fun _ _ => rfl⟩
  have HB1 : Hid _ := hB1
  have WY := why_in (w.alloc (.cells #[.int .i64 (a.1 : Int), .int .i64 (a.2 : Int)] 34)).drew base p ev nb fb l (hB.below hB.low hB1) hb hl da dc (told.map prI) (hD.below hB1).prw (by rw [List.length_map]; omega) (a.1 : Int) (a.2 : Int)
  rw [List.length_map] at WY
  have hyes : cgB l (Wm.prs l.length (told.map prI) (List.range (told.map prI).length)) (a.1 : Int) (a.2 : Int) = true := by
    rw [prs_all hti]
    unfold cgB
    simp [inB, hai, hcg]
  have y1 : (w.alloc (.cells #[.int .i64 (a.1 : Int), .int .i64 (a.2 : Int)] 34)).cell? ⟨w.heap.size, 0, none⟩ = some (.int .i64 (a.1 : Int)) := by simp
  have y2 : (w.alloc (.cells #[.int .i64 (a.1 : Int), .int .i64 (a.2 : Int)] 34)).cell? ⟨w.heap.size, 1, none⟩ = some (.int .i64 (a.2 : Int)) := by simp
  have HY : Hid _ := hyes
  have HP : Hid (_ ∧ _ ∧ _ ∧ _ ∧ _ ∧ _) := And.intro h (And.intro hD (And.intro hti (And.intro htv (And.intro hav hai))))
  clear h hB hD hti htv hai hcg hyes hav
  obtain ⟨tn, htn⟩ : ∃ t, told.length = t := ⟨_, rfl⟩
  have HTN : Hid _ := htn
  rw [htn] at WY htl ⊢
  clear htn
  have WY2 : Calls Tryz.prog 143 #[.pointer (some ⟨p, 0, none⟩), .slice da tn dc, .int .i64 (a.1 : Int), .int .i64 (a.2 : Int)] (w.alloc (.cells #[.int .i64 (a.1 : Int), .int .i64 (a.2 : Int)] 34)).drew fun e w' => ∃ (ns : List Nat) (na : Option Addr) (nc : Nat), e = .returned (.tuple #[.slice na ns.length nc, .bool true]) ∧ Hid (Fits l (told.map prI) (a.1 : Int) (a.2 : Int) ns ∧ ns.length ≤ tn ∧ w'.ownsRow w.heap.size 3 1 (.slice na ns.length nc) ns.length (natC ns) ∧ Below w.heap.size w w' ∧ w'.cell? ⟨w.heap.size, 0, none⟩ = some (.int .i64 (a.1 : Int)) ∧ w'.cell? ⟨w.heap.size, 1, none⟩ = some (.int .i64 (a.2 : Int))) := by
    refine WY.mono ?_
    rintro e w2 ⟨K2, ⟨hno, _⟩ | ⟨_, ns, v, rfl, hrow, hfit, hnl⟩⟩
    · exact absurd (hno.symm.trans HY.out) (by decide)
    · obtain ⟨na, nc, rfl⟩ := ownsRow_form hrow
      rw [List.length_map, HTN.out] at hnl
      exact ⟨ns, na, nc, rfl, hfit, hnl, row_low hrow HB1.out.size, HB1.out.trans (K2.bel.mono HB1.out.size), (K2.bel.cell (by simp)).trans y1, (K2.bel.cell (by simp)).trans y2⟩
  clear WY
  go_enter Tryz.func95, Tryz.ntmps95
  go_wp2_with fail
  go_cut [6, 7] from 11 to 24 (fun t6 t7 wx => ∃ (ns : List Nat) (na : Option Addr) (nc : Nat), t6 = .slice na ns.length nc ∧ Hid (Fits l (told.map prI) (a.1 : Int) (a.2 : Int) ns ∧ ns.length ≤ tn ∧ wx.ownsRow w.heap.size 3 1 (.slice na ns.length nc) ns.length (natC ns) ∧ Below w.heap.size w wx ∧ wx.cell? ⟨w.heap.size, 0, none⟩ = some (.int .i64 (a.1 : Int)) ∧ wx.cell? ⟨w.heap.size, 1, none⟩ = some (.int .i64 (a.2 : Int))))
  case first =>
    go_region_law (first | (go_simp; go_at_call 143; refine WY2.mono ?_; rintro e w2 ⟨ns, na, nc, rfl, H2⟩))
    all_goals
      try simp only [Act.put, List.getElem_toArray, List.getElem_cons_succ, List.getElem_cons_zero, List.setIfInBounds_toArray, List.set_cons_succ, List.set_cons_zero]
      go_wp2_with fail
      go_meet
      case rel => exact ⟨ns, na, nc, rfl, H2⟩
  case rest =>
    obtain ⟨ns, na, nc, rfl, H2⟩ := hcut
    clear WY2 y1 y2 c0
    have hget : ∀ {a : Addr} {u : Value}, w.cell? a = some u → wc.cell? a = some u := fun hc => (H2.out.2.2.2.1.cell (World.block_lt_of_cell? w _ hc)).trans hc
    have hPm := HP.out.1.below H2.out.2.2.2.1
    have z1 := H2.out.2.2.2.2.1
    have z2 := H2.out.2.2.2.2.2
    have VA := dvar_had wc pb vb P.vars (hPm.cells.cell (i := 3) (by omega)) hPm.vars a ⟨by have := HP.out.2.2.2.2.2.1; omega, by have := HP.out.2.2.2.2.2.2; omega⟩ V HP.out.2.2.2.2.1
    apply_assumption
    go_wp2_with (first | (go_at_call 80; refine VA.mono ?_; rintro e w3 ⟨rfl, B3⟩; refine Aside.out ?_))
    delta Aside
    have HI0 : Hid (LwI w (w3.alloc (.cells #[.int .i64 (V : Int)] 3)) ((V : Int) :: (ns.take 0).map (litW P.vars told)) (.slice (some ⟨w3.heap.size, 0, none⟩) 1 1) ns (.slice na ns.length nc)) := by
      have B4 : Below w3.heap.size w3 (w3.alloc (.cells #[.int .i64 (V : Int)] 3)) := (Below.refl _ _).alloc (Nat.le_refl _) _
      have hbw : Below w.heap.size w w3 := H2.out.2.2.2.1.trans (B3.mono H2.out.2.2.2.1.size)
      refine ⟨⟨rfl, Or.inr ⟨w3.heap.size, 1, #[.int .i64 (V : Int)], rfl, hbw.size, heap_alloc_new _ _, Nat.le_refl _, by unfold maxLen; omega, rfl, rfl⟩⟩, ownsRow_below (ownsRow_below H2.out.2.2.1 B3) B4, fun b hb e => ?_, hbw.trans (B4.mono hbw.size)⟩
      have h1 := (ownsRow_lt (ownsRow_below H2.out.2.2.1 B3) e).2
      have h2 : w3.heap.size = b := by simpa [Value.ownBlock] using hb
      omega
    have HFN : Hid (_ ∧ _) := And.intro H2.out.1 H2.out.2.1
    obtain ⟨nn, hnn⟩ : ∃ n, ns.length = n := ⟨_, rfl⟩
    have HNN : Hid _ := hnn
    have hnn6 : nn ≤ 1000 := by rw [← hnn]; exact Nat.le_trans HFN.out.2 htl
    rw [hnn] at HI0 ⊢
    clear H2 VA B3 hPm z1 z2 hnn hget
    apply_assumption
    go_wp2_with fail
    generalize w3.alloc (.cells #[.int .i64 (V : Int)] 3) = w4 at *
    obtain ⟨lb, hlb⟩ : ∃ r, w3.heap.size = r := ⟨_, rfl⟩
    rw [hlb] at HI0
    simp only [hlb]
    clear hlb
    obtain ⟨i0, hi0, hz0, hz1, hz2⟩ := info_parts infoIntq
    go_loopw [8, 30] (fun t8 t30 W => ∃ i : Nat, i ≤ nn ∧ t30 = .int .i64 (i : Int) ∧ Hid (LwI w W ((V : Int) :: (ns.take i).map (litW P.vars told)) t8 ns (.slice na nn nc))) (fun _ t30 _ => nn - (intOf t30).toNat)
    case atStart => exact ⟨0, Nat.zero_le _, rfl, HI0⟩
    case round =>
      obtain ⟨i, hi, rfl, HJ⟩ := hrel
      clear HI0
      obtain ⟨va, vc, hva⟩ := ownsRow_form HJ.out.row
      subst hva
      by_cases hlt : i < nn
      · have di : decide ((i : Int) < (nn : Int)) = true := decide_eq_true (by omega)
        have hwi : IntKind.i64.wrap ((i : Int) + 1) = (i : Int) + 1 := wrap_nat1 (by omega)
        have hil : i < ns.length := by rw [HNN.out]; exact hlt
        have hll : ((V : Int) :: (ns.take i).map (litW P.vars told)).length = i + 1 := by simp; omega
        have hsuc : (V : Int) :: (ns.take (i + 1)).map (litW P.vars told) = ((V : Int) :: (ns.take i).map (litW P.vars told)) ++ [litW P.vars told ns[i]] := by
          rw [List.take_add_one, List.getElem?_eq_getElem hil, Option.toList_some, List.map_append]
          rfl
        obtain ⟨nb2, rfl, cn⟩ : ∃ nb2, na = some ⟨nb2, 0, none⟩ ∧ wr.cell? ⟨nb2, i, none⟩ = some (.int .i64 (ns[i] : Int)) := by
          have hr := HJ.out.nums
          rcases hr.2 with ⟨e, h0⟩ | ⟨g', cap', cur, e, _⟩
          · rw [h0] at hil; cases hil
          · cases e
            refine ⟨g', rfl, ?_⟩
            have := hr
            rw [this.cellAt i (by omega)]
            unfold natC
            rw [List.getElem?_map, List.getElem?_eq_getElem hil]
            rfl
        have hnt : ns[i] < told.length := by
          have := HFN.out.1.lt ns[i] (List.getElem_mem hil)
          simpa using this
        generalize ns[i] = n at *
        have htn := List.getElem?_eq_getElem hnt
        obtain ⟨x, hx, hx6⟩ := HP.out.2.2.2.1 _ (List.getElem_mem hnt)
        have hin := HP.out.2.2.1 _ (List.getElem_mem hnt)
        obtain ⟨db, dof, eda, hcd⟩ : ∃ b off, da = some ⟨b, off, none⟩ ∧ ∀ (j : Nat) (p : Pr), told[j]? = some p → w.cell? ⟨b, off + j * 2, none⟩ = some (.int .i64 (p.1 : Int)) ∧ w.cell? ⟨b, off + j * 2 + 1, none⟩ = some (.int .i64 (p.2 : Int)) := by
          obtain ⟨a', c', e, h2⟩ := HP.out.2.1
          cases e
          rcases h2 with h2 | h2
          · rw [h2] at hnt; cases hnt
          · exact h2
        subst eda
        have hlit : litW P.vars told n = -(x : Int) := by
          unfold litW
          rw [htn, Option.getD_some, hx]
          rfl
        have d1 := (HJ.out.bel.cell (World.block_lt_of_cell? w _ (hcd n _ htn).1)).trans (hcd n _ htn).1
        have d2 := (HJ.out.bel.cell (World.block_lt_of_cell? w _ (hcd n _ htn).2)).trans (hcd n _ htn).2
        generalize told[n] = q at *
        have hPm := HP.out.1.below HJ.out.bel
        have VA := dvar_had wr pb vb P.vars (hPm.cells.cell (i := 3) (by omega)) hPm.vars q ⟨by omega, by omega⟩ x hx
        have hneg : IntKind.i64.wrap (-(x : Int)) = -(x : Int) := by rw [IntKind.wrap_i64]; omega
        have hntn : n < tn := by rw [← HTN.out]; exact hnt
        have HR : Hid (∀ w5, Below wr.heap.size wr w5 → LwI w w5 ((V : Int) :: (ns.take i).map (litW P.vars told)) (.slice va ((V : Int) :: (ns.take i).map (litW P.vars told)).length vc) ns (.slice (some ⟨nb2, 0, none⟩) nn nc)) := fun w5 h5 => HJ.out.below h5
        rw [hlit] at hsuc
        have HSU : Hid _ := hsuc
        rw [hll] at HR ⊢
        clear HJ hsuc hcd hx hPm hlit hnt htn
        go_wp2_with (first | (go_at_call 80; refine VA.mono ?_; rintro e w5 ⟨rfl, B5⟩; refine Aside.out ?_))
        delta Aside
        have HL5 : Hid _ := HR.out w5 B5
        have r5 := HL5.out.row
        rw [hll] at r5
        have hbs := HL5.out.bel.size
        clear VA HR cn d1 d2
        apply_assumption
        go_wp2_with (first | (at_builtin; refine Aside.out ?_))
        delta Aside
        refine wpList_append_own_at _ rfl _ _ 39 rfl w.heap.size 3 i0 _ 1 8 Tryz.underlying39 hi0 hz0 hz1 hz2 rfl (by decide) _ _ _ rfl (r5.alloc _) ⟨_, 0, none⟩ 1 1 [.int .i64 (-(x : Int))] rfl rfl (cell_oneV w5 _ _) (by simp [Value.oneCell']) (by unfold maxLen; omega) (by omega) (by simp; omega) ?_
        intro v8 w8 hown8 hgrow8 _ hat8
        have HF : Hid (LwI w w8 ((V : Int) :: (ns.take (i + 1)).map (litW P.vars told)) v8 ns (.slice (some ⟨nb2, 0, none⟩) nn nc)) := by
          have K8 : Kept (fun k => (Value.slice va (i + 1) vc).ownBlock = some k) w5 w8 := Kept.grown ((Kept.refl _ w5).alloc _) hgrow8 (fun k e => e)
          have L5 := HL5.out
          rw [HSU.out]
          refine ⟨?_, ownsRow_block L5.nums (fun b hb => K8.block b (ownsRow_lt L5.nums hb).2 (fun e => L5.sep b e hb)), fun b hb e => ?_, L5.bel.trans (K8.below hbs (fun q hq => (ownsRow_lt r5 hq).1))⟩
          · rw [List.length_append, List.length_singleton, hll, List.map_append]
            exact hown8
          · rcases hat8 with e8 | e8
            · rw [e8] at hb
              exact L5.sep b hb e
            · rw [e8] at hb
              have h1 := (ownsRow_lt L5.nums e).2
              simp at hb
              omega
        clear hown8 hgrow8 hat8 HL5 r5 HSU
        go_wp2_with fail
        exact ⟨⟨i + 1, hlt, by simp, HF⟩, by simp [intOf]; omega⟩
      · have di : decide ((i : Int) < (nn : Int)) = false := decide_eq_false (by omega)
        obtain rfl : i = nn := by omega
        have hta : ns.take i = ns := List.take_of_length_le (by rw [HNN.out]; exact Nat.le_refl _)
        rw [hta] at HJ ⊢
        obtain ⟨gb, gc, hgv, hRw⟩ := Rw.of_own (row_low HJ.out.row (Nat.zero_le _)) (by simp)
        have X0 := (PmX.start HP.out.1).below HJ.out.bel
        have SAY := dsay_in S wr pb vb kb _ tv fv lv P X0.is hPl gb gc _ hRw
        have hgb : w.heap.size ≤ gb := (ownsRow_lt HJ.out.row (b := gb) (by rw [hgv]; rfl)).1
        have hXw := X0.wider (S2 := fun k => S k ∨ k = gb) (fun _ => Or.inl) (fun k hk => hk.elim Or.inl (fun e => by rw [e]; exact Or.inr hgb)) (fun k hk => hk.elim (fun e => X0.is.lt k e) (fun e => by rw [e]; exact hRw.lt))
        have HF : Hid ({ P with lemmas := P.lemmas ++ [(V : Int) :: ns.map (litW P.vars told)] } = P.whole a (ns.map fun n => told[n]?.getD (0, 0))) := by
          show _ = _
          unfold Pb.whole
          rw [Pb.vari_had (show P.num a = some V from HP.out.2.2.2.2.1)]
          obtain ⟨m1, m2⟩ := names_had (ns.map fun n => told[n]?.getD (0, 0)) P (fun q hq => by
            obtain ⟨n, hn, rfl⟩ := List.mem_map.1 hq
            have hnt : n < told.length := by
              have := HFN.out.1.lt n hn
              simpa using this
            obtain ⟨x, hx, _⟩ := HP.out.2.2.2.1 _ (List.getElem_mem hnt)
            rw [List.getElem?_eq_getElem hnt, Option.getD_some, show P.num told[n] = some x from hx]
            simp)
          simp only
          rw [m1, m2, List.map_map, List.map_map]
          rfl
        have HXw : Hid _ := hXw
        rw [hgv]
        clear HJ X0 hXw hRw hgv hgb
        generalize ((V : Int) :: ns.map (litW P.vars told)).length = gl at *
        go_wp2_with (first | (go_at_call 122; refine SAY.mono ?_; rintro e w9 ⟨rfl, lv9, X9, X9k, X9a⟩))
        refine ⟨rfl, .tuple #[], by simp [results, Tryz.results95], rfl, ns, fun k => S k ∨ k = gb, lv9, HFN.out.1, ?_⟩
        rw [← HF.out]
        exact HXw.out.trans ⟨X9, fun _ => Or.inl, X9k, X9a⟩
end Go.Proofs.YtlehlgipbhfioaaGreat
