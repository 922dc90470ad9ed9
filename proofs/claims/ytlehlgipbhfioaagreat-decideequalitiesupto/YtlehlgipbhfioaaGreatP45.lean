/- Package decide: areMany. Package decide: Decide, where there is a model. Package decide: firstFalse. Package decide: without: Clone, IndexFunc, DeleteFunc at numbers. slices.Sort's contract at this program, laid by the kit's own tool, in plain words. slices.Sort at numbers in a row of one's own. Package decide, plainly: model, enough, core, reckoned. Package decide: enough: what it works on. Package decide: enough. -/
import Derived.Test.YtlehlgipbhfioaaGreatP44
import Derived.Test.YtlehlgipbhfioaaGreatP42
import Derived.Test.YtlehlgipbhfioaaGreatP22
import Derived.Test.YtlehlgipbhfioaaGreatP24
import Derived.Shelf.Sort.Plain
import Derived.Test.YtlehlgipbhfioaaGreatProg
import Derived.Test.YtlehlgipbhfioaaGreatP15
import Derived.Sort.OwnSortedInts
import Derived.Maps.AppendAt
import Derived.Test.YtlehlgipbhfioaaGreatP43
namespace Go.Proofs.YtlehlgipbhfioaaGreat
open Go.RowKit Go.Maps

/-- How many Forms are below those of a list. -/
def dS (ks : List Lf) : Nat := (ks.map fun k => cF k.er - 1).sum
def dT (ts : List (List Lf)) : Nat := (ts.map dS).sum
theorem dT_snoc (ts : List (List Lf)) (ks : List Lf) : dT (ts ++ [ks]) = dT ts + dS ks := by simp [dT]
theorem dS_sum (ks : List Lf) : ks.length + dS ks = (ks.map fun k => cF k.er).sum := by
  induction ks with
  | nil => rfl
  | cons a r ih =>
    have : 1 ≤ cF a.er := by
      cases a with
      | mk b o op x y kv kids => rw [Lf.er, cF]; omega
    unfold dS at ih ⊢
    simp only [List.map_cons, List.sum_cons, List.length_cons]
    omega
theorem dS_kids (t : Lf) : t.kids.length + dS t.kids = cF t.er - 1 := by
  have := dS_sum t.kids
  have h2 := cS_kids t
  unfold cS at h2
  omega
/-- What areMany goes round with. -/
structure Tdw (w W : World) (N : Nat) (v : Value) (vs : List Value) (ts : List (List Lf)) : Prop where
  win : WinAt W w.heap.size 30 v vs
  len : vs.length = ts.length
  at_ : ∀ (i : Nat) (u : Value), vs[i]? = some u → ∃ ks, ts[i]? = some ks ∧ SlF w N u ks
  bel : Below w.heap.size w W
theorem Tdw.below {w W W' : World} {N : Nat} {v : Value} {vs : List Value} {ts : List (List Lf)} (h : Tdw w W N v vs ts) (hB : Below W.heap.size W W') : Tdw w W' N v vs ts :=
  ⟨h.win.keep (fun g hg => hB.block g (h.win.lt hg).2), h.len, h.at_, h.bel.trans (hB.mono h.bel.size)⟩

set_option maxRecDepth 100000 in
set_option maxHeartbeats 1000000 in
theorem areMany_in (w : World) (N : Nat) (ka : Option Addr) (kc : Nat) (ks : List Lf) (hk : SlF w N (.slice ka ks.length kc) ks) (hc : cS ks ≤ 601) :
    Calls Tryz.prog 42 #[.slice ka ks.length kc] w fun e w' => e = .returned (.bool false) ∧ Below w.heap.size w w' := by
  obtain ⟨kn, hkn⟩ : ∃ n, ks.length = n := ⟨_, rfl⟩
  have HI0 : Hid (∃ vs ts, vs.length = 1 ∧ cT ts ≤ cS ks ∧ kn + dT ts ≤ 600 ∧ Tdw w (w.alloc (.cells #[.slice ka kn kc] 30)) N (.slice (some ⟨w.heap.size, 0, none⟩) 1 1) vs ts) := by
    rw [hkn] at hk
    refine ⟨[.slice ka kn kc], [ks], rfl, by simp [cT], ?_, WinAt.one w _ _ _ (Nat.le_refl _), rfl, fun i u hu => ?_, (Below.refl _ _).alloc (Nat.le_refl _) _⟩
    · have := dS_sum ks
      have e : dT [ks] = dS ks := by simp [dT]
      unfold cS at hc
      rw [e]
      omega
    · match i, hu with
      | 0, hu => simp at hu; subst hu; exact ⟨ks, rfl, hk⟩
      | i + 1, hu => simp at hu
  have HC : Hid (cS ks ≤ 601) := hc
  rw [hkn]
  have hkn6 : kn ≤ 600 := by
    have := dS_sum ks
    unfold cS at hc
    omega
  clear hk hc hkn
  go_enter Tryz.func42, Tryz.ntmps42
  go_wp2_with fail
  generalize w.alloc (.cells #[.slice ka kn kc] 30) = w1 at *
  obtain ⟨g0, hg0⟩ : ∃ m, w.heap.size = m := ⟨_, rfl⟩
  have HG0 : Hid _ := hg0
  simp only [hg0] at HI0 ⊢
  clear hg0
  go_loopg [3, 4] (cS ks) (fun k t3 t4 W => ∃ (c n cap g off : Nat), t3 = .int .i64 (c : Int) ∧ t4 = .slice (some ⟨g, off, none⟩) n cap ∧ Hid (∃ vs ts, vs.length = n ∧ cT ts ≤ k ∧ k ≤ cS ks ∧ c + dT ts ≤ 600 ∧ Tdw w W N (.slice (some ⟨g, off, none⟩) n cap) vs ts))
  case atStart => exact ⟨kn, 1, 1, g0, 0, rfl, rfl, by obtain ⟨vs, ts, h0, h1, h2, h3⟩ := HI0.out; exact ⟨vs, ts, h0, h1, Nat.le_refl _, h2, h3⟩⟩
  case round =>
    obtain ⟨c, n, cap, g, off, rfl, rfl, HJ⟩ := hrel
    clear HI0
    have hc6 : c ≤ 600 := by obtain ⟨vs, ts, _, _, _, h, _⟩ := HJ.out; omega
    have dc : decide ((c : Int) ≤ 600) = true := decide_eq_true (by omega)
    by_cases hn0 : n = 0
    · subst hn0
      have HF : Hid (Below w.heap.size w wr) := by obtain ⟨vs, ts, _, _, _, _, h⟩ := HJ.out; exact h.bel
      have dg : decide ((600 : Int) < (c : Int)) = false := decide_eq_false (by omega)
      clear HJ
      go_wp2_with fail
      go_ret
      exact ⟨rfl, HF.out⟩
    · obtain ⟨m, rfl⟩ : ∃ m, n = m + 1 := ⟨n - 1, by omega⟩
      obtain ⟨vs, ts, hvl, hct, hkc, hcd, hT⟩ := HJ.out
      obtain ⟨u, vr, rfl⟩ : ∃ u vr, vs = u :: vr := by
        cases vs with
        | nil => cases hvl
        | cons u vr => exact ⟨u, vr, rfl⟩
      obtain ⟨fks, ht1, hS⟩ := hT.at_ 0 u rfl
      obtain ⟨tr, rfl⟩ : ∃ tr, ts = fks :: tr := by
        cases ts with
        | nil => cases ht1
        | cons t tr => simp at ht1; exact ⟨tr, by rw [ht1]⟩
      obtain ⟨fa, fc, hfv, hfc, hfk⟩ := hS.1
      have hS2 := hS
      rw [hfv] at hS2
      have cm : wr.cell? ⟨g, off, none⟩ = some (.slice fa fks.length fc) := by
        obtain ⟨g', off', cap', e, _, _, h4⟩ := hT.win.get
        cases e
        have := h4 0 u rfl
        rw [hfv] at this
        exact this
      have e1 : cT (fks :: tr) = cS fks + cT tr := by simp [cT]
      have e2 : dT (fks :: tr) = dS fks + dT tr := by simp [dT]
      rw [e1] at hct
      rw [e2] at hcd
      have hf6 : fks.length ≤ 601 := by
        have h1 := sum_cF fks
        have h3 := HC.out
        unfold cS at hct
        omega
      obtain ⟨fn, hfn⟩ : ∃ f, fks.length = f := ⟨_, rfl⟩
      rw [hfn] at cm hf6
      have HI1 : Hid (∃ vs tr', vs.length = m + 1 ∧ cT tr' + ((fks.drop 0).map fun k => cF k.er).sum + 1 ≤ gk ∧ c + dT tr' + dS (fks.drop 0) ≤ 600 ∧ Tdw w wr N (.slice (some ⟨g, off, none⟩) (m + 1) cap) vs (fks :: tr')) := ⟨u :: vr, tr, hvl, by unfold cS at hct; rw [List.drop_zero]; omega, by rw [List.drop_zero]; omega, hT⟩
      have HS : Hid (SlF w N (.slice fa fks.length fc) fks ∧ fks.length = fn) := ⟨hS2, hfn⟩
      clear HJ hT hS hS2 hfk hfv hfn hct ht1 e1 e2 hcd hvl
      go_wp2_with fail
      go_loopw [3, 4, 24] (fun t3 t4 t24 W => ∃ (i c n cap g off : Nat), i ≤ fn ∧ t24 = .int .i64 (i : Int) ∧ t3 = .int .i64 (c : Int) ∧ t4 = .slice (some ⟨g, off, none⟩) (n + 1) cap ∧ Hid (∃ vs tr', vs.length = n + 1 ∧ cT tr' + ((fks.drop i).map fun k => cF k.er).sum + 1 ≤ gk ∧ c + dT tr' + dS (fks.drop i) ≤ 600 ∧ Tdw w W N (.slice (some ⟨g, off, none⟩) (n + 1) cap) vs (fks :: tr'))) (fun _ _ t24 _ => fn - (intOf t24).toNat)
      case atStart => exact ⟨0, c, m, cap, g, off, Nat.zero_le _, rfl, rfl, rfl, HI1⟩
      case round =>
        obtain ⟨i, c2, n, cap2, g2, off2, hi, rfl, rfl, rfl, HK⟩ := hrel
        clear HI1 cm
        obtain ⟨vs2, ts2, hv2, hc2, hd2, hT2⟩ := HK.out
        by_cases hlt : i < fn
        · have di : decide ((i : Int) < (fn : Int)) = true := decide_eq_true (by omega)
          have hil : i < fks.length := by rw [HS.out.2]; exact hlt
          obtain ⟨kb, ko, rfl, hko⟩ : ∃ kb ko, fa = some ⟨kb, ko, none⟩ ∧ ∀ (j : Nat) (t : Lf), fks[j]? = some t → t.b = kb ∧ t.o = ko + j * 4 := by
            obtain ⟨a', c', e, _, h2⟩ := HS.out.1.1
            cases e
            rcases h2 with h2 | ⟨kb, ko, h2, h3⟩
            · rw [h2] at hil; cases hil
            · exact ⟨kb, ko, h2, h3⟩
          have hkm := List.getElem_mem hil
          obtain ⟨hb1, ho1⟩ := hko i _ (List.getElem?_eq_getElem hil)
          obtain ⟨hh1, hh2⟩ := HS.out.1.2 _ hkm
          have hdr : ((fks.drop i).map fun k => cF k.er).sum = cF fks[i].er + ((fks.drop (i + 1)).map fun k => cF k.er).sum := by rw [List.drop_eq_getElem_cons hil, List.map_cons, List.sum_cons]
          have hdd : dS (fks.drop i) = (cF fks[i].er - 1) + dS (fks.drop (i + 1)) := by unfold dS; rw [List.drop_eq_getElem_cons hil, List.map_cons, List.sum_cons]
          generalize fks[i] = k at *
          have hget : ∀ {a : Addr} {u : Value}, w.cell? a = some u → wr.cell? a = some u := fun hc => (hT2.bel.cell (World.block_lt_of_cell? w _ hc)).trans hc
          have f0 := hget hh1.cells.c0
          have f1 := hget hh1.cells.c1
          have f2 := hget hh1.cells.c2
          have f3 := hget hh1.cells.c3
          obtain ⟨ga, gc, hkv, hgc, _⟩ := hh1.kidsIn
          have hSk := HS.out.1.kid hkm
          rw [hkv] at f3 hSk
          rw [hb1, ho1] at f0 f1 f2 f3
          have hck : cS k.kids = cF k.er := cS_kids k
          have hdk := dS_kids k
          have hcp : 1 ≤ cF k.er := by rw [← hck]; unfold cS; omega
          obtain ⟨kn2, hkn2⟩ : ∃ q, k.kids.length = q := ⟨_, rfl⟩
          rw [hkn2] at f3 hSk hdk
          have hwi : IntKind.i64.wrap ((i : Int) + 1) = (i : Int) + 1 := wrap_nat1 (by omega)
          have hwc : IntKind.i64.wrap ((c2 : Int) + (kn2 : Int)) = (c2 : Int) + (kn2 : Int) := by rw [IntKind.wrap_i64]; omega
          have hBa : Below wr.heap.size wr (wr.alloc (.cells #[.int .i64 k.op, .int .i64 k.x, .int .i64 k.y, .slice ga kn2 gc] 36)) := (Below.refl _ _).alloc (Nat.le_refl _) _
          have T3 := hT2.below hBa
          have hwin := T3.win
          have HQ : Hid (_ ∧ _ ∧ _ ∧ _ ∧ _ ∧ _) := And.intro hSk (And.intro hck (And.intro hdk (And.intro hdr (And.intro hdd T3))))
          clear hb1 ho1 hh1 hh2 hget hkv hSk hck hdk hdr hdd T3 hT2 HK hko hkm hBa
          go_wp2_with (first | (at_builtin; refine Aside.out ?_))
          delta Aside
          obtain ⟨w5, hw5⟩ : ∃ w5, w5 = (wr.alloc (.cells #[.int .i64 k.op, .int .i64 k.x, .int .i64 k.y, .slice ga kn2 gc] 36)).alloc (.cells #[.slice ga kn2 gc] 30) := ⟨_, rfl⟩
          have T5 : Tdw w w5 N (.slice (some ⟨g2, off2, none⟩) (n + 1) cap2) vs2 (fks :: ts2) := by rw [hw5]; exact HQ.out.2.2.2.2.2.below ((Below.refl _ _).alloc (Nat.le_refl _) _)
          have cu : w5.cell? ⟨wr.heap.size + 1, 0, none⟩ = some (.slice ga kn2 gc) := by
            rw [hw5]
            have := cell_oneV (wr.alloc (.cells #[.int .i64 k.op, .int .i64 k.x, .int .i64 k.y, .slice ga kn2 gc] 36)) (.slice ga kn2 gc) 30 0 _ rfl
            simp at this
            exact this
          have hT5w := T5.bel.size
          rw [← hw5]
          obtain ⟨i0, hi0, hz0, hz1, hz2⟩ := info_parts infoFs
          have hn6 : n + 1 ≤ 1000 := by
            have h1 := len_cT ts2
            have h2 := T5.len
            have h3 := HC.out
            simp only [List.length_cons] at h2
            omega
          refine wpList_append_win rfl _ _ 130 rfl w.heap.size 30 i0 _ 24 Tryz.underlying130 hi0 hz0 hz1 hz2 rfl _ vs2 rfl T5.win ⟨_, 0, none⟩ 1 (.slice ga kn2 gc) rfl cu (by simp [Value.oneCell']) (by unfold maxLen; omega) (by omega) hT5w ?_
          intro v8 w8 hwin8 hgrow8 hat8
          obtain ⟨g8, off8, cap8, hv8, _⟩ := hwin8.get
          have hl8 : (vs2 ++ [Value.slice ga kn2 gc]).length = n + 1 + 1 := by simp [hv2]
          rw [hl8] at hv8
          subst hv8
          have HF : Hid (∃ vs tr', vs.length = n + 1 + 1 ∧ cT tr' + ((fks.drop (i + 1)).map fun k => cF k.er).sum + 1 ≤ gk ∧ (c2 + kn2) + dT tr' + dS (fks.drop (i + 1)) ≤ 600 ∧ Tdw w w8 N (.slice (some ⟨g8, off8, none⟩) (n + 1 + 1) cap8) vs (fks :: tr')) := by
            obtain ⟨hSk, hck, hdk, hdr, hdd, _⟩ := HQ.out
            refine ⟨vs2 ++ [.slice ga kn2 gc], ts2 ++ [k.kids], hl8, ?_, ?_, hwin8, ?_, fun q u hu => ?_, ?_⟩
            · rw [cT_snoc, hck]
              omega
            · rw [dT_snoc]
              omega
            · have := T5.len
              simp at this ⊢
              omega
            · by_cases hq : q < vs2.length
              · rw [List.getElem?_append_left hq] at hu
                obtain ⟨z, z1, z2⟩ := T5.at_ q u hu
                refine ⟨z, ?_, z2⟩
                rw [← List.cons_append, List.getElem?_append_left (by rw [← T5.len]; exact hq)]
                exact z1
              · rw [List.getElem?_append_right (by omega)] at hu
                have hq0 : q - vs2.length = 0 := by
                  have := (List.getElem?_eq_some_iff.1 hu).1
                  simp at this
                  omega
                rw [hq0] at hu
                simp at hu
                subst hu
                refine ⟨k.kids, ?_, hSk⟩
                rw [← List.cons_append, List.getElem?_append_right (by rw [← T5.len]; omega), ← T5.len, hq0]
                rfl
            · have K8 : Kept (fun k => winB (.slice (some ⟨g2, off2, none⟩) (n + 1) cap2) = some k) w5 w8 := Kept.grown (Kept.refl _ w5) hgrow8 (fun k e => e)
              exact T5.bel.trans (K8.below hT5w (fun q hq => (T5.win.lt hq).1))
          clear hwin8 hgrow8 hat8 T5 cu HQ hl8 hwin
          go_wp2_with fail
          exact ⟨⟨i + 1, c2 + kn2, n + 1, cap8, g8, off8, hlt, by simp, by simp, rfl, HF⟩, by simp [intOf]; omega⟩
        · have di : decide ((i : Int) < (fn : Int)) = false := decide_eq_false (by omega)
          obtain rfl : i = fn := by omega
          have hd0 : fks.drop i = [] := by rw [← HS.out.2]; exact List.drop_length
          rw [hd0] at hd2 hc2
          obtain ⟨u, vr, rfl⟩ : ∃ u vr, vs2 = u :: vr := by
            cases vs2 with
            | nil => cases hv2
            | cons u vr => exact ⟨u, vr, rfl⟩
          have hvr : vr.length = n := by simpa using hv2
          have hcap : n + 1 ≤ cap2 := by
            obtain ⟨_, _, _, e8, h8, _⟩ := hT2.win.get
            cases e8
            simpa using h8
          have hlg : cT ts2 + 1 ≤ gk := by simpa using hc2
          have HF : Hid (∀ v, WinAt wr w.heap.size 30 v vr → ∃ vs ts, vs.length = n ∧ cT ts ≤ cT ts2 ∧ cT ts2 ≤ cS ks ∧ c2 + dT ts ≤ 600 ∧ Tdw w wr N v vs ts) := fun v hv => by
            refine ⟨vr, ts2, hvr, Nat.le_refl _, by omega, by simp [dS] at hd2; exact hd2, hv, ?_, fun q z hz => ?_, hT2.bel⟩
            · have := hT2.len
              simp at this
              exact this
            · obtain ⟨y, y1, y2⟩ := hT2.at_ (q + 1) z (by simpa using hz)
              exact ⟨y, by simpa using y1, y2⟩
          have HW : Hid _ := hT2.win
          clear HK hc2 hd2 hT2 hd0 hv2
          by_cases hv1 : cap2 = 1
          · subst hv1
            obtain rfl : n = 0 := by omega
            go_wp2_with fail
            go_roundg (cT ts2)
            case measure => omega
            case rel =>
              refine ⟨c2, 0, 0, g2, off2, rfl, rfl, HF.out _ ?_⟩
              have := WinAt.none_ HW.out
              rw [hvr] at this
              exact this
          · go_wp2_with fail
            go_roundg (cT ts2)
            case measure => omega
            case rel =>
              refine ⟨c2, n, cap2 - 1, g2, off2 + 1, rfl, rfl, HF.out _ ?_⟩
              have := WinAt.tail HW.out
              rw [hvr] at this
              exact this
end Go.Proofs.YtlehlgipbhfioaaGreat

namespace Go.Proofs.YtlehlgipbhfioaaGreat
open Go.RowKit Go.Maps

theorem Np.step {Φ : World → Prop} {B : Nat} {S S' : Nat → Prop} {W W' : World} {pb vb kb : Nat} {bk tv fv lv lv' : Value} {P Q : Pb} {N : Nat} {fs : List Fm} {gs : List Sx} (h : Np Φ B S W pb vb kb bk tv fv lv P N fs gs) (hB : B ≤ W.heap.size) (x : PmX S W S' W' pb vb kb bk tv fv lv lv' Q) : Np Φ B S' W' pb vb kb bk tv fv lv' Q N fs gs := by
  have hD : ∀ k, Dq pb vb kb lv' fv k → Dq pb vb kb lv fv k ∨ W.heap.size ≤ k := by
    rintro k ((e | e | e | e) | e)
    · exact Or.inl (Or.inl (Or.inl e))
    · exact Or.inl (Or.inl (Or.inr (Or.inl e)))
    · exact Or.inl (Or.inl (Or.inr (Or.inr (Or.inl e))))
    · rcases x.at_ with a | a
      · exact Or.inl (Or.inl (Or.inr (Or.inr (Or.inr (a ▸ e)))))
      · exact Or.inr (a k e)
    · exact Or.inl (Or.inr e)
  exact ⟨x.is, fun k hk => (hD k hk).elim (h.low k) (fun e => Nat.le_trans hB e), ownsRow_blk h.row (fun b hb => x.kept.block b (ownsRow_lt h.row hb).2 (h.pm.pdne h.row (by decide) (by decide) hb)), h.len, h.parts.step (x.kept.mono (fun k _ e => Or.inl e)) hD⟩
theorem Np.env {w0 : World} {B : Nat} {S : Nat → Prop} {W : World} {pb vb kb : Nat} {bk fv lv : Value} {P : Pb} {l : List Tm} {ta : Option Addr} {tc : Nat} {fs : List Fm} {gs : List Sx} (h : Np (fun W => Below w0.heap.size w0 W ∧ TsAt W (.slice ta l.length tc) l) B S W pb vb kb bk (.slice ta l.length tc) fv lv P l.length fs gs) {base p : Nat} {ev : Value} {nb fb : Nat} (hB : Bk w0 base p ev nb fb l) {b0 : Nat} {xa : Option Addr} {xc : Nat} {ns : List Nat} (hx : W.ownsRow b0 3 1 (.slice xa ns.length xc) ns.length (ns.map i64)) : ∀ W', Kept (PD pb vb kb lv) W W' → Env W' base p ev nb fb l ta tc fv fs xa xc ns := by
  intro W' K
  obtain ⟨q1, q2, q3⟩ := h.parts W' (K.mono fun k _ e => Or.inl e)
  exact ⟨hB.below hB.low q2, q3, h.fms W' K, NsAt.of_rowI (ownsRow_blk hx (fun b hb => K.block b (ownsRow_lt hx hb).2 (h.pm.pdne hx (by decide) (by decide) hb)))⟩
theorem RowN.own {W : World} {g : Nat} {xs : List Nat} (h : RowN W g xs) (hl : xs.length ≤ 1000000) : W.ownsRow 0 3 1 (.slice (some ⟨g, 0, none⟩) xs.length xs.length) xs.length (xs.map i64) := by
  exact ⟨by simp, Or.inr ⟨g, xs.length, _, rfl, Nat.zero_le _, h, Nat.le_refl _, by unfold maxLen; omega, by simp, by simp only [Nat.mul_one]; exact List.take_of_length_le (by simp)⟩⟩
theorem SlF.fsm {w : World} {N : Nat} {pa : Option Addr} {n pc : Nat} {ks : List Lf} (h : SlF w N (.slice pa n pc) ks) : FsM w pa (ks.map Lf.er) := by
  intro i f hi
  rw [List.getElem?_map] at hi
  cases hk : ks[i]? with
  | none => rw [hk] at hi; cases hi
  | some k =>
    rw [hk] at hi
    cases hi
    obtain ⟨a, cap, e, _, hz⟩ := h.1
    cases e
    rcases hz with e | ⟨kb, ko, rfl, hz⟩
    · rw [e] at hk; cases hk
    · obtain ⟨h1, h2⟩ := hz i k hk
      obtain ⟨hh, _⟩ := h.2 k (List.mem_of_getElem? hk)
      obtain ⟨b, o, op, x, y, kv, kids⟩ := k
      cases hh with
      | mk hb hc hkk hkids =>
        obtain ⟨ka, kc, hkv, hk1, hk2⟩ := hkk
        subst hkv
        have h1' : b = kb := h1
        have h2' : o = ko + i * 4 := h2
        subst h1' h2'
        obtain ⟨c, fz, q0, q1, q2, q3, q4, rfl⟩ := hc
        have g : ∀ j u, c[j]? = some u → w.cell? ⟨b, j, none⟩ = some u := fun j u hu => by simp [World.cell?, q0, hu]
        exact ⟨b, ko, op, x, y, ka, kids.length, kc, rfl, ⟨g _ _ q1, g _ _ q2, g _ _ q3, g _ _ q4⟩, op, x, y, _, kids, rfl, ⟨ka, kc, rfl, hk1, hk2⟩, hkids, by rw [Lf.er]⟩
theorem SlF.below {w w' : World} {N : Nat} {v : Value} {ks : List Lf} (h : SlF w N v ks) (hB : Below w.heap.size w w') : SlF w' N v ks :=
  ⟨h.1, fun k hk => ⟨(h.2 k hk).1.keep (fun i _ _ _ hc => (hB.block i (Array.getElem?_eq_some_iff.1 hc).1).trans hc), (h.2 k hk).2⟩⟩
/-- What Decide is asked. -/
structure Asked (w : World) (l : List Tm) (pa : Option Addr) (pc : Nat) (ks : List Lf) (P : Pb) (fs : List Fm) : Prop where
  sl : SlF w l.length (.slice pa ks.length pc) ks
  cost : cS ks ≤ 601
  ok : FosOk l.length (ks.map Lf.er)
  adds : Pb.adds l.length (ks.map Lf.er) pb0 [] = (P, fs)
  fso : FsOk l.length fs (List.range fs.length)
  has : HasV fs P
  vrp : VrP P
  few : P.lemmas.length ≤ 100000 ∧ P.vars.length ≤ 2000 ∧ P.known.length ≤ 100000

set_option maxRecDepth 100000 in
set_option maxHeartbeats 4000000 in
theorem decide_yes (w : World) (base p : Nat) (ev : Value) (nb fb : Nat) (l : List Tm) (hB : Bk w base p ev nb fb l) (hb : Cc.Bd l) (hl : l.length ≤ 150) (pa : Option Addr) (pc : Nat) (ks : List Lf) (P : Pb) (fs : List Fm) (hA : Asked w l pa pc ks P fs) (f : Nat) (hf : f ≤ 2) (hM : MdlT l fs (List.range fs.length) (fun r _ => ∃ t, r = some t) f P) :
    Calls Tryz.prog 8 #[.pointer (some ⟨p, 0, none⟩), .slice pa ks.length pc] w fun e w' => ∃ ca cn cc, e = .returned (.tuple #[.agg #[.bool true, .slice ca cn cc, .slice none 0 0], .int .i64 0]) ∧ Below w.heap.size w w' := by
  have hB0 : Below w.heap.size w (w.alloc (.cells #[.bool false, .slice none 0 0, .slice none 0 0] 41)) := (Below.refl _ _).alloc (Nat.le_refl _) _
  have CK := check_by (w.alloc (.cells #[.bool false, .slice none 0 0, .slice none 0 0] 41)) (.pointer (some ⟨p, 0, none⟩)) pa ks.length pc true false (areFormulas_in _ base p ev nb fb l (hB.below hB.low hB0) pa ks.length pc ks (hA.sl.below hB0) (by have := hA.cost; omega)) (fun W hW => areMany_in W l.length pa pc ks ((hA.sl.below hB0).below hW) hA.cost)
  have HH : Hid (_ ∧ _ ∧ _) := And.intro hB (And.intro hA hM)
  have HB0 : Hid _ := hB0
  have hRA := made_row w #[.bool false, .slice none 0 0, .slice none 0 0] 41
  have HRA : Hid _ := hRA
  have hkl : ks.length ≤ 600 := by
    have h1 := sum_cF ks
    have h2 := hA.cost
    unfold cS at h2
    omega
  clear hB hA hM hB0 hRA
  go_enter Tryz.func8, Tryz.ntmps8
  go_wp2_with (first | (go_at_call 20; refine CK.mono ?_; rintro e w1 ⟨rfl, B1⟩; refine Aside.out ?_))
  delta Aside
  have hB1 : Below w.heap.size w w1 := HB0.out.trans (B1.mono HB0.out.size)
  have hBk1 := HH.out.1.below HH.out.1.low hB1
  have NW := newProblem_in w1 base p ev nb fb l hBk1 (by omega) pa pc _ ((HH.out.2.1.sl.below hB1).fsm) HH.out.2.1.ok
  rw [List.length_map] at NW
  have ck0 : chkE true false = 0 := rfl
  have hR1 := World.rowIs.of_block HRA.out (B1.block _ (by simp))
  have HR1 : Hid _ := hR1
  have HB1 : Hid (_ ∧ _) := And.intro hB1 hBk1
  have HNW : Hid _ := NW
  simp only [ck0]
  clear CK B1 hB1 hBk1 HRA HB0 NW ck0 hR1
  apply_assumption
  go_wp2_with (first | (go_at_call 21; refine Calls.mono HNW.out ?_; rintro e w2 ⟨pb, vb, kb, ta, tc, fv, lv, S, gs, rfl, N2⟩; refine Aside.out ?_))
  delta Aside
  rw [HH.out.2.1.adds] at N2
  obtain ⟨fa, fc, rfl⟩ := ownsRow_form N2.row
  have hgl : gs.length = fs.length := N2.len
  have c2 : w2.cell? ⟨pb, 2, none⟩ = some (.slice fa gs.length fc) := N2.pm.cells.cell (i := 2) (by omega)
  have hfl : gs.length = ks.length := by
    rw [hgl]
    have := adds_len l.length (ks.map Lf.er) pb0 []
    rw [HH.out.2.1.adds, List.length_map] at this
    simpa using this
  rw [hfl] at c2
  have AL := dall_in w2 pb fa ks.length fc (by omega) c2
  have hfe : fs.length = ks.length := by omega
  have HN2 : Hid (_ ∧ _ ∧ _) := And.intro N2 (And.intro hfl hfe)
  clear HNW N2 hgl hfl hfe c2
  apply_assumption
  go_wp2_with (first | (go_at_call 23; refine AL.mono ?_; rintro e w3 ⟨rfl, R3, B3⟩; refine Aside.out ?_))
  delta Aside
  have N3 := HN2.out.1.below B3
  have R3' := R3.own (by rw [List.length_range]; omega)
  have hE := N3.env HB1.out.2 R3'
  rw [List.length_range] at hE
  have MD := model_in solveOk S w3 pb vb kb _ lv P base p ev nb fb l ta tc N3.pm hb hl fs (some ⟨w2.heap.size, 0, none⟩) ks.length (List.range ks.length) hE (by rw [← HN2.out.2.2]; exact HH.out.2.1.fso) HH.out.2.1.has HH.out.2.1.vrp HH.out.2.1.few (fun r _ => ∃ t, r = some t) f hf (by rw [← HN2.out.2.2]; exact HH.out.2.2)
  rw [List.length_range] at MD
  have MD2 : Calls Tryz.prog 22 #[.pointer (some ⟨pb, 0, none⟩), .slice (some ⟨w2.heap.size, 0, none⟩) ks.length ks.length] w3 fun e w' => ∃ cb, e = .returned (.tuple #[.slice (some ⟨cb, 0, none⟩) l.length l.length, .bool true]) ∧ Hid (Below w.heap.size w w' ∧ w'.rowIs w.heap.size 41 3 (fun i => (#[.bool false, .slice none 0 0, .slice none 0 0] : Array Value)[i]?.getD undef)) := by
    refine MD.mono ?_
    rintro e w4 ⟨r, Q, S', lv', ⟨t, rfl⟩, X4, _, _, _, hans⟩
    obtain ⟨cb, g, rfl, _⟩ := hans t rfl
    have hb23 : Below w1.heap.size w1 w3 := (N3.parts w3 (Kept.refl _ _)).2.1
    have hb34 : Below w1.heap.size w3 w4 := X4.kept.below hb23.size (fun k hk => N3.low k (Or.inl hk))
    have hb14 := hb23.trans hb34
    refine ⟨cb, rfl, HB1.out.1.trans (hb14.mono HB1.out.1.size), World.rowIs.of_block HR1.out (hb14.block _ (World.rowIs.lt HR1.out))⟩
  clear MD hE R3' N3 R3 B3 AL HN2 HR1 HH HB1
  apply_assumption
  go_wp2_with (first | (go_at_call 22; refine MD2.mono ?_; rintro e w4 ⟨cb, rfl, H4⟩; refine Aside.out ?_))
  delta Aside
  have a0 := H4.out.2.cell (i := 0) (by omega)
  have a1 := H4.out.2.cell (i := 1) (by omega)
  have a2 := H4.out.2.cell (i := 2) (by omega)
  have f0 := H4.out.2.frozen 0
  have f1 := H4.out.2.frozen 1
  have f2 := H4.out.2.frozen 2
  simp only [List.getElem?_toArray, List.getElem?_cons_zero, List.getElem?_cons_succ, Option.getD_some] at a0 a1 a2
  clear MD2
  apply_assumption
  go_wp2_with fail
  have R9 := ((H4.out.2.set 0 (.bool true)).set 1 (.slice (some ⟨cb, 0, none⟩) l.length l.length)).set 2 (.slice none 0 0)
  have B9 : Below w.heap.size w (((w4.setCell ⟨w.heap.size, 0, none⟩ (.bool true)).setCell ⟨w.heap.size, 1, none⟩ (.slice (some ⟨cb, 0, none⟩) l.length l.length)).setCell ⟨w.heap.size, 2, none⟩ (.slice none 0 0)) := ((H4.out.1.setCell (p := ⟨w.heap.size, 0, none⟩) (Nat.le_refl _) _).setCell (p := ⟨w.heap.size, 1, none⟩) (Nat.le_refl _) _).setCell (p := ⟨w.heap.size, 2, none⟩) (Nat.le_refl _) _
  generalize (((w4.setCell ⟨w.heap.size, 0, none⟩ (.bool true)).setCell ⟨w.heap.size, 1, none⟩ (.slice (some ⟨cb, 0, none⟩) l.length l.length)).setCell ⟨w.heap.size, 2, none⟩ (.slice none 0 0)) = w9 at *
  have b0 : w9.cell? ⟨w.heap.size, 0, none⟩ = some (.bool true) := R9.cell (i := 0) (by omega)
  have b1 : w9.cell? ⟨w.heap.size, 1, none⟩ = some (.slice (some ⟨cb, 0, none⟩) l.length l.length) := R9.cell (i := 1) (by omega)
  have b2 : w9.cell? ⟨w.heap.size, 2, none⟩ = some (.slice none 0 0) := R9.cell (i := 2) (by omega)
  exact ⟨rfl, .tuple #[.agg #[.bool true, .slice (some ⟨cb, 0, none⟩) l.length l.length, .slice none 0 0], .int .i64 0], by simp [results, Tryz.results8, go_sem, b0, b1, b2], _, _, _, rfl, B9⟩
end Go.Proofs.YtlehlgipbhfioaaGreat

namespace Go.Proofs.YtlehlgipbhfioaaGreat
open Go.RowKit Go.Maps

/-- A model in memory. -/
structure ClM (W : World) (cb N : Nat) (cq : Nat → Nat → Bool) : Prop where
  row : ∃ g : Nat → Nat, W.rowIs cb 3 N (fun i => .int .i64 (g i : Int)) ∧ ∀ i j, i < N → j < N → decide (g i = g j) = cq i j
theorem ClM.below {W W' : World} {cb N : Nat} {cq : Nat → Nat → Bool} (h : ClM W cb N cq) (hB : Below W.heap.size W W') : ClM W' cb N cq := by
  obtain ⟨g, h1, h2⟩ := h.row
  exact ⟨g, h1.of_block (hB.block _ h1.lt), h2⟩
theorem ClM.eval {w : World} {cb N : Nat} {cq : Nat → Nat → Bool} (h : ClM w cb N cq) (hN : N ≤ 1000000) {v : Value} {f : Fo} (hv : FIs w v f) (hs : szF f ≤ 1048576) (hR : RF f) :
    Calls Tryz.prog 91 #[v, .slice (some ⟨cb, 0, none⟩) N N] w fun e w' => e = .returned (.bool (evE N cq f)) ∧ Below w.heap.size w w' := by
  obtain ⟨g, h1, h2⟩ := h.row
  have EV := evalF_in w v f hv (some ⟨cb, 0, none⟩) N N ((List.range N).map fun t => (g t : Int)) (by simp) (by
    by_cases hN0 : N = 0
    · left; rw [hN0]; rfl
    · refine Or.inr ⟨cb, 0, rfl, fun j z hj => ?_⟩
      have hjN : j < N := by have := (List.getElem?_eq_some_iff.1 hj).1; simpa using this
      rw [List.getElem?_map, List.getElem?_range hjN] at hj
      cases hj
      rw [Nat.zero_add]
      exact h1.cell (i := j) hjN) (by omega) (by omega) hR
  rwa [evF_E (n := N) (by simp) (e := cq) (fun a b ha hb => by
    have e1 : ((List.range N).map fun t => (g t : Int))[a]?.getD 0 = (g a : Int) := by simp [ha]
    have e2 : ((List.range N).map fun t => (g t : Int))[b]?.getD 0 = (g b : Int) := by simp [hb]
    rw [← h2 a b ha hb, e1, e2, beq_natI])] at EV

set_option maxRecDepth 100000 in
set_option maxHeartbeats 1000000 in
theorem false1_in (w : World) (cb N : Nat) (cq : Nat → Nat → Bool) (h : ClM w cb N cq) (hN : N ≤ 1000000) (bb : Nat) (hb : w.cell? ⟨bb, 0, none⟩ = some (.slice (some ⟨cb, 0, none⟩) N N)) (op x y : Int) (ka : Option Addr) (kn kc : Nat) (au cu : Value) (f : Fo) (hv : FIs w (.agg #[.int .i64 op, .int .i64 x, .int .i64 y, .slice ka kn kc]) f) (hs : szF f ≤ 1048576) (hR : RF f) :
    Calls Tryz.prog 147 #[.agg #[.int .i64 op, .int .i64 x, .int .i64 y, .slice ka kn kc, au, cu], .pointer (some ⟨bb, 0, none⟩)] w fun e w' => e = .returned (.bool (!evE N cq f)) ∧ Below w.heap.size w w' := by
  have hB0 : Below w.heap.size w (w.alloc (.cells #[.int .i64 op, .int .i64 x, .int .i64 y, .slice ka kn kc, au, cu] 172)) := (Below.refl _ _).alloc (Nat.le_refl _) _
  have EV := (h.below hB0).eval hN (hv.keep hB0) hs hR
  have A0 := made_row w #[.int .i64 op, .int .i64 x, .int .i64 y, .slice ka kn kc, au, cu] 172
  have y0 := A0.cell (i := 0) (by simp)
  have y1 := A0.cell (i := 1) (by simp)
  have y2 := A0.cell (i := 2) (by simp)
  have y3 := A0.cell (i := 3) (by simp)
  have hb2 := (hB0.cell (World.block_lt_of_cell? w _ hb)).trans hb
  have HB0 : Hid _ := hB0
  generalize evE N cq f = r at *
  clear hB0 h hv hs hR A0
  go_enter Tryz.func147, Tryz.ntmps147
  go_wp2_with (first | (go_at_call 91; refine EV.mono ?_; rintro e w1 ⟨rfl, B1⟩))
  go_ret
  exact ⟨rfl, HB0.out.trans (B1.mono HB0.out.size)⟩

set_option maxRecDepth 100000 in
set_option maxHeartbeats 4000000 in
theorem idxF_in (w : World) (cb N : Nat) (cq : Nat → Nat → Bool) (h : ClM w cb N cq) (hN : N ≤ 1000000) (bb : Nat) (hb : w.cell? ⟨bb, 0, none⟩ = some (.slice (some ⟨cb, 0, none⟩) N N)) (fa : Option Addr) (fc : Nat) (fs : List Fm) (hf : FmsAt w N (.slice fa fs.length fc) fs) (hl : fs.length ≤ 1000000) (hx : (fs.findIdx fun f => !f.ev cq) < fs.length) :
    Calls Tryz.prog 146 #[.slice fa fs.length fc, .func (.func 147) #[] #[.pointer (some ⟨bb, 0, none⟩)]] w fun e w' => e = .returned (.int .i64 ((fs.findIdx fun f => !f.ev cq : Nat) : Int)) ∧ Below w.heap.size w w' := by
  have HH : Hid (_ ∧ _ ∧ _ ∧ _) := And.intro h (And.intro hb (And.intro hf hx))
  obtain ⟨n, hn⟩ : ∃ n, fs.length = n := ⟨_, rfl⟩
  have HNN : Hid _ := hn
  rw [hn] at hl ⊢
  clear h hb hf hx hn
  have hB0 : Hid (Below w.heap.size w w) := Below.refl _ _
  go_enter Tryz.func146, Tryz.ntmps146
  go_wp2_with fail
  go_loopw [8] (fun t8 W => ∃ i : Nat, i ≤ n ∧ t8 = .int .i64 (i : Int) ∧ Hid (Below w.heap.size w W) ∧ Hid (∀ j f, j < i → fs[j]? = some f → f.ev cq = true)) (fun t8 _ => n - (intOf t8).toNat)
  case atStart => exact ⟨0, Nat.zero_le _, rfl, hB0, fun j f hj => absurd hj (Nat.not_lt_zero _)⟩
  case round =>
    obtain ⟨i, hi, rfl, HB, HJ⟩ := hrel
    have hil : i < fs.length := by
      by_cases hlt : i < fs.length
      · exact hlt
      · exfalso
        have h9 := List.findIdx_getElem (xs := fs) (p := fun f => !f.ev cq) (w := HH.out.2.2.2)
        have h8 := HJ.out _ _ (Nat.lt_of_lt_of_le HH.out.2.2.2 (by omega)) (List.getElem?_eq_getElem HH.out.2.2.2)
        simp [h8] at h9
    have hlt : i < n := by rw [← HNN.out]; exact hil
    have di : decide ((i : Int) < (n : Int)) = true := decide_eq_true (by omega)
    have hwi : IntKind.i64.wrap ((i : Int) + 1) = (i : Int) + 1 := wrap_nat1 (by omega)
    have hge := List.getElem?_eq_getElem hil
    obtain ⟨a2, c2, e2, hF⟩ := HH.out.2.2.1.below HB.out
    have hF1 := hF i _ hge
    obtain ⟨b, off, ea, op, x, y, ka, kn, kc, au, cu, f, ⟨q0, q1, q2, q3, q4, q5⟩, r1, r2, r3, ⟨ua, uc, rfl, r4⟩, ca, cc, rfl, r5⟩ := hF1
    rw [HNN.out] at e2
    cases e2
    subst ea
    have F1 := false1_in wr cb N cq (HH.out.1.below HB.out) hN bb ((HB.out.cell (World.block_lt_of_cell? w _ HH.out.2.1)).trans HH.out.2.1) op x y ka kn kc (.slice ua fs[i].am.length uc) (.slice ca fs[i].cs.length cc) f r1 r2.1 r2.2
    rw [← r3 cq] at F1
    have HST : Hid (fs[i].ev cq = true → ∀ j f, j < i + 1 → fs[j]? = some f → f.ev cq = true) := fun he j f hj hf => by
      by_cases e : j < i
      · exact HJ.out j f e hf
      · obtain rfl : j = i := by omega
        rw [hge] at hf
        cases hf
        exact he
    have HFD : Hid (fs[i].ev cq = false → (fs.findIdx fun f => !f.ev cq) = i) := fun he => by
      rcases Nat.lt_trichotomy (fs.findIdx fun f => !f.ev cq) i with h | h | h
      · exfalso
        have h9 := List.findIdx_getElem (xs := fs) (p := fun f => !f.ev cq) (w := HH.out.2.2.2)
        have h8 := HJ.out _ _ h (List.getElem?_eq_getElem HH.out.2.2.2)
        simp [h8] at h9
      · exact h
      · have h9 := List.not_of_lt_findIdx (p := fun f => !f.ev cq) (xs := fs) h
        simp [he] at h9
    generalize fs[i].am.length = al at *
    generalize fs[i].cs.length = cl at *
    generalize hev : fs[i].ev cq = r at *
    clear hev r1 r2 r3 r4 r5 hF hge hil HJ
    cases r with
    | true =>
      have HF : Hid _ := HST.out rfl
      clear HST HFD HH
      go_wp2_with (first | (go_at_call 147; refine F1.mono ?_; rintro e w5 ⟨rfl, B5⟩))
      exact ⟨⟨i + 1, hlt, by simp, HB.out.trans (B5.mono HB.out.size), HF⟩, by simp [intOf]; omega⟩
    | false =>
      have HF : Hid _ := HFD.out rfl
      clear HST HFD HH
      go_wp2_with (first | (go_at_call 147; refine F1.mono ?_; rintro e w5 ⟨rfl, B5⟩))
      go_ret
      exact ⟨by rw [HF.out]; rfl, HB.out.trans (B5.mono HB.out.size)⟩

set_option maxRecDepth 100000 in
set_option maxHeartbeats 1000000 in
theorem firstFalse_in (w : World) (pb cb N : Nat) (cq : Nat → Nat → Bool) (h : ClM w cb N cq) (hN : N ≤ 1000000) (fa : Option Addr) (fc : Nat) (fs : List Fm) (c2 : w.cell? ⟨pb, 2, none⟩ = some (.slice fa fs.length fc)) (hf : FmsAt w N (.slice fa fs.length fc) fs) (hl : fs.length ≤ 1000000) (hx : (fs.findIdx fun f => !f.ev cq) < fs.length) :
    Calls Tryz.prog 98 #[.pointer (some ⟨pb, 0, none⟩), .slice (some ⟨cb, 0, none⟩) N N] w fun e w' => e = .returned (.int .i64 ((fs.findIdx fun f => !f.ev cq : Nat) : Int)) ∧ Below w.heap.size w w' := by
  have hB0 : Below w.heap.size w (w.alloc (.cells #[.slice (some ⟨cb, 0, none⟩) N N] 39)) := (Below.refl _ _).alloc (Nat.le_refl _) _
  have IX := idxF_in (w.alloc (.cells #[.slice (some ⟨cb, 0, none⟩) N N] 39)) cb N cq (h.below hB0) hN w.heap.size (by simp) fa fc fs (hf.below hB0) hl hx
  have c2a := (hB0.cell (World.block_lt_of_cell? w _ c2)).trans c2
  have HB0 : Hid _ := hB0
  generalize (fs.findIdx fun f => !f.ev cq) = q at *
  generalize fs.length = n at *
  clear hB0 h hf c2 hx
  go_enter Tryz.func98, Tryz.ntmps98
  go_wp2_with (first | (go_at_call 146; refine IX.mono ?_; rintro e w1 ⟨rfl, B1⟩))
  go_ret
  exact ⟨rfl, HB0.out.trans (B1.mono HB0.out.size)⟩
end Go.Proofs.YtlehlgipbhfioaaGreat

namespace Go.Proofs.YtlehlgipbhfioaaGreat
open Go.RowKit Go.Maps

theorem eqNilI (w : World) (a : Addr) (n c : Nat) : Sem.run Tryz.prog (binOp BinOp.eql 39 (.slice (some a) n c) (.slice none 0 0)) w = .ok (.bool false) w := by kernel_rfl
theorem natC_at {l : List Nat} {i x : Nat} (h : l[i]? = some x) : (natC l)[i]? = some (.int .i64 (x : Int)) := by
  unfold natC
  rw [List.getElem?_map, h]
  rfl

set_option maxRecDepth 100000 in
set_option maxHeartbeats 1000000 in
theorem clone_in (w : World) (b0 : Nat) (v : Value) (ns : List Nat) (hx : w.ownsRow b0 3 1 v ns.length (natC ns)) (h0 : 0 < ns.length) (hn : ns.length ≤ 1000000) :
    Calls Tryz.prog 51 #[v] w fun e w' => ∃ v', e = .returned v' ∧ w'.ownsRow w.heap.size 3 1 v' ns.length (natC ns) ∧ Below w.heap.size w w' := by
  rcases id hx.2 with ⟨_, e0⟩ | ⟨g, cap, cur, rfl, _⟩
  · omega
  obtain ⟨i0, hi0, hz0, hz1, hz2⟩ := info_parts infoIntq
  have hcs : ∀ j u, (natC ns)[j]? = some u → (w.alloc (.cells #[] 3)).cell? ((⟨g, 0, none⟩ : Addr).add j) = some u := fun j u hj => by
    rw [Addr.add_lit, Nat.zero_add]
    have hjl := (List.getElem?_eq_some_iff.1 hj).1
    rw [natC_len] at hjl
    exact Lib.cell?_alloc_some _ (by rw [hx.cellAt j (by omega)]; exact hj)
  have HX : Hid _ := hcs
  have hone : ∀ u ∈ natC ns, u.oneCell' = true := fun u hu => by
    unfold natC at hu
    obtain ⟨x, _, rfl⟩ := List.mem_map.1 hu
    rfl
  have hlen := natC_len ns
  obtain ⟨n, hnn⟩ : ∃ n, ns.length = n := ⟨_, rfl⟩
  have row0 : (w.alloc (.cells #[] 3)).ownsRow w.heap.size 3 1 (.slice (some ⟨w.heap.size, 0, none⟩) 0 0) 0 [] := ⟨rfl, Or.inr ⟨w.heap.size, 0, #[], rfl, Nat.le_refl _, heap_alloc_new _ _, Nat.le_refl _, Nat.zero_le _, rfl, rfl⟩⟩
  rw [hnn] at hx h0 hn hlen ⊢
  have HL : Hid _ := hlen
  have HO : Hid _ := hone
  clear hx hcs hone hlen hnn
  have eqn := eqNilI w ⟨g, 0, none⟩ n cap
  go_enter Tryz.func51, Tryz.ntmps51
  go_wp2_with (first | (at_builtin; refine Aside.out ?_))
  delta Aside
  refine wpList_append_own_at _ rfl _ _ 39 rfl w.heap.size 3 i0 _ 1 8 Tryz.underlying39 hi0 hz0 hz1 hz2 rfl (by decide) _ _ _ rfl row0 ⟨g, 0, none⟩ n cap (natC ns) rfl (by rw [HL.out, Nat.mul_one]) HX.out HO.out (by unfold maxLen; omega) (by omega) (by simp) ?_
  intro v8 w8 hown8 hgrow8 _ hat8
  have B8 : Below w.heap.size w w8 := (Kept.grown ((Kept.refl (fun k => k = w.heap.size) w).alloc _) hgrow8 (fun k e => by cases e; rfl)).below (Nat.le_refl _) (fun k e => by rw [e]; exact Nat.le_refl _)
  have HB8 : Hid (_ ∧ _) := And.intro hown8 B8
  clear hown8 hgrow8 hat8 B8
  go_wp2_with fail
  go_ret
  refine ⟨_, rfl, ?_, HB8.out.2⟩
  have := HB8.out.1
  rwa [Nat.zero_add, List.nil_append] at this

set_option maxRecDepth 100000 in
set_option maxHeartbeats 1000000 in
theorem with1_in (w : World) (nb : Nat) (x : Nat) (h : w.cell? ⟨nb, 0, none⟩ = some (.int .i64 (x : Int))) (m : Nat) :
    Calls Tryz.prog 100 #[.int .i64 (m : Int), .pointer (some ⟨nb, 0, none⟩)] w fun e w' => e = .returned (.bool (decide (m = x))) ∧ w = w' := by
  go_enter Tryz.func100, Tryz.ntmps100
  go_wp2_with fail
  go_ret
  exact ⟨ret_bool (beq_natI m x), rfl⟩

/-- The first place at which a number stands. -/
def idxI (ns : List Nat) (x : Nat) : Int := if ns.idxOf x < ns.length then (ns.idxOf x : Int) else -1

set_option maxRecDepth 100000 in
set_option maxHeartbeats 2000000 in
theorem idxI_in (w : World) (b0 : Nat) (ga : Option Addr) (gc : Nat) (ns : List Nat) (hx : w.ownsRow b0 3 1 (.slice ga ns.length gc) ns.length (natC ns)) (hn : ns.length ≤ 1000000) (nb x : Nat) (h : w.cell? ⟨nb, 0, none⟩ = some (.int .i64 (x : Int))) :
    Calls Tryz.prog 148 #[.slice ga ns.length gc, .func (.func 100) #[] #[.pointer (some ⟨nb, 0, none⟩)]] w fun e w' => e = .returned (.int .i64 (idxI ns x)) ∧ w = w' := by
  have HX : Hid _ := hx
  obtain ⟨n, hnn⟩ : ∃ n, ns.length = n := ⟨_, rfl⟩
  have HN : Hid _ := hnn
  rw [hnn] at hn ⊢
  clear hx hnn
  go_enter Tryz.func148, Tryz.ntmps148
  go_wp2_with fail
  go_loopw [8] (fun t8 W => ∃ i : Nat, i ≤ n ∧ t8 = .int .i64 (i : Int) ∧ W = w ∧ Hid (∀ j, j < i → ns[j]? ≠ some x)) (fun t8 _ => n - (intOf t8).toNat)
  case atStart => exact ⟨0, Nat.zero_le _, rfl, rfl, fun j hj => absurd hj (Nat.not_lt_zero _)⟩
  case round =>
    obtain ⟨i, hi, rfl, rfl, HJ⟩ := hrel
    by_cases hlt : i < n
    · have di : decide ((i : Int) < (n : Int)) = true := decide_eq_true (by omega)
      have hwi : IntKind.i64.wrap ((i : Int) + 1) = (i : Int) + 1 := wrap_nat1 (by omega)
      have hil : i < ns.length := by rw [HN.out]; exact hlt
      have hge := List.getElem?_eq_getElem hil
      have hrow := HX.out
      obtain ⟨g, c, eg, q1⟩ := own_one hrow (natC_at hge)
      cases eg
      have W1 := with1_in wr nb x h ns[i]
      have HST : Hid (ns[i] ≠ x → ∀ j, j < i + 1 → ns[j]? ≠ some x) := fun hne j hj => by
        by_cases e : j < i
        · exact HJ.out j e
        · obtain rfl : j = i := by omega
          rw [hge]
          exact fun e => hne (Option.some.inj e)
      have HFD : Hid (ns[i] = x → idxI ns x = (i : Int)) := fun he => by
        have h1 : ns.idxOf x = i := by
          have hmem : x ∈ ns := he ▸ List.getElem_mem hil
          have hlt2 : ns.idxOf x < ns.length := List.idxOf_lt_length_of_mem hmem
          have hg2 : ns[ns.idxOf x]? = some x := by rw [List.getElem?_eq_getElem hlt2, List.getElem_idxOf]
          rcases Nat.lt_trichotomy (ns.idxOf x) i with h | h | h
          · exact absurd hg2 (HJ.out _ h)
          · exact h
          · have h9 := List.not_of_lt_findIdx (p := (· == x)) (xs := ns) h
            simp [he] at h9
        unfold idxI
        rw [h1, if_pos hil]
      generalize ns[i] = m at *
      clear HJ hrow hge HX
      by_cases hm : m = x
      · rw [decide_eq_true hm] at W1
        have HFE : Hid _ := HFD.out hm
        clear hm
        go_wp2_with (first | (go_at_call 100; refine W1.mono ?_; rintro e w5 ⟨rfl, rfl⟩))
        go_ret
        exact ⟨by rw [HFE.out]; rfl, rfl⟩
      · rw [decide_eq_false hm] at W1
        go_wp2_with (first | (go_at_call 100; refine W1.mono ?_; rintro e w5 ⟨rfl, rfl⟩))
        refine ⟨⟨i + 1, hlt, ?_, ?_, HST.out hm⟩, by simp [intOf]; omega⟩ <;> simp
    · have di : decide ((i : Int) < (n : Int)) = false := decide_eq_false (by omega)
      obtain rfl : i = n := by omega
      have HFN : Hid (idxI ns x = -1) := by
        show _ = _
        unfold idxI
        rw [if_neg]
        intro hlt2
        have hg2 : ns[ns.idxOf x]? = some x := by rw [List.getElem?_eq_getElem hlt2, List.getElem_idxOf]
        exact HJ.out _ (by rw [← HN.out]; exact hlt2) hg2
      clear HJ HX
      go_wp2_with fail
      go_ret
      exact ⟨by rw [HFN.out]; rfl, rfl⟩
theorem zeroInt (w : World) : (zeroValue 3).run Tryz.prog w = .ok (.int .i64 0) w := by kernel_rfl
theorem clear_ints {W : World} {base bb cap n m : Nat} {xs : List Value} (h : W.ownsRow base 3 1 (.slice (some ⟨bb, 0, none⟩) n cap) n xs) (hm : m < n) (ty : TypeId) :
    ∃ W', (Builtin.clear_ #[39] ty #[.slice (some ⟨bb, m, none⟩) (n - m) (cap - m)]).run Tryz.prog W = .ok (.tuple #[]) W' ∧ W'.ownsRow base 3 1 (.slice (some ⟨bb, 0, none⟩) m cap) m (xs.take m) ∧ Kept1 bb W W' := by
  have hc := ownsRow_cut h rfl (Nat.le_of_lt hm)
  rw [Nat.mul_one] at hc
  have hcell : ∀ j, j < n - m → (W.cell? ⟨bb, m + j, none⟩).isSome = true := fun j hj => by
    rw [h.cellAt (m + j) (by omega), List.getElem?_eq_getElem (by rw [h.1]; omega)]
    rfl
  have hr := Lib.run_clear_slice (P := Tryz.prog) W 39 3 ty (.int .i64 0) Tryz.underlying39 zeroInt rfl rfl bb m (n - m) (cap - m) (by omega) hcell (fun j _ => h.frozenAt (m + j))
  obtain ⟨h1, h2⟩ := ownsRow_aboves (List.replicate (n - m) (.int .i64 0)) m W (Nat.le_refl _) hc
  exact ⟨_, hr, h1, h2⟩
def neF (x : Nat) (l : List Nat) : List Nat := l.filter fun m => !decide (m = x)
theorem neF_snoc (x : Nat) (l : List Nat) (m : Nat) : neF x (l ++ [m]) = if m = x then neF x l else neF x l ++ [m] := by
  unfold neF
  rw [List.filter_append]
  by_cases e : m = x <;> simp [e]
/-- DeleteFunc at work: i numbers are kept of the first j. -/
structure DelI (w W : World) (base g cap : Nat) (ns : List Nat) (x i j : Nat) (R : List Nat) : Prop where
  row : W.ownsRow base 3 1 (.slice (some ⟨g, 0, none⟩) ns.length cap) ns.length (natC R)
  kept : Kept (fun k => k = g) w W
  le : i ≤ j
  head : R.take i = neF x (ns.take j)
  tail : R.drop j = ns.drop j
  len : R.length = ns.length
  il : i = (neF x (ns.take j)).length
  lt : i < ns.length
theorem DelI.skip {w W : World} {base g cap : Nat} {ns : List Nat} {x i j : Nat} {R : List Nat} (h : DelI w W base g cap ns x i j R) {m : Nat} (hj : ns[j]? = some m) (hm : m = x) : DelI w W base g cap ns x i (j + 1) R := by
  have e : ns.take (j + 1) = ns.take j ++ [m] := by rw [List.take_add_one, hj]; rfl
  refine ⟨h.row, h.kept, Nat.le_succ_of_le h.le, by rw [e, neF_snoc, if_pos hm]; exact h.head, ?_, h.len, by rw [e, neF_snoc, if_pos hm]; exact h.il, h.lt⟩
  rw [← List.drop_drop, ← List.drop_drop, h.tail]
theorem DelI.take {w W : World} {base g cap : Nat} {ns : List Nat} {x i j : Nat} {R : List Nat} (h : DelI w W base g cap ns x i j R) {m : Nat} (hj : ns[j]? = some m) (hm : m ≠ x) (hx : (neF x (ns.take (j + 1))).length < ns.length) : DelI w (W.setCell ⟨g, i, none⟩ (.int .i64 (m : Int))) base g cap ns x (i + 1) (j + 1) (R.set i m) := by
  have e : ns.take (j + 1) = ns.take j ++ [m] := by rw [List.take_add_one, hj]; rfl
  have hl : neF x (ns.take (j + 1)) = neF x (ns.take j) ++ [m] := by rw [e, neF_snoc, if_neg hm]
  have hjl := (List.getElem?_eq_some_iff.1 hj).1
  have hle := h.le
  have hlen := h.len
  have r2 : (W.setCell ⟨g, i, none⟩ (.int .i64 (m : Int))).ownsRow base 3 1 (.slice (some ⟨g, 0, none⟩) ns.length cap) ns.length (natC (R.set i m)) := by
    have := ownsRow_put h.row (o := i) (.int .i64 (m : Int))
    have e2 : (natC R).set i (.int .i64 (m : Int)) = natC (R.set i m) := by unfold natC; rw [List.map_set]
    rwa [e2] at this
  refine ⟨r2, h.kept.trans (Kept1.set (Kept.refl _ W) i _), by omega, ?_, ?_, by rw [List.length_set]; exact hlen, by rw [hl, List.length_append, ← h.il]; rfl, by rw [hl, List.length_append, ← h.il] at hx; exact hx⟩
  · rw [hl, ← h.head, List.take_add_one, List.getElem?_set_self (by omega), List.take_set_of_le (Nat.le_refl _)]
    rfl
  · rw [List.drop_set_of_lt (by omega), ← List.drop_drop, ← List.drop_drop, h.tail]

set_option maxRecDepth 100000 in
set_option maxHeartbeats 4000000 in
theorem del_int (w : World) (base g cap : Nat) (ns : List Nat) (hx : w.ownsRow base 3 1 (.slice (some ⟨g, 0, none⟩) ns.length cap) ns.length (natC ns)) (hn : ns.length ≤ 1000000) (nb x : Nat) (h : w.cell? ⟨nb, 0, none⟩ = some (.int .i64 (x : Int))) (hne : nb ≠ g) (hin : x ∈ ns) :
    Calls Tryz.prog 99 #[.slice (some ⟨g, 0, none⟩) ns.length cap, .func (.func 100) #[] #[.pointer (some ⟨nb, 0, none⟩)]] w fun e w' => ∃ v', e = .returned v' ∧ w'.ownsRow base 3 1 v' (neF x ns).length (natC (neF x ns)) ∧ Kept (fun k => k = g) w w' := by
  have IX := idxI_in w base _ cap ns hx hn nb x h
  have hq : ns.idxOf x < ns.length := List.idxOf_lt_length_of_mem hin
  have hqx : ns[ns.idxOf x]? = some x := by rw [List.getElem?_eq_getElem hq, List.getElem_idxOf]
  unfold idxI at IX
  rw [if_pos hq] at IX
  have hlx : ∀ j, (neF x (ns.take j)).length < ns.length := fun j => by
    have h1 : (neF x (ns.take j)).length ≤ (neF x ns).length := ((List.take_sublist j ns).filter _).length_le
    have h2 : (neF x ns).length < ns.length := by
      unfold neF
      rw [List.length_filter_lt_length_iff_exists]
      exact ⟨x, hin, by simp⟩
    omega
  have HD0 : Hid (∃ R, DelI w w base g cap ns x (ns.idxOf x) (ns.idxOf x + 1) R) := by
    have h0 : neF x (ns.take (ns.idxOf x)) = ns.take (ns.idxOf x) := by
      unfold neF
      rw [List.filter_eq_self]
      intro a ha
      obtain ⟨k, hk, rfl⟩ := List.mem_iff_getElem.1 ha
      rw [List.length_take] at hk
      rw [List.getElem_take]
      have hkq : k < ns.idxOf x := by omega
      have h9 := List.not_of_lt_findIdx (p := (· == x)) (xs := ns) (i := k) hkq
      simpa using h9
    have e : ns.take (ns.idxOf x + 1) = ns.take (ns.idxOf x) ++ [x] := by rw [List.take_add_one, hqx]; rfl
    refine ⟨ns, hx, Kept.refl _ _, Nat.le_succ _, ?_, rfl, rfl, ?_, hq⟩
    · rw [e, neF_snoc, if_pos rfl, h0]
    · rw [e, neF_snoc, if_pos rfl, h0, List.length_take]
      omega
  have HLX : Hid _ := hlx
  obtain ⟨q, hqq⟩ : ∃ q, ns.idxOf x = q := ⟨_, rfl⟩
  rw [hqq] at IX hq HD0
  obtain ⟨n, hnn⟩ : ∃ n, ns.length = n := ⟨_, rfl⟩
  have HN : Hid _ := hnn
  have HX : Hid (_ ∧ _) := And.intro hx h
  rw [hnn] at hn hq IX ⊢
  clear hx hqx hqq hlx hnn hin h
  have hwq : IntKind.i64.wrap ((q : Int) + 1) = (q : Int) + 1 := wrap_nat1 (by omega)
  have dq : decide ((q : Int) = -1) = false := decide_eq_false (by omega)
  have dq2 : ((q : Int) == -1) = false := by simp
  go_enter Tryz.func99, Tryz.ntmps99
  go_wp2_with (first | (go_at_call 148; refine IX.mono ?_; rintro e w5 ⟨rfl, rfl⟩))
  go_loopw [5, 6] (fun t5 t6 W => ∃ (i j : Nat), j ≤ n ∧ t5 = .int .i64 (i : Int) ∧ t6 = .int .i64 (j : Int) ∧ Hid (∃ R, DelI w W base g cap ns x i j R)) (fun _ t6 _ => n - (intOf t6).toNat)
  case atStart => exact ⟨q, q + 1, by omega, rfl, by simp, HD0⟩
  case round =>
    obtain ⟨i, j, hj, rfl, rfl, HJ⟩ := hrel
    obtain ⟨R, D⟩ := HJ.out
    have hil := D.lt
    rw [HN.out] at hil
    by_cases hlt : j < n
    · have dj : decide ((j : Int) < (n : Int)) = true := decide_eq_true (by omega)
      have hwj : IntKind.i64.wrap ((j : Int) + 1) = (j : Int) + 1 := wrap_nat1 (by omega)
      have hwi : IntKind.i64.wrap ((i : Int) + 1) = (i : Int) + 1 := wrap_nat1 (by omega)
      have hjl : j < ns.length := by rw [HN.out]; exact hlt
      have hge := List.getElem?_eq_getElem hjl
      have hRj : R[j]? = some ns[j] := by
        have h1 : (R.drop j)[0]? = (ns.drop j)[0]? := by rw [D.tail]
        rw [List.getElem?_drop, List.getElem?_drop, Nat.add_zero] at h1
        rw [h1, hge]
      have hrow := D.row
      rw [HN.out] at hrow
      obtain ⟨g2, c2, eg, q1⟩ := own_one hrow (natC_at hRj)
      cases eg
      obtain ⟨zz, hzz⟩ : ∃ z, wr.cell? ⟨g, i, none⟩ = some z := by
        have hiR : i < R.length := by rw [D.len, HN.out]; exact hil
        exact ⟨.int .i64 (R[i] : Int), by rw [hrow.cellAt i (by omega)]; exact natC_at (List.getElem?_eq_getElem hiR)⟩
      have fz := hrow.frozenAt i
      have hbx : wr.cell? ⟨nb, 0, none⟩ = some (.int .i64 (x : Int)) := (World.cell?_of_block (a := ⟨nb, 0, none⟩) (D.kept.block nb (World.block_lt_of_cell? w _ HX.out.2) hne)).trans HX.out.2
      have W1 := with1_in wr nb x hbx ns[j]
      have HSK : Hid (ns[j] = x → DelI w wr base g cap ns x i (j + 1) R) := fun e => D.skip hge e
      have HTK : Hid (ns[j] ≠ x → DelI w (wr.setCell ⟨g, i, none⟩ (.int .i64 (ns[j] : Int))) base g cap ns x (i + 1) (j + 1) (R.set i ns[j])) := fun e => D.take hge e (HLX.out _)
      generalize ns[j] = m at *
      clear HJ D hrow hge hRj hjl
      by_cases hm : m = x
      · rw [decide_eq_true hm] at W1
        have HF : Hid _ := HSK.out hm
        clear hm HSK HTK
        go_wp2_with (first | (go_at_call 100; refine W1.mono ?_; rintro e w5 ⟨rfl, rfl⟩))
        refine ⟨⟨i, j + 1, hlt, ?_, ?_, R, HF.out⟩, by simp [intOf]; omega⟩ <;> simp
      · rw [decide_eq_false hm] at W1
        have HF : Hid _ := HTK.out hm
        clear hm HSK HTK
        go_wp2_with (first | (go_at_call 100; refine W1.mono ?_; rintro e w5 ⟨rfl, rfl⟩))
        refine ⟨⟨i + 1, j + 1, hlt, ?_, ?_, _, HF.out⟩, by simp [intOf]; omega⟩ <;> simp
    · have dj : decide ((j : Int) < (n : Int)) = false := decide_eq_false (by omega)
      obtain rfl : j = n := by omega
      have hrow := D.row
      rw [HN.out] at hrow
      obtain ⟨W9, c9, o9, k9⟩ := clear_ints hrow hil 0
      have HF : Hid (W9.ownsRow base 3 1 (.slice (some ⟨g, 0, none⟩) i cap) (neF x ns).length (natC (neF x ns)) ∧ Kept (fun k => k = g) w W9 ∧ (neF x ns).length = i) := by
        have e1 : ns.take j = ns := List.take_of_length_le (by rw [HN.out]; exact Nat.le_refl _)
        have h1 := D.il
        have h2 := D.head
        rw [e1] at h1 h2
        refine ⟨?_, D.kept.trans k9, h1.symm⟩
        have e2 : (natC R).take i = natC (neF x ns) := by
          rw [← h2]
          unfold natC
          rw [List.map_take]
        rw [e2] at o9
        rw [← h1]
        exact o9
      have hcap : i ≤ cap := by
        rcases hrow.2 with ⟨e, _⟩ | ⟨g3, cap3, cur3, e, _, _, h3, _⟩
        · cases e
        · cases e
          omega
      have hcj : j ≤ cap := by
        rcases hrow.2 with ⟨e, _⟩ | ⟨g3, cap3, cur3, e, _, _, h3, _⟩
        · cases e
        · cases e
          omega
      clear HJ D hrow o9 k9
      go_wp2_with fail
      go_ret
      exact ⟨_, rfl, HF.out.1, HF.out.2.1⟩

set_option maxRecDepth 100000 in
set_option maxHeartbeats 1000000 in
theorem without_in (w : World) (b0 : Nat) (v : Value) (ns : List Nat) (hx : w.ownsRow b0 3 1 v ns.length (natC ns)) (hn : ns.length ≤ 1000000) (x : Nat) (hin : x ∈ ns) :
    Calls Tryz.prog 52 #[v, .int .i64 (x : Int)] w fun e w' => ∃ v', e = .returned v' ∧ w'.ownsRow w.heap.size 3 1 v' (neF x ns).length (natC (neF x ns)) ∧ Below w.heap.size w w' := by
  have h0 : 0 < ns.length := List.length_pos_of_mem hin
  have hB0 : Below w.heap.size w (w.alloc (.cells #[.int .i64 (x : Int)] 3)) := (Below.refl _ _).alloc (Nat.le_refl _) _
  have CL := clone_in (w.alloc (.cells #[.int .i64 (x : Int)] 3)) b0 v ns (ownsRow_below hx hB0) h0 hn
  have y0 : (w.alloc (.cells #[.int .i64 (x : Int)] 3)).cell? ⟨w.heap.size, 0, none⟩ = some (.int .i64 (x : Int)) := by simp
  have DE : ∀ (W : World) (v : Value), W.ownsRow (w.alloc (.cells #[.int .i64 (x : Int)] 3)).heap.size 3 1 v ns.length (natC ns) → Below (w.alloc (.cells #[.int .i64 (x : Int)] 3)).heap.size (w.alloc (.cells #[.int .i64 (x : Int)] 3)) W →
      ∃ g c, v = .slice (some ⟨g, 0, none⟩) ns.length c ∧ Calls Tryz.prog 99 #[.slice (some ⟨g, 0, none⟩) ns.length c, .func (.func 100) #[] #[.pointer (some ⟨w.heap.size, 0, none⟩)]] W fun e w' => ∃ v', e = .returned v' ∧ w'.ownsRow w.heap.size 3 1 v' (neF x ns).length (natC (neF x ns)) ∧ Below w.heap.size w w' := fun W v hr hB => by
    rcases id hr.2 with ⟨_, e0⟩ | ⟨g, cap, cur, rfl, hg, _⟩
    · omega
    · have hgl := hg
      simp at hgl
      refine ⟨g, cap, rfl, (del_int W w.heap.size g cap ns (row_low hr (by simp)) hn w.heap.size x ((hB.cell (by simp)).trans y0) (by omega) hin).mono ?_⟩
      rintro e w' ⟨v', rfl, r1, r2⟩
      have hbw := hB0.trans (hB.mono hB0.size)
      exact ⟨v', rfl, r1, hbw.trans (r2.below hbw.size (fun k e => by rw [e]; omega))⟩
  have HDE : Hid _ := DE
  clear DE hx hB0 hin h0
  go_enter Tryz.func52, Tryz.ntmps52
  go_wp2_with (first | (go_at_call 51; refine CL.mono ?_; rintro e w1 ⟨v1, rfl, R1, B1⟩; obtain ⟨g1, c1, rfl, DD⟩ := HDE.out w1 v1 R1 B1; clear R1 B1) | (go_at_call 99; refine DD.mono ?_; rintro e w2 ⟨v2, rfl, H2⟩))
  go_ret
  exact ⟨_, rfl, H2⟩
end Go.Proofs.YtlehlgipbhfioaaGreat

namespace Go.Proofs
open Go.Shelf
def Tryz.lays189_ren : Go.Shelf.Ren := ⟨fun | 189 => 97 | 125 => 145 | 257 => 144 | 128 => 191 | 129 => 192 | 294 => 182 | 295 => 183 | 296 => 184 | 297 => 185 | 298 => 186 | 299 => 187 | 216 => 188 | 300 => 189 | 301 => 190 | 328 => 226 | 329 => 227 | 330 => 228 | 331 => 229 | 332 => 230 | 215 => 221 | 343 => 250 | n => n, fun | 28 => 39 | 3 => 3 | 46 => 105 | 0 => 0 | 51 => 298 | 53 => 268 | 4 => 4 | 183 => 292 | 182 => 291 | 131 => 159 | 5 => 5 | 9 => 9 | 218 => 324 | 222 => 328 | 228 => 346 | 229 => 347 | n => n, fun | n => n⟩
theorem Tryz.lays189 : Go.Proofs.Lays.n189 Tryz.prog Tryz.lays189_ren := {
  mixed := by kernel_rfl
  f125 := Tryz.func145.trans (congrArg some (by kernel_rfl))
  f128 := Tryz.func191.trans (congrArg some (by kernel_rfl))
  f129 := Tryz.func192.trans (congrArg some (by kernel_rfl))
  f189 := Tryz.func97.trans (congrArg some (by kernel_rfl))
  f215 := Tryz.func221.trans (congrArg some (by kernel_rfl))
  f216 := Tryz.func188.trans (congrArg some (by kernel_rfl))
  f257 := Tryz.func144.trans (congrArg some (by kernel_rfl))
  f294 := Tryz.func182.trans (congrArg some (by kernel_rfl))
  f295 := Tryz.func183.trans (congrArg some (by kernel_rfl))
  f296 := Tryz.func184.trans (congrArg some (by kernel_rfl))
  f297 := Tryz.func185.trans (congrArg some (by kernel_rfl))
  f298 := Tryz.func186.trans (congrArg some (by kernel_rfl))
  f299 := Tryz.func187.trans (congrArg some (by kernel_rfl))
  f300 := Tryz.func189.trans (congrArg some (by kernel_rfl))
  f301 := Tryz.func190.trans (congrArg some (by kernel_rfl))
  f328 := Tryz.func226.trans (congrArg some (by kernel_rfl))
  f329 := Tryz.func227.trans (congrArg some (by kernel_rfl))
  f330 := Tryz.func228.trans (congrArg some (by kernel_rfl))
  f331 := Tryz.func229.trans (congrArg some (by kernel_rfl))
  f332 := Tryz.func230.trans (congrArg some (by kernel_rfl))
  f343 := Tryz.func250.trans (congrArg some (by kernel_rfl))
  t0 := Tryz.underlying0
  a0 := Tryz.isAgg0
  z0 := Tryz.sizeOf0
  v0 := Tryz.zeroValue0
  t3 := Tryz.underlying3
  a3 := Tryz.isAgg3
  z3 := Tryz.sizeOf3
  v3 := Tryz.zeroValue3
  t4 := Tryz.underlying4
  a4 := Tryz.isAgg4
  z4 := Tryz.sizeOf4
  v4 := Tryz.zeroValue4
  t5 := Tryz.underlying5
  a5 := Tryz.isAgg5
  z5 := Tryz.sizeOf5
  v5 := Tryz.zeroValue5
  t9 := Tryz.underlying9
  a9 := Tryz.isAgg9
  z9 := Tryz.sizeOf9
  v9 := Tryz.zeroValue9
  t28 := Tryz.underlying39
  a28 := Tryz.isAgg39
  z28 := Tryz.sizeOf39
  v28 := Tryz.zeroValue39
  t46 := Tryz.underlying105
  a46 := Tryz.isAgg105
  z46 := Tryz.sizeOf105
  v46 := Tryz.zeroValue105
  t51 := Tryz.underlying298
  a51 := Tryz.isAgg298
  z51 := Tryz.sizeOf298
  v51 := Tryz.zeroValue298
  t53 := Tryz.underlying268
  a53 := Tryz.isAgg268
  z53 := Tryz.sizeOf268
  v53 := Tryz.zeroValue268
  t131 := Tryz.underlying159
  a131 := Tryz.isAgg159
  z131 := Tryz.sizeOf159
  v131 := Tryz.zeroValue159
  t182 := Tryz.underlying291
  a182 := Tryz.isAgg291
  z182 := Tryz.sizeOf291
  v182 := Tryz.zeroValue291
  t183 := Tryz.underlying292
  a183 := Tryz.isAgg292
  z183 := Tryz.sizeOf292
  v183 := Tryz.zeroValue292
  t218 := Tryz.underlying324
  a218 := Tryz.isAgg324
  z218 := Tryz.sizeOf324
  v218 := Tryz.zeroValue324
  t222 := Tryz.underlying328
  a222 := Tryz.isAgg328
  z222 := Tryz.sizeOf328
  v222 := Tryz.zeroValue328
  t228 := Tryz.underlying346
  a228 := Tryz.isAgg346
  z228 := Tryz.sizeOf346
  v228 := Tryz.zeroValue346
  t229 := Tryz.underlying347
  a229 := Tryz.isAgg347
  z229 := Tryz.sizeOf347
  v229 := Tryz.zeroValue347 }
open Go.Sort Go.RowKit in
theorem Tryz.slices_Sort_int (blk off cap : Nat) (zs : List Int) (w : World) (hH : Holds (Value.int .i64) w blk off zs.toArray) (hblk : blk < w.heap.size) (hsz : zs.length < 4611686018427387904) :
    Calls Tryz.prog 97 #[.slice (some ⟨blk, off, none⟩) zs.length cap] w fun e w' =>
      e = .returned (.tuple #[]) ∧ ∃ n os, w' = grow (putRow (Value.int .i64) (Sort.ahead w n) blk off (zs.mergeSort fun x y => decide (x ≤ y)).toArray) os := Any.slices_Sort_int Tryz.lays189 blk off cap zs w hH hblk hsz
end Go.Proofs

namespace Go.Proofs.YtlehlgipbhfioaaGreat
open Go.RowKit Go.Sort

theorem natC_map (l : List Nat) : natC l = (l.map fun x : Nat => (x : Int)).map (Value.int .i64) := by simp [natC]
theorem sortedN_is (l T : List Nat) (hp : T.Perm l) (hs : T.Pairwise (· < ·)) : ((l.map fun x : Nat => (x : Int)).mergeSort fun x y => decide (x ≤ y)) = T.map fun x : Nat => (x : Int) := by
  refine List.Perm.eq_of_pairwise (le := fun a b : Int => decide (a ≤ b) = true) (fun a b _ _ h1 h2 => ?_) (List.pairwise_mergeSort (fun a b c h1 h2 => ?_) (fun a b => ?_) _) ?_ ((List.mergeSort_perm _ _).trans (hp.symm.map _))
  · simp only [decide_eq_true_eq] at h1 h2; omega
  · simp only [decide_eq_true_eq] at h1 h2 ⊢; omega
  · simp only [Bool.or_eq_true, decide_eq_true_eq]; omega
  · refine List.pairwise_map.2 (hs.imp ?_)
    intro a b hab
    simp only [decide_eq_true_eq]; omega
theorem Sort_nat (w : World) (base : Nat) (v : Value) (l T : List Nat) (k : Nat) (hk : l.length = k + 1) (hsm : l.length ≤ 100000) (ho : w.ownsRow base 3 1 v l.length (natC l)) (hp : T.Perm l) (hs : T.Pairwise (· < ·)) :
    Calls Tryz.prog 97 #[v] w fun e w' => e = .returned (.tuple #[]) ∧ w'.ownsRow base 3 1 v T.length (natC T) ∧ w.grownBy w' v.ownBlock := by
  have hlen : T.length = l.length := hp.length_eq
  rcases ho.2 with ⟨_, h0⟩ | ⟨g, cap, cur, rfl, hb, hg, h1, h2, h3, h4⟩
  · omega
  · rw [natC_map, Nat.mul_one] at h4
    have hH : Holds (Value.int .i64) w g 0 (l.map fun x : Nat => (x : Int)).toArray := holds_of_blockI hg (by rw [List.length_map]; exact h4)
    have hc := Tryz.slices_Sort_int g 0 cap (l.map fun x : Nat => (x : Int)) w hH (Array.getElem?_eq_some_iff.1 hg).1 (by rw [List.length_map]; omega)
    rw [sortedN_is l T hp hs, List.length_map] at hc
    refine hc.mono ?_
    rintro e w' ⟨he, n, os, rfl⟩
    refine ⟨he, ?_, grownBy_sortedI _⟩
    rw [natC_map, hlen]
    have := ownsRow_sortedI (n := n) (os := os) (ss := l.map fun x : Nat => (x : Int)) (ts := T.map fun x : Nat => (x : Int)) (by simp [hlen]) hb hg (by simpa using h1) h2 h3
    simpa using this
end Go.Proofs.YtlehlgipbhfioaaGreat

namespace Go.Proofs.YtlehlgipbhfioaaGreat
open Go.RowKit Go.Maps

/-- What is learned, where there is room. -/
def lrnN (l : List Tm) (told : List Pr) (F : Pf) : List Pr → Pb → Option Pb
  | [], P => some P
  | a :: r, P => match stepsN F.L told (argN l) a with
    | none => none
    | some S => if P.count + (missN P S []).length ≤ 2000 then lrnN l told F r (S.foldl Pb.step P) else none
theorem lrnN_ok {l : List Tm} {told : List Pr} {F : Pf} : ∀ (xs : List Pr) (P Q Q' : Pb), lrnN l told F xs P = some Q' → LrnR l told F xs P Q → Q = Q'
  | [], P, Q, Q', h, k => by
    simp only [lrnN] at h
    cases h
    exact k
  | a :: r, P, Q, Q', h, ⟨P1, ⟨S, k1, k2, _⟩, k3⟩ => by
    simp only [lrnN, k1] at h
    by_cases hr : P.count + (missN P S []).length ≤ 2000
    · rw [if_pos hr] at h
      have e := k2 hr
      subst e
      exact lrnN_ok r _ Q Q' h k3
    · rw [if_neg hr] at h
      cases h
def slvB (P : Pb) (fs : List Fm) (ns : List Nat) : Bool := decide (P.count ≤ 2000) && (decide ((clsN P fs ns).length ≤ 100000000) && (clsN P fs ns).all fun c => decide (c.length ≤ 12) && c.all fun x => decide (x ≠ 0) && decide (x.natAbs ≤ P.count))
theorem slvB_ok {P : Pb} {fs : List Fm} {ns : List Nat} (h : slvB P fs ns = true) : SlvOk P fs ns := by
  simp only [slvB, Bool.and_eq_true, decide_eq_true_eq, List.all_eq_true] at h
  exact ⟨h.1, h.2.1, fun c hc => ⟨.inl (h.2.2 c hc).1, fun x hx => (h.2.2 c hc).2 x hx⟩⟩
/-- model, reckoned. -/
def mdlN (l : List Tm) (fs : List Fm) (ns : List Nat) : Nat → Pb → Option (Option (List Pr) × Pb)
  | 0, _ => none
  | f + 1, P => if slvB P fs ns then (match solveN P.count (clsN P fs ns) with
    | none => none
    | some none => some (none, P)
    | some (some vs) => if wroN l fs P ns vs = [] then some (some (tolN fs P ns vs), P) else if 1 < (wroN l fs P ns vs).length then none else match proofN l (tolN fs P ns vs) with
      | none => none
      | some F => match lrnN l (tolN fs P ns vs) F (wroN l fs P ns vs) P with
        | none => none
        | some Q => mdlN l fs ns f Q) else none
theorem mdlN_ok {l : List Tm} {fs : List Fm} {ns : List Nat} : ∀ (f : Nat) (P : Pb) (r : Option (List Pr) × Pb), mdlN l fs ns f P = some r → MdlT l fs ns (fun a Q => (a, Q) = r) f P
  | 0, P, r, h => by simp [mdlN] at h
  | f + 1, P, r, h => by
    rw [mdlN] at h
    split at h
    · rename_i hb
      refine ⟨slvB_ok hb, ?_⟩
      cases hs : solveN P.count (clsN P fs ns) with
      | none => rw [hs] at h; cases h
      | some o =>
        rw [hs] at h
        cases o with
        | none =>
          simp only at h ⊢
          cases h
          rfl
        | some vs =>
          simp only at h ⊢
          refine ⟨fun hw => ?_, fun hw => ?_⟩
          · rw [if_pos hw] at h
            cases h
            rfl
          · rw [if_neg hw] at h
            by_cases hl1 : 1 < (wroN l fs P ns vs).length
            · rw [if_pos hl1] at h
              cases h
            rw [if_neg hl1] at h
            refine ⟨⟨by omega, ?_⟩, fun F Q hF hL => ?_⟩
            · cases f with
              | zero =>
                exfalso
                split at h
                · cases h
                · split at h
                  · cases h
                  · simp [mdlN] at h
              | succ f => omega
            rw [hF] at h
            simp only at h
            cases hq : lrnN l (tolN fs P ns vs) F (wroN l fs P ns vs) P with
            | none => rw [hq] at h; cases h
            | some Q' =>
              rw [hq] at h
              simp only at h
              have := lrnN_ok _ _ _ _ hq hL
              subst this
              exact mdlN_ok f Q r h
    · cases h
/-- The first formula that is false. -/
def fstF (l : List Tm) (told : List Pr) (fs : List Fm) : Nat := fs.findIdx fun f => !f.ev (cgN l told)
def insN (x : Nat) : List Nat → List Nat
  | [] => [x]
  | y :: ys => if x ≤ y then x :: y :: ys else y :: insN x ys
def srtN (l : List Nat) : List Nat := l.foldr insN []
/-- enough, reckoned. -/
def enoN (l : List Tm) (fs : List Fm) (g : Nat) : Nat → Pb → List Nat → Option (List Nat × Pb)
  | 0, _, _ => none
  | f + 1, P, ns => match mdlN l fs ns g P with
    | none => none
    | some (none, Q) => some (srtN ns, Q)
    | some (some told, Q) => if fstF l told fs < fs.length then enoN l fs g f Q (ns ++ [fstF l told fs]) else none
/-- core's loop, reckoned. -/
def corN (l : List Tm) (fs : List Fm) (g : Nat) : List Nat → Pb → List Nat → Option (List Nat × Pb)
  | [], P, ns => some (ns, P)
  | x :: xs, P, ns => match mdlN l fs (ns.filter fun m => !decide (m = x)) g P with
    | none => none
    | some (none, Q) => corN l fs g xs Q (ns.filter fun m => !decide (m = x))
    | some (some _, Q) => corN l fs g xs Q ns
end Go.Proofs.YtlehlgipbhfioaaGreat

namespace Go.Proofs.YtlehlgipbhfioaaGreat
open Go.RowKit Go.Maps

/-- A problem, and a row of numbers of one's own beside it. -/
structure EnI (Φ : World → Prop) (B : Nat) (w : World) (lv0 : Value) (S : Nat → Prop) (W : World) (pb vb kb : Nat) (bk tv fv lv : Value) (P : Pb) (N : Nat) (fs : List Fm) (gs : List Sx) (v : Value) (ns : List Nat) : Prop where
  np : Np Φ B S W pb vb kb bk tv fv lv P N fs gs
  kept : Kept (Dq pb vb kb lv0 fv) w W
  dq : ∀ k, Dq pb vb kb lv fv k → Dq pb vb kb lv0 fv k ∨ w.heap.size ≤ k
  row : W.ownsRow w.heap.size 3 1 v ns.length (natC ns)
  sep : ∀ k, v.ownBlock = some k → ¬ S k
theorem EnI.start {Φ : World → Prop} {B : Nat} {S : Nat → Prop} {W : World} {pb vb kb : Nat} {bk tv fv lv : Value} {P : Pb} {N : Nat} {fs : List Fm} {gs : List Sx} (h : Np Φ B S W pb vb kb bk tv fv lv P N fs gs) : EnI Φ B W lv S W pb vb kb bk tv fv lv P N fs gs (.slice none 0 0) [] :=
  ⟨h, Kept.refl _ _, fun _ e => Or.inl e, ⟨rfl, Or.inl ⟨rfl, rfl⟩⟩, fun k e => by cases e⟩
theorem EnI.below {Φ : World → Prop} {B : Nat} {w : World} {lv0 : Value} {S : Nat → Prop} {W W' : World} {pb vb kb : Nat} {bk tv fv lv : Value} {P : Pb} {N : Nat} {fs : List Fm} {gs : List Sx} {v : Value} {ns : List Nat} (h : EnI Φ B w lv0 S W pb vb kb bk tv fv lv P N fs gs v ns) (hB : Below W.heap.size W W') : EnI Φ B w lv0 S W' pb vb kb bk tv fv lv P N fs gs v ns :=
  ⟨h.np.below hB, h.kept.under hB, h.dq, ownsRow_below h.row hB, h.sep⟩
theorem EnI.step {Φ : World → Prop} {B : Nat} {w : World} {lv0 : Value} {S S' : Nat → Prop} {W W' : World} {pb vb kb : Nat} {bk tv fv lv lv' : Value} {P Q : Pb} {N : Nat} {fs : List Fm} {gs : List Sx} {v : Value} {ns : List Nat} (h : EnI Φ B w lv0 S W pb vb kb bk tv fv lv P N fs gs v ns) (hB : B ≤ W.heap.size) (x : PmX S W S' W' pb vb kb bk tv fv lv lv' Q) : EnI Φ B w lv0 S' W' pb vb kb bk tv fv lv' Q N fs gs v ns := by
  refine ⟨h.np.step hB x, h.kept.far x.kept (fun k hk => h.dq k (Or.inl hk)), ?_, ownsRow_blk h.row (fun b hb => x.kept.block b (ownsRow_lt h.row hb).2 (h.np.pm.pdne h.row (by decide) (by decide) hb)), fun k hk e => ?_⟩
  · rintro k ((e | e | e | e) | e)
    · exact h.dq k (Or.inl (Or.inl e))
    · exact h.dq k (Or.inl (Or.inr (Or.inl e)))
    · exact h.dq k (Or.inl (Or.inr (Or.inr (Or.inl e))))
    · rcases x.at_ with a | a
      · exact h.dq k (Or.inl (Or.inr (Or.inr (Or.inr (a ▸ e)))))
      · exact Or.inr (Nat.le_trans h.kept.size (a k e))
    · exact h.dq k (Or.inr e)
  · rcases x.new k e with e1 | e1
    · exact h.sep k hk e1
    · have := (ownsRow_lt h.row hk).2
      omega
/-- The row grows, or is written. -/
theorem EnI.push {Φ : World → Prop} {B : Nat} {w : World} {lv0 : Value} {S0 S : Nat → Prop} {W W1 w8 : World} {pb vb kb : Nat} {bk tv fv lv : Value} {P0 P : Pb} {N : Nat} {fs : List Fm} {gs : List Sx} {v v8 : Value} {ns ns8 : List Nat} (h0 : Np Φ B S0 w pb vb kb bk tv fv lv0 P0 N fs gs) (h : EnI Φ B w lv0 S W pb vb kb bk tv fv lv P N fs gs v ns) (hB1 : Below W.heap.size W W1) (hown : w8.ownsRow w.heap.size 3 1 v8 ns8.length (natC ns8)) (hgrow : W1.grownBy w8 v.ownBlock) (hat : v8.ownBlock = v.ownBlock ∨ ∀ k, v8.ownBlock = some k → W1.heap.size ≤ k) : EnI Φ B w lv0 S w8 pb vb kb bk tv fv lv P N fs gs v8 ns8 := by
  have h1 := h.below hB1
  have K : Kept (fun k => v.ownBlock = some k) W1 w8 := Kept.grown (Kept.refl _ W1) hgrow (fun k e => e)
  have hbk : ∀ k, PD pb vb kb lv k → w8.heap[k]? = W1.heap[k]? := fun k hk => K.block k (h1.np.pm.pdlt hk) (fun e => h1.np.pm.pdne h1.row (by decide) (by decide) e hk)
  have K8 : Kept (Dq pb vb kb lv0 fv) w w8 := h1.kept.far K (fun k hk => Or.inr (ownsRow_lt h1.row hk).1)
  refine ⟨⟨h1.np.pm.keep K.size (hbk _ (Or.inl rfl)) (hbk _ (Or.inr (Or.inl rfl))) (hbk _ (Or.inr (Or.inr (Or.inl rfl)))) (fun b hb => hbk b (Or.inr (Or.inr (Or.inr hb)))) (fun g c hg hc => K.block g hc.lt (fun e => h1.sep g e hg)), h1.np.low, ownsRow_blk h1.np.row (fun b hb => K.block b (ownsRow_lt h1.np.row hb).2 (fun e => ownsRow_neC h1.np.row h1.row (by decide) hb e)), h1.np.len, h0.parts.step K8 h1.dq⟩, K8, h1.dq, hown, fun k hk e => ?_⟩
  rcases hat with a | a
  · exact h1.sep k (a ▸ hk) e
  · have := a k hk
    have := h1.np.pm.lt k e
    omega
def okB (P : Pb) (fs : List Fm) (ns : List Nat) : Bool := decide (P.lemmas.length ≤ 100000) && (decide (P.vars.length ≤ 2000) && (decide (P.known.length ≤ 100000) && (decide (ns.length ≤ 100) && ns.all fun n => decide (n < fs.length))))
theorem okB_ok {P : Pb} {fs : List Fm} {ns : List Nat} (h : okB P fs ns = true) : (P.lemmas.length ≤ 100000 ∧ P.vars.length ≤ 2000 ∧ P.known.length ≤ 100000) ∧ ns.length ≤ 100 ∧ ∀ n ∈ ns, n < fs.length := by
  simp only [okB, Bool.and_eq_true, decide_eq_true_eq, List.all_eq_true] at h
  exact ⟨⟨h.1, h.2.1, h.2.2.1⟩, h.2.2.2.1, h.2.2.2.2⟩
def AmOk (N : Nat) (fs : List Fm) : Prop := ∀ n, n < fs.length → (Fm.get fs n).am.length ≤ 5 ∧ ∀ a ∈ (Fm.get fs n).am, a.1 ≤ a.2 ∧ a.2 < N
theorem AmOk.fsok {N : Nat} {fs : List Fm} (h : AmOk N fs) {ns : List Nat} (hl : ns.length ≤ 100) (hn : ∀ n ∈ ns, n < fs.length) : FsOk N fs ns := by
  refine ⟨hn, by omega, fun n hn => ⟨by have := (h n hn).1; omega, (h n hn).2⟩, ?_⟩
  have key : ∀ ns : List Nat, (∀ n ∈ ns, n < fs.length) → (ns.flatMap fun n => (Fm.get fs n).am).length ≤ ns.length * 5 := by
    intro ns
    induction ns with
    | nil => intro _; simp
    | cons a r ih =>
      intro hh
      have h1 := ih (fun n hn => hh n (by simp [hn]))
      have h2 := (h a (hh a (by simp))).1
      rw [List.flatMap_cons, List.length_append, List.length_cons]
      omega
  have := key ns hn
  omega
/-- enough, reckoned; what it answers is sorted then. -/
def enoB (l : List Tm) (fs : List Fm) : Nat → Pb → List Nat → Option (List Nat × Pb)
  | 0, _, _ => none
  | f + 1, P, ns => if okB P fs ns then (match mdlN l fs ns 2 P with
    | none => none
    | some (none, Q) => some (ns, Q)
    | some (some told, Q) => if fstF l told fs < fs.length then enoB l fs f Q (ns ++ [fstF l told fs]) else none) else none
def corB (l : List Tm) (fs : List Fm) : List Nat → Pb → List Nat → Option (List Nat × Pb)
  | [], P, ns => some (ns, P)
  | x :: xs, P, ns => if okB P fs (neF x ns) && decide (x ∈ ns) then (match mdlN l fs (neF x ns) 2 P with
    | none => none
    | some (none, Q) => corB l fs xs Q (neF x ns)
    | some (some _, Q) => corB l fs xs Q ns) else none
end Go.Proofs.YtlehlgipbhfioaaGreat

namespace Go.Proofs.YtlehlgipbhfioaaGreat
open Go.RowKit Go.Maps

/-- What a problem of a bank keeps to. -/
abbrev PhB (w0 : World) (l : List Tm) (ta : Option Addr) (tc : Nat) : World → Prop := fun W => Below w0.heap.size w0 W ∧ TsAt W (.slice ta l.length tc) l
theorem Np.bel {w0 : World} {l : List Tm} {ta : Option Addr} {tc B : Nat} {S : Nat → Prop} {W : World} {pb vb kb : Nat} {bk tv fv lv : Value} {P : Pb} {N : Nat} {fs : List Fm} {gs : List Sx} (h : Np (PhB w0 l ta tc) B S W pb vb kb bk tv fv lv P N fs gs) : Below w0.heap.size w0 W := (h.parts W (Kept.refl _ _)).2.1
/-- model, reckoned. -/
theorem model_by (w0 : World) (base p : Nat) (ev : Value) (nb fb : Nat) (l : List Tm) (hB : Bk w0 base p ev nb fb l) (hb : Cc.Bd l) (hl : l.length ≤ 150) (ta : Option Addr) (tc : Nat) (fs : List Fm) (gs : List Sx) (ham : AmOk l.length fs) (S : Nat → Prop) (W : World) (pb vb kb : Nat) (fv lv : Value) (P : Pb) (h : Np (PhB w0 l ta tc) w0.heap.size S W pb vb kb (.pointer (some ⟨p, 0, none⟩)) (.slice ta l.length tc) fv lv P l.length fs gs) (hr : VrP P) (hv : HasV fs P) (b0 : Nat) (xa : Option Addr) (xc : Nat) (ns : List Nat) (hx : W.ownsRow b0 3 1 (.slice xa ns.length xc) ns.length (natC ns)) (hok : okB P fs ns = true) (o : Option (List Pr)) (Q : Pb) (hM : mdlN l fs ns 2 P = some (o, Q)) :
    Calls Tryz.prog 22 #[.pointer (some ⟨pb, 0, none⟩), .slice xa ns.length xc] W fun e w' => ∃ S' lv', PmX S W S' w' pb vb kb (.pointer (some ⟨p, 0, none⟩)) (.slice ta l.length tc) fv lv lv' Q ∧ VrP Q ∧ HasV fs Q ∧ MdlAns W l o e w' := by
  obtain ⟨k1, k2, k3⟩ := okB_ok hok
  refine (model_in solveOk S W pb vb kb fv lv P base p ev nb fb l ta tc h.pm hb hl fs xa xc ns (h.env hB hx) (ham.fsok k2 k3) hv hr k1 _ 2 (Nat.le_refl _) (mdlN_ok 2 P _ hM)).mono ?_
  rintro e w' ⟨r, Q', S', lv', hq, X, h1, h2, h3⟩
  cases hq
  exact ⟨S', lv', X, h1, h2, h3⟩

set_option maxRecDepth 100000 in
set_option maxHeartbeats 4000000 in
theorem denough_in (w0 : World) (base p : Nat) (ev : Value) (nb fb : Nat) (l : List Tm) (hB : Bk w0 base p ev nb fb l) (hb : Cc.Bd l) (hl : l.length ≤ 150) (ta : Option Addr) (tc : Nat) (fs : List Fm) (gs : List Sx) (ham : AmOk l.length fs) (hfl : fs.length ≤ 1000) (w : World) (S : Nat → Prop) (pb vb kb : Nat) (fv lv : Value) (P : Pb) (h0 : Np (PhB w0 l ta tc) w0.heap.size S w pb vb kb (.pointer (some ⟨p, 0, none⟩)) (.slice ta l.length tc) fv lv P l.length fs gs) (hr : VrP P) (hv : HasV fs P) (f : Nat) (r : List Nat) (Q : Pb) (hE : enoB l fs f P [] = some (r, Q)) (T : List Nat) (hT : T.Perm r ∧ T.Pairwise (· < ·)) (hr0 : 0 < r.length) :
    Calls Tryz.prog 50 #[.pointer (some ⟨pb, 0, none⟩)] w fun e w' => ∃ v S' lv', e = .returned v ∧ EnI (PhB w0 l ta tc) w0.heap.size w lv S' w' pb vb kb (.pointer (some ⟨p, 0, none⟩)) (.slice ta l.length tc) fv lv' Q l.length fs gs v T ∧ VrP Q ∧ HasV fs Q := by
  have HH : Hid (_ ∧ _ ∧ _ ∧ _ ∧ _ ∧ _) := And.intro hB (And.intro ham (And.intro h0 (And.intro hT (And.intro hr0 (And.intro hb hl)))))
  have H0 : Hid (enoB l fs f P [] = some (r, Q) ∧ EnI (PhB w0 l ta tc) w0.heap.size w lv S w pb vb kb (.pointer (some ⟨p, 0, none⟩)) (.slice ta l.length tc) fv lv P l.length fs gs (.slice none 0 0) [] ∧ VrP P ∧ HasV fs P) := ⟨hE, EnI.start h0, hr, hv⟩
  obtain ⟨i0, hi0, hz0, hz1, hz2⟩ := info_parts infoIntq
  clear hB ham h0 hr hv hE hT hr0
  go_enter Tryz.func50, Tryz.ntmps50
  go_wp2_with fail
  go_loopg [3] f (fun k t3 W => ∃ ns P' S' lv', Hid (enoB l fs k P' ns = some (r, Q) ∧ EnI (PhB w0 l ta tc) w0.heap.size w lv S' W pb vb kb (.pointer (some ⟨p, 0, none⟩)) (.slice ta l.length tc) fv lv' P' l.length fs gs t3 ns ∧ VrP P' ∧ HasV fs P'))
  case atStart => exact ⟨[], P, S, lv, H0⟩
  case round =>
    obtain ⟨ns, P', S', lv', HI⟩ := hrel
    clear H0
    cases gk with
    | zero => exact absurd HI.out.1 (by simp [enoB])
    | succ k =>
    have hen := HI.out.1
    rw [enoB] at hen
    by_cases hok : okB P' fs ns = true
    · rw [if_pos hok] at hen
      obtain ⟨va, vc, hva⟩ := ownsRow_form HI.out.2.1.row
      subst hva
      cases hm : mdlN l fs ns 2 P' with
      | none => rw [hm] at hen; cases hen
      | some res =>
        obtain ⟨o, Q1⟩ := res
        rw [hm] at hen
        have MD := model_by w0 base p ev nb fb l HH.out.1 HH.out.2.2.2.2.2.1 HH.out.2.2.2.2.2.2 ta tc fs gs HH.out.2.1 S' wr pb vb kb fv lv' P' HI.out.2.1.np HI.out.2.2.1 HI.out.2.2.2 _ va vc ns HI.out.2.1.row hok o Q1 hm
        have hnl := (okB_ok hok).2.1
        have HMD : Hid _ := MD
        have HEN : Hid _ := hen
        obtain ⟨nn, hnn⟩ : ∃ n, ns.length = n := ⟨_, rfl⟩
        have HNN : Hid _ := hnn
        rw [hnn] at hnl HMD
        simp only [hnn]
        clear MD hm hok hen hnn
        cases o with
        | none =>
          have hen := HEN.out
          simp only at hen
          cases hen
          have MD2 : Calls Tryz.prog 22 #[.pointer (some ⟨pb, 0, none⟩), .slice va nn vc] wr fun e w' => e = .returned (.tuple #[.slice none 0 0, .bool false]) ∧ Hid (∃ S' lv', EnI (PhB w0 l ta tc) w0.heap.size w lv S' w' pb vb kb (.pointer (some ⟨p, 0, none⟩)) (.slice ta l.length tc) fv lv' Q l.length fs gs (.slice va nn vc) r ∧ VrP Q ∧ HasV fs Q) := by
            refine Calls.mono HMD.out ?_
            rintro e w' ⟨S2, lv2, X, h1, h2, h3⟩
            refine ⟨h3.1 rfl, S2, lv2, ?_, h1, h2⟩
            rw [← HNN.out]
            exact HI.out.2.1.step HI.out.2.1.np.bel.size X
          have HST : Hid (∀ W, (∃ S' lv', EnI (PhB w0 l ta tc) w0.heap.size w lv S' W pb vb kb (.pointer (some ⟨p, 0, none⟩)) (.slice ta l.length tc) fv lv' Q l.length fs gs (.slice va nn vc) r ∧ VrP Q ∧ HasV fs Q) → Calls Tryz.prog 97 #[.slice va nn vc] W fun e w' => e = .returned (.tuple #[]) ∧ Hid (∃ v S' lv', v = .slice va nn vc ∧ EnI (PhB w0 l ta tc) w0.heap.size w lv S' w' pb vb kb (.pointer (some ⟨p, 0, none⟩)) (.slice ta l.length tc) fv lv' Q l.length fs gs v T ∧ VrP Q ∧ HasV fs Q)) := by
            rintro W ⟨S2, lv2, E2, h1, h2⟩
            refine (Sort_nat W w.heap.size (.slice va nn vc) r T (r.length - 1) (by have := HH.out.2.2.2.2.1; omega) (by rw [HNN.out]; omega) E2.row HH.out.2.2.2.1.1 HH.out.2.2.2.1.2).mono ?_
            rintro e w' ⟨rfl, o9, g9⟩
            exact ⟨rfl, _, S2, lv2, rfl, EnI.push HH.out.2.2.1 E2 (Below.refl _ _) o9 g9 (Or.inl rfl), h1, h2⟩
          clear HMD HEN HI
          go_wp2_with (first | (go_at_call 22; refine MD2.mono ?_; rintro e w5 ⟨rfl, H5⟩) | (go_at_call 97; refine (HST.out _ H5.out).mono ?_; rintro e w6 ⟨rfl, H6⟩))
          obtain ⟨v6, S6, lv6, rfl, E6⟩ := H6.out
          go_ret
          exact ⟨_, S6, lv6, rfl, E6⟩
        | some told =>
          have hen := HEN.out
          simp only at hen
          by_cases hx : fstF l told fs < fs.length
          · rw [if_pos hx] at hen
            have MD2 : Calls Tryz.prog 22 #[.pointer (some ⟨pb, 0, none⟩), .slice va nn vc] wr fun e w' => ∃ cb, e = .returned (.tuple #[.slice (some ⟨cb, 0, none⟩) l.length l.length, .bool true]) ∧ Hid (ClM w' cb l.length (cgN l told) ∧ ∃ S' lv', EnI (PhB w0 l ta tc) w0.heap.size w lv S' w' pb vb kb (.pointer (some ⟨p, 0, none⟩)) (.slice ta l.length tc) fv lv' Q1 l.length fs gs (.slice va nn vc) ns ∧ VrP Q1 ∧ HasV fs Q1) := by
              refine Calls.mono HMD.out ?_
              rintro e w' ⟨S2, lv2, X, h1, h2, h3⟩
              obtain ⟨cb, g, rfl, _, hrow, hg⟩ := h3.2 told rfl
              refine ⟨cb, rfl, ⟨g, hrow, hg⟩, S2, lv2, ?_, h1, h2⟩
              rw [← HNN.out]
              exact HI.out.2.1.step HI.out.2.1.np.bel.size X
            have HFF : Hid (∀ W cb, (ClM W cb l.length (cgN l told) ∧ ∃ S' lv', EnI (PhB w0 l ta tc) w0.heap.size w lv S' W pb vb kb (.pointer (some ⟨p, 0, none⟩)) (.slice ta l.length tc) fv lv' Q1 l.length fs gs (.slice va nn vc) ns ∧ VrP Q1 ∧ HasV fs Q1) → Calls Tryz.prog 98 #[.pointer (some ⟨pb, 0, none⟩), .slice (some ⟨cb, 0, none⟩) l.length l.length] W fun e w' => e = .returned (.int .i64 ((fstF l told fs : Nat) : Int)) ∧ Hid (∃ S' lv', EnI (PhB w0 l ta tc) w0.heap.size w lv S' w' pb vb kb (.pointer (some ⟨p, 0, none⟩)) (.slice ta l.length tc) fv lv' Q1 l.length fs gs (.slice va nn vc) ns ∧ VrP Q1 ∧ HasV fs Q1)) := by
              rintro W cb ⟨C, S2, lv2, E2, h1, h2⟩
              obtain ⟨fa, fc, hfv⟩ := ownsRow_form E2.np.row
              have c2 : W.cell? ⟨pb, 2, none⟩ = some fv := E2.np.pm.cells.cell (i := 2) (by omega)
              have hfm := E2.np.fms W (Kept.refl _ _)
              rw [hfv, E2.np.len] at c2 hfm
              refine (firstFalse_in W pb cb l.length (cgN l told) C (by have := HH.out.2.2.2.2.2.2; omega) fa fc fs c2 hfm (by omega) hx).mono ?_
              rintro e w' ⟨rfl, B9⟩
              exact ⟨rfl, S2, lv2, E2.below B9, h1, h2⟩
            have HEN2 : Hid _ := hen
            clear HMD HEN HI hen hx
            generalize fstF l told fs = q at *
            go_wp2_with (first | (go_at_call 22; refine MD2.mono ?_; rintro e w5 ⟨cb, rfl, H5⟩) | (go_at_call 98; refine (HFF.out _ _ H5.out).mono ?_; rintro e w6 ⟨rfl, H6⟩; refine Aside.out ?_))
            delta Aside
            obtain ⟨S6, lv6, E6, h1, h2⟩ := H6.out
            have row6 := E6.row
            rw [HNN.out] at row6
            have hzw := E6.kept.size
            have HE6 : Hid (_ ∧ _ ∧ _) := And.intro E6 (And.intro h1 h2)
            clear E6 h1 h2 H6 H5 MD2 HFF
            apply_assumption
            go_wp2_with (first | (at_builtin; refine Aside.out ?_))
            delta Aside
            refine wpList_append_own_at _ rfl _ _ 39 rfl w.heap.size 3 i0 _ 1 8 Tryz.underlying39 hi0 hz0 hz1 hz2 rfl (by decide) _ _ _ rfl (row6.alloc _) ⟨_, 0, none⟩ 1 1 [.int .i64 (q : Int)] rfl rfl (cell_oneV w6 _ _) (by simp [Value.oneCell']) (by unfold maxLen; omega) (by omega) (Nat.le_trans hzw (by simp)) ?_
            intro v8 w8 hown8 hgrow8 _ hat8
            have HF : Hid (∃ S' lv', enoB l fs k Q1 (ns ++ [q]) = some (r, Q) ∧ EnI (PhB w0 l ta tc) w0.heap.size w lv S' w8 pb vb kb (.pointer (some ⟨p, 0, none⟩)) (.slice ta l.length tc) fv lv' Q1 l.length fs gs v8 (ns ++ [q]) ∧ VrP Q1 ∧ HasV fs Q1) := by
              have e1 : natC (ns ++ [q]) = natC ns ++ [.int .i64 (q : Int)] := by simp [natC]
              refine ⟨S6, lv6, HEN2.out, EnI.push HH.out.2.2.1 HE6.out.1 ((Below.refl _ _).alloc (Nat.le_refl _) _) ?_ hgrow8 (hat8.imp id (fun e k hk => by rw [e] at hk; cases hk; exact Nat.le_refl _)), HE6.out.2⟩
              rw [e1, List.length_append, HNN.out]
              exact hown8
            clear hown8 hgrow8 hat8 row6 HE6 HEN2
            go_wp2_with fail
            go_roundg k
            obtain ⟨S8, lv8, F8⟩ := HF.out
            exact ⟨_, _, S8, lv8, F8⟩
            exact Nat.lt_succ_self k
          · rw [if_neg hx] at hen
            cases hen
    · rw [if_neg hok] at hen
      cases hen
end Go.Proofs.YtlehlgipbhfioaaGreat
