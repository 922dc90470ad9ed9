/- Package decide: newProblem. Package decide: Decide, where there is a model. Package decide: firstFalse. Package decide: without: Clone, IndexFunc, DeleteFunc at numbers. Package decide: rows of Forms. Package decide: enough: what it works on. Package decide: Follows. Package decide: enough. Package decide: core. Package decide: Decide, where there is none. law07: alive, plainly. law07: equalities, plainly. law07: alive: Parse. law07: DecideEqualities, its loop. -/
import Derived.Test.YtlehlgipbhfioaaGreatDeU
import Derived.Test.YtlehlgipbhfioaaGreatP52
import Derived.Test.YtlehlgipbhfioaaGreatP49
import Derived.Test.YtlehlgipbhfioaaGreatP27
import Derived.Test.YtlehlgipbhfioaaGreatP32
import Derived.Test.YtlehlgipbhfioaaGreatP47
import Derived.Test.YtlehlgipbhfioaaGreatP25
import Derived.Test.YtlehlgipbhfioaaGreatP05
import Derived.Test.YtlehlgipbhfioaaGreatP50
import Derived.KernelRfl
import Derived.Test.YtlehlgipbhfioaaGreatP41
namespace Go.Proofs.YtlehlgipbhfioaaGreat
open Go.RowKit Go.Maps

theorem FsM.below {W W' : World} {pa : Option Addr} {fos : List Fo} (h : FsM W pa fos) (hB : Below W.heap.size W W') : FsM W' pa fos := by
  intro i f hi
  obtain ⟨b, off, op, x, y, ka, kn, kc, e, ⟨c0, c1, c2, c3⟩, hf⟩ := h i f hi
  have g : ∀ {a : Addr} {u : Value}, W.cell? a = some u → W'.cell? a = some u := fun hc => (hB.cell (World.block_lt_of_cell? W _ hc)).trans hc
  exact ⟨b, off, op, x, y, ka, kn, kc, e, ⟨g c0, g c1, g c2, g c3⟩, hf.keep hB⟩
theorem Np.below {Φ : World → Prop} {B : Nat} {S : Nat → Prop} {W W' : World} {pb vb kb : Nat} {bk tv fv lv : Value} {P : Pb} {N : Nat} {fs : List Fm} {gs : List Sx} (h : Np Φ B S W pb vb kb bk tv fv lv P N fs gs) (hB : Below W.heap.size W W') : Np Φ B S W' pb vb kb bk tv fv lv P N fs gs :=
  ⟨h.pm.below hB, h.low, ownsRow_below h.row hB, h.len, h.parts.step ((Kept.refl _ W).under hB) (fun _ e => Or.inl e)⟩
/-- A problem that is new. -/
theorem Tl.start (w : World) (bk : Value) (l : List Tm) : Tl w (((w.alloc (.map #[] 0)).alloc (.map #[] 0)).alloc (.cells #[bk, .slice none 0 0, .slice none 0 0, .map (some w.heap.size), .int .i64 0, .slice none 0 0, .map (some (w.heap.size + 1))] 118)) (w.heap.size + 1 + 1) w.heap.size (w.heap.size + 1) bk (.slice none 0 0) l 0 := by
  have hB1 : Below w.heap.size w (((w.alloc (.map #[] 0)).alloc (.map #[] 0)).alloc (.cells #[bk, .slice none 0 0, .slice none 0 0, .map (some w.heap.size), .int .i64 0, .slice none 0 0, .map (some (w.heap.size + 1))] 118)) := (((Below.refl _ _).alloc (Nat.le_refl _) _).alloc (by simp) _).alloc (by simp; omega) _
  have v0 := VrIs.new w
  have k0 := KnIs.new (w.alloc (.map #[] 0))
  have R := made_row ((w.alloc (.map #[] 0)).alloc (.map #[] 0)) #[bk, .slice none 0 0, .slice none 0 0, .map (some w.heap.size), .int .i64 0, .slice none 0 0, .map (some (w.heap.size + 1))] 118
  have z1 : (w.alloc (.map #[] 0)).heap.size = w.heap.size + 1 := by simp
  have z2 : ((w.alloc (.map #[] 0)).alloc (.map #[] 0)).heap.size = w.heap.size + 1 + 1 := by simp
  rw [z1] at k0
  rw [z2] at R
  refine ⟨⟨R.congr (fun j hj => ?_), (v0.keep (heap_alloc_old _ _ (by simp))).keep (heap_alloc_old _ _ (by simp; omega)), k0.keep (heap_alloc_old _ _ (by simp)), by omega, fun k hk => hk.elim, [], ⟨rfl, Or.inl ⟨rfl, rfl⟩⟩, rfl, fun i c hi => by simp [pb0] at hi⟩, by omega, hB1, [], ⟨rfl, Or.inl ⟨rfl, rfl⟩⟩, fun j t hj => by omega⟩
  have : j = 0 ∨ j = 1 ∨ j = 2 ∨ j = 3 ∨ j = 4 ∨ j = 5 ∨ j = 6 := by simp at hj; omega
  rcases this with rfl | rfl | rfl | rfl | rfl | rfl | rfl <;> rfl

set_option maxRecDepth 100000 in
set_option maxHeartbeats 4000000 in
theorem newProblem_in (w : World) (base p : Nat) (ev : Value) (nb fb : Nat) (l : List Tm) (h : Bk w base p ev nb fb l) (hl : l.length ≤ 1000) (pa : Option Addr) (pc : Nat) (fos : List Fo) (hF : FsM w pa fos) (hok : FosOk l.length fos) :
    Calls Tryz.prog 21 #[.pointer (some ⟨p, 0, none⟩), .slice pa fos.length pc] w (NewPost w p l fos) := by
  have HT0 : Hid _ := Tl.start w (.pointer (some ⟨p, 0, none⟩)) l
  have HH : Hid (_ ∧ _ ∧ _) := And.intro h (And.intro hF hok)
  have hB1 : Below w.heap.size w (((w.alloc (.map #[] 0)).alloc (.map #[] 0)).alloc (.cells #[.pointer (some ⟨p, 0, none⟩), .slice none 0 0, .slice none 0 0, .map (some w.heap.size), .int .i64 0, .slice none 0 0, .map (some (w.heap.size + 1))] 118)) := (((Below.refl _ _).alloc (Nat.le_refl _) _).alloc (by simp) _).alloc (by simp; omega) _
  have SZ := size_in _ base p ev nb fb l (h.below h.low hB1)
  have hfl := hok.few
  obtain ⟨nf, hnf⟩ : ∃ n, fos.length = n := ⟨_, rfl⟩
  have HNF : Hid _ := hnf
  rw [hnf] at hfl ⊢
  clear h hF hok hB1 hnf
  obtain ⟨i0, hi0, hz0, hz1, hz2⟩ := info_parts infoTerm
  have hmm := @run_makeMap Tryz.prog
  go_enter Tryz.func21, Tryz.ntmps21
  go_wp2_with (first | (go_at_call 35; refine SZ.mono ?_; rintro e w9 ⟨rfl, rfl⟩))
  clear SZ hmm
  generalize ((w.alloc (.map #[] 0)).alloc (.map #[] 0)).alloc (.cells #[.pointer (some ⟨p, 0, none⟩), .slice none 0 0, .slice none 0 0, .map (some w.heap.size), .int .i64 0, .slice none 0 0, .map (some (w.heap.size + 1))] 118) = w1 at *
  obtain ⟨pb, hpb⟩ : ∃ b, w.heap.size + 1 + 1 = b := ⟨_, rfl⟩
  obtain ⟨kb, hkb⟩ : ∃ b, w.heap.size + 1 = b := ⟨_, rfl⟩
  obtain ⟨vb, hvb⟩ : ∃ b, w.heap.size = b := ⟨_, rfl⟩
  have HT1 : Hid (Tl w w1 pb vb kb (.pointer (some ⟨p, 0, none⟩)) (.slice none 0 0) l 0) := by
    rw [← hpb, ← hkb, ← hvb]
    exact HT0.out
  simp only [hpb]
  clear HT0 hpb hkb hvb
  obtain ⟨ln, hln⟩ : ∃ n, l.length = n := ⟨_, rfl⟩
  have HLN : Hid _ := hln
  simp only [hln]
  rw [hln] at hl
  clear hln
  go_loopw [18] (fun t18 W => ∃ (i : Nat) (tv : Value), i ≤ ln ∧ t18 = .int .i64 (i : Int) ∧ Hid (Tl w W pb vb kb (.pointer (some ⟨p, 0, none⟩)) tv l i)) (fun t18 _ => ln - (intOf t18).toNat)
  case atStart => exact ⟨0, _, Nat.zero_le _, rfl, HT1⟩
  case round =>
    obtain ⟨i, tv, hi, rfl, HJ⟩ := hrel
    clear HT1
    by_cases hlt : i < ln
    · have di : decide ((i : Int) < (ln : Int)) = true := decide_eq_true (by omega)
      have hwi : IntKind.i64.wrap ((i : Int) + 1) = (i : Int) + 1 := wrap_nat1 (by omega)
      have ht : l[i]? = some (l[i]'(by rw [HLN.out]; exact hlt)) := List.getElem?_eq_getElem _
      generalize l[i]'(by rw [HLN.out]; exact hlt) = t at ht
      have TS := term_some wr base p ev nb fb l (HH.out.1.below HH.out.1.low HJ.out.bel) i t ht
      obtain ⟨xs, hx⟩ := HJ.out.row
      obtain ⟨ta, tc, htv⟩ := ownsRow_form hx.1
      subst htv
      have hget : Hid (∀ W, Below wr.heap.size wr W → W.cell? ⟨pb, 1, none⟩ = some (.slice ta i tc)) := fun W hB => by
        have := (HJ.out.below hB).pm.cells.cell (i := 1) (by omega)
        exact this
      go_wp2_with (first | (go_at_call 36; refine TS.mono ?_; rintro e w5 ⟨v, rfl, O5, B5⟩; refine Aside.out ?_))
      delta Aside
      have B6 : Below wr.heap.size wr (w5.alloc (.cells #[.string t.name, v] 102)) := B5.trans (((Below.refl _ _).alloc (Nat.le_refl _) _).mono B5.size)
      have T6 := HJ.out.below B6
      have c1 := hget.out _ B6
      have O6 := ownsRow_below O5 ((Below.refl _ w5).alloc (Nat.le_refl _) (.cells #[.string t.name, v] 102))
      have y0 : (w5.alloc (.cells #[.string t.name, v] 102)).cell? ⟨w5.heap.size, 0, none⟩ = some (.string t.name) := by simp
      have y1 : (w5.alloc (.cells #[.string t.name, v] 102)).cell? ⟨w5.heap.size, 1, none⟩ = some v := by simp
      have ro6 : Hid ((w5.alloc (.cells #[.string t.name, v] 102)).ownsRow w.heap.size 102 2 (.slice ta i tc) i xs ∧ _ ∧ _ ∧ _) := And.intro (ownsRow_below hx.1 B6) (And.intro O6 (And.intro T6 (And.intro hx HJ.out)))
      obtain ⟨vva, vvc, hvv⟩ := ownsRow_form O5
      subst hvv
      clear T6 O6 O5 hx HJ hget TS
      apply_assumption
      go_wp2_with fail
      have z6 := B6.size
      have zb : w.heap.size ≤ wr.heap.size := ro6.out.2.2.2.2.bel.size
      have HB6 : Hid _ := B6
      clear B5 B6
      generalize w5.alloc (.cells #[.string t.name, .slice vva t.args.length vvc] 102) = w6 at *
      have c1a : ∀ O, (w6.alloc O).cell? ⟨pb, 1, none⟩ = some (.slice ta i tc) := fun O => Lib.cell?_alloc_some _ c1
      have HPU : Hid (∀ (w8 : World) (v8 : Value), w8.ownsRow w.heap.size 102 2 v8 (i + 1) (xs ++ [.string t.name, .slice vva t.args.length vvc]) → (w6.alloc (.cells #[.string t.name, .slice vva t.args.length vvc] 102)).drew.grownBy w8 (Value.slice ta i tc).ownBlock → (v8.ownBlock = (Value.slice ta i tc).ownBlock ∨ ∀ k, v8.ownBlock = some k → (w6.alloc (.cells #[.string t.name, .slice vva t.args.length vvc] 102)).drew.heap.size ≤ k) →
          w8.cell? ⟨pb, 1, none⟩ = some (.slice ta i tc) ∧ w8.frozen? ⟨pb, 1, none⟩ = false ∧ Tl w (w8.setCell ⟨pb, 1, none⟩ v8) pb vb kb (.pointer (some ⟨p, 0, none⟩)) v8 l (i + 1)) := fun w8 v8 o8 g8 l8 => by
        have b7 := below_ad w6 (.cells #[.string t.name, .slice vva t.args.length vvc] 102)
        exact ro6.out.2.2.2.2.push ht (HB6.out.trans (b7.mono HB6.out.size)) ro6.out.2.2.2.1 (ownsRow_below ro6.out.2.1 b7) o8 g8 l8
      have rowt := ro6.out.1
      generalize w5.heap.size = x5 at *
      clear ro6 HB6 ht
      have hz6 : w.heap.size ≤ w6.heap.size := by omega
      go_region_law (first | (refine step_append_here rfl (.tmp 31) (.tmp 33) 59 rfl w.heap.size 102 i0 _ 2 40 Tryz.underlying59 hi0 hz0 hz1 hz2 rfl (by decide) (.slice ta i tc) i xs (by rfl) (by exact World.ownsRow.alloc rowt _) ⟨w6.heap.size, 0, none⟩ 1 1 [.string t.name, .slice vva t.args.length vvc] (by rfl) rfl (cell_two w6 _ _ _) (by simp [Value.oneCell']) (by unfold maxLen; omega) (by omega) (by simp; omega) ?_; intro v8 w8 hown8 hgrow8 hloc8; obtain ⟨b8, k8, hv8⟩ := ownsRow_succ hown8; obtain ⟨d1, d2, d3⟩ := HPU.out w8 v8 hown8 hgrow8 hloc8; have HF : Hid _ := d3; subst hv8; clear hown8 hgrow8 hloc8 d3))
      all_goals
        try simp only [Act.put, List.getElem_toArray, List.getElem_cons_succ, List.getElem_cons_zero, List.setIfInBounds_toArray, List.set_cons_succ, List.set_cons_zero]
        go_wp2_with fail
        exact ⟨⟨i + 1, _, hlt, by simp, HF⟩, by simp [intOf]; omega⟩
    · have di : decide ((i : Int) < (ln : Int)) = false := decide_eq_false (by omega)
      obtain rfl : i = ln := by omega
      have hT := HJ.out
      rw [← HLN.out] at hT
      obtain ⟨ta, tc, rfl, NP⟩ := hT.np
      have HN0 : Hid (∃ (S : Nat → Prop) (fv lv : Value) (gs : List Sx), Np (fun W => Below w.heap.size w W ∧ TsAt W (.slice ta l.length tc) l) w.heap.size S wr pb vb kb (.pointer (some ⟨p, 0, none⟩)) (.slice ta l.length tc) fv lv (Pb.adds l.length (fos.take 0) pb0 []).1 l.length (Pb.adds l.length (fos.take 0) pb0 []).2 gs) := ⟨_, _, _, _, NP⟩
      clear HJ hT NP
      go_wp2_with fail
      go_loopw [40] (fun t40 W => ∃ j : Nat, j ≤ nf ∧ t40 = .int .i64 (j : Int) ∧ Hid (∃ (S : Nat → Prop) (fv lv : Value) (gs : List Sx), Np (fun W => Below w.heap.size w W ∧ TsAt W (.slice ta l.length tc) l) w.heap.size S W pb vb kb (.pointer (some ⟨p, 0, none⟩)) (.slice ta l.length tc) fv lv (Pb.adds l.length (fos.take j) pb0 []).1 l.length (Pb.adds l.length (fos.take j) pb0 []).2 gs)) (fun t40 _ => nf - (intOf t40).toNat)
      case atStart => exact ⟨0, Nat.zero_le _, rfl, HN0⟩
      case round =>
        obtain ⟨j, hj, rfl, HK⟩ := hrel
        clear HN0
        by_cases hjl : j < nf
        · have dj : decide ((j : Int) < (nf : Int)) = true := decide_eq_true (by omega)
          have hwj : IntKind.i64.wrap ((j : Int) + 1) = (j : Int) + 1 := wrap_nat1 (by omega)
          obtain ⟨S, fv, lv, gs, NP⟩ := HK.out
          have hjf : j < fos.length := by rw [HNF.out]; exact hjl
          have hge := List.getElem?_eq_getElem hjf
          have hbl : Below w.heap.size w wr := (NP.parts wr (Kept.refl _ _)).2.1
          obtain ⟨b, off, op, x, y, ka, kn, kc, e, ⟨c0, c1, c2, c3⟩, hf⟩ := HH.out.2.1 j _ hge
          subst e
          obtain ⟨o1, o2, o3, o4⟩ := HH.out.2.2.each _ (List.getElem_mem hjf)
          have hsu : Pb.adds l.length (fos.take (j + 1)) pb0 [] = ((Pb.adds l.length (fos.take j) pb0 []).1.addF fos[j], (Pb.adds l.length (fos.take j) pb0 []).2 ++ [fmOf l.length (Pb.adds l.length (fos.take j) pb0 []).1 fos[j]]) := by
            rw [List.take_add_one, hge, Option.toList_some, adds_snoc]
          obtain ⟨s1, s2, s3, s4⟩ := HH.out.2.2.small j (by omega)
          have hB1 : Below wr.heap.size wr (wr.alloc (.cells #[.int .i64 op, .int .i64 x, .int .i64 y, .slice ka kn kc] 36)) := (Below.refl _ _).alloc (Nat.le_refl _) _
          have NP1 := NP.below hB1
          have hgs : gs.length ≤ 1000000 := by
            rw [NP.len, adds_len, List.length_take]
            simp
            omega
          have AD := dadd_in _ _ S _ pb vb kb _ _ fv lv _ l.length _ gs NP1 (Nat.le_trans hbl.size hB1.size) op x y ka kn kc fos[j] (fun W' K => hf.keep (NP1.parts W' K).2.1) o1 o2 o3 o4 s1 ⟨s2, s3, s4⟩ hgs
          have g : ∀ {a : Addr} {u : Value}, w.cell? a = some u → wr.cell? a = some u := fun hc => (hbl.cell (World.block_lt_of_cell? w _ hc)).trans hc
          have c0 := g c0
          have c1 := g c1
          have c2 := g c2
          have c3 := g c3
          have HSU : Hid _ := hsu
          have HAD : Hid _ := AD
          clear NP NP1 HK hf o1 o2 o3 o4 s1 s2 s3 s4 hsu hge hbl hB1 AD g hgs
          go_wp2_with (first | (go_at_call 43; refine Calls.mono HAD.out ?_; rintro e w9 ⟨rfl, z9, S9, fv9, lv9, gs9, N9⟩))
          refine ⟨⟨j + 1, hjl, by simp, ?_⟩, by simp [intOf]; omega⟩
          rw [HSU.out]
          exact ⟨S9, fv9, lv9, gs9, N9⟩
        · have dj : decide ((j : Int) < (nf : Int)) = false := decide_eq_false (by omega)
          obtain rfl : j = nf := by omega
          obtain ⟨S, fv, lv, gs, NP⟩ := HK.out
          rw [List.take_of_length_le (by rw [HNF.out]; exact Nat.le_refl _)] at NP
          have HN : Hid _ := NP
          clear NP HK
          go_wp2_with fail
          go_ret
          exact ⟨pb, vb, kb, ta, tc, fv, lv, S, gs, rfl, HN.out⟩
end Go.Proofs.YtlehlgipbhfioaaGreat

namespace Go.Proofs.YtlehlgipbhfioaaGreat
open Go.RowKit Go.Maps

theorem Np.step {Φ : World → Prop} {B : Nat} {S S' : Nat → Prop} {W W' : World} {pb vb kb : Nat} {bk tv fv lv lv' : Value} {P Q : Pb} {N : Nat} {fs : List Fm} {gs : List Sx} (h : Np Φ B S W pb vb kb bk tv fv lv P N fs gs) (hB : B ≤ W.heap.size) (x : PmX S W S' W' pb vb kb bk tv fv lv lv' Q) : Np Φ B S' W' pb vb kb bk tv fv lv' Q N fs gs := by
  have hD : ∀ k, Dq pb vb kb lv' fv k → Dq pb vb kb lv fv k ∨ W.heap.size ≤ k := by
    rintro k ((e | e | e | e) | e)
    · exact Or.inl (Or.inl (Or.inl e))
    · exact Or.inl (Or.inl (Or.inr (Or.inl e)))
    · exact Or.inl (Or.inl (Or.inr (Or.inr (Or.inl e))))
    · rcases x.at_ with a | a
      · exact Or.inl (Or.inl (Or.inr (Or.inr (Or.inr (a ▸ e)))))
      · exact Or.inr (a k e)
    · exact Or.inl (Or.inr e)
  exact ⟨x.is, fun k hk => (hD k hk).elim (h.low k) (fun e => Nat.le_trans hB e), ownsRow_blk h.row (fun b hb => x.kept.block b (ownsRow_lt h.row hb).2 (h.pm.pdne h.row (by decide) (by decide) hb)), h.len, h.parts.step (x.kept.mono (fun k _ e => Or.inl e)) hD⟩
theorem Np.env {w0 : World} {B : Nat} {S : Nat → Prop} {W : World} {pb vb kb : Nat} {bk fv lv : Value} {P : Pb} {l : List Tm} {ta : Option Addr} {tc : Nat} {fs : List Fm} {gs : List Sx} (h : Np (fun W => Below w0.heap.size w0 W ∧ TsAt W (.slice ta l.length tc) l) B S W pb vb kb bk (.slice ta l.length tc) fv lv P l.length fs gs) {base p : Nat} {ev : Value} {nb fb : Nat} (hB : Bk w0 base p ev nb fb l) {b0 : Nat} {xa : Option Addr} {xc : Nat} {ns : List Nat} (hx : W.ownsRow b0 3 1 (.slice xa ns.length xc) ns.length (ns.map i64)) : ∀ W', Kept (PD pb vb kb lv) W W' → Env W' base p ev nb fb l ta tc fv fs xa xc ns := by
  intro W' K
  obtain ⟨q1, q2, q3⟩ := h.parts W' (K.mono fun k _ e => Or.inl e)
  exact ⟨hB.below hB.low q2, q3, h.fms W' K, NsAt.of_rowI (ownsRow_blk hx (fun b hb => K.block b (ownsRow_lt hx hb).2 (h.pm.pdne hx (by decide) (by decide) hb)))⟩
theorem RowN.own {W : World} {g : Nat} {xs : List Nat} (h : RowN W g xs) (hl : xs.length ≤ 1000000) : W.ownsRow 0 3 1 (.slice (some ⟨g, 0, none⟩) xs.length xs.length) xs.length (xs.map i64) := by
  exact ⟨by simp, Or.inr ⟨g, xs.length, _, rfl, Nat.zero_le _, h, Nat.le_refl _, by unfold maxLen; omega, by simp, by simp only [Nat.mul_one]; exact List.take_of_length_le (by simp)⟩⟩
theorem SlF.fsm {w : World} {N : Nat} {pa : Option Addr} {n pc : Nat} {ks : List Lf} (h : SlF w N (.slice pa n pc) ks) : FsM w pa (ks.map Lf.er) := by
  intro i f hi
  rw [List.getElem?_map] at hi
  cases hk : ks[i]? with
  | none => rw [hk] at hi; cases hi
  | some k =>
    rw [hk] at hi
    cases hi
    obtain ⟨a, cap, e, _, hz⟩ := h.1
    cases e
    rcases hz with e | ⟨kb, ko, rfl, hz⟩
    · rw [e] at hk; cases hk
    · obtain ⟨h1, h2⟩ := hz i k hk
      obtain ⟨hh, _⟩ := h.2 k (List.mem_of_getElem? hk)
      obtain ⟨b, o, op, x, y, kv, kids⟩ := k
      cases hh with
      | mk hb hc hkk hkids =>
        obtain ⟨ka, kc, hkv, hk1, hk2⟩ := hkk
        subst hkv
        have h1' : b = kb := h1
        have h2' : o = ko + i * 4 := h2
        subst h1' h2'
        obtain ⟨c, fz, q0, q1, q2, q3, q4, rfl⟩ := hc
        have g : ∀ j u, c[j]? = some u → w.cell? ⟨b, j, none⟩ = some u := fun j u hu => by simp [World.cell?, q0, hu]
        exact ⟨b, ko, op, x, y, ka, kids.length, kc, rfl, ⟨g _ _ q1, g _ _ q2, g _ _ q3, g _ _ q4⟩, op, x, y, _, kids, rfl, ⟨ka, kc, rfl, hk1, hk2⟩, hkids, by rw [Lf.er]⟩
theorem SlF.below {w w' : World} {N : Nat} {v : Value} {ks : List Lf} (h : SlF w N v ks) (hB : Below w.heap.size w w') : SlF w' N v ks :=
  ⟨h.1, fun k hk => ⟨(h.2 k hk).1.keep (fun i _ _ _ hc => (hB.block i (Array.getElem?_eq_some_iff.1 hc).1).trans hc), (h.2 k hk).2⟩⟩
/-- What Decide is asked. -/
structure Asked (w : World) (l : List Tm) (pa : Option Addr) (pc : Nat) (ks : List Lf) (P : Pb) (fs : List Fm) : Prop where
  sl : SlF w l.length (.slice pa ks.length pc) ks
  cost : cS ks ≤ 601
  ok : FosOk l.length (ks.map Lf.er)
  adds : Pb.adds l.length (ks.map Lf.er) pb0 [] = (P, fs)
  fso : FsOk l.length fs (List.range fs.length)
  has : HasV fs P
  vrp : VrP P
  few : P.lemmas.length ≤ 100000 ∧ P.vars.length ≤ 2000 ∧ P.known.length ≤ 100000

set_option maxRecDepth 100000 in
set_option maxHeartbeats 4000000 in
theorem decide_yes (w : World) (base p : Nat) (ev : Value) (nb fb : Nat) (l : List Tm) (hB : Bk w base p ev nb fb l) (hb : Cc.Bd l) (hl : l.length ≤ 150) (pa : Option Addr) (pc : Nat) (ks : List Lf) (P : Pb) (fs : List Fm) (hA : Asked w l pa pc ks P fs) (f : Nat) (hf : f ≤ 2) (hM : MdlT l fs (List.range fs.length) (fun r _ => ∃ t, r = some t) f P) :
    Calls Tryz.prog 8 #[.pointer (some ⟨p, 0, none⟩), .slice pa ks.length pc] w fun e w' => ∃ ca cn cc, e = .returned (.tuple #[.agg #[.bool true, .slice ca cn cc, .slice none 0 0], .int .i64 0]) ∧ Below w.heap.size w w' := by
  have hB0 : Below w.heap.size w (w.alloc (.cells #[.bool false, .slice none 0 0, .slice none 0 0] 41)) := (Below.refl _ _).alloc (Nat.le_refl _) _
  have CK := check_by (w.alloc (.cells #[.bool false, .slice none 0 0, .slice none 0 0] 41)) (.pointer (some ⟨p, 0, none⟩)) pa ks.length pc true false (areFormulas_in _ base p ev nb fb l (hB.below hB.low hB0) pa ks.length pc ks (hA.sl.below hB0) (by have := hA.cost; omega)) (fun W hW => areMany_in W l.length pa pc ks ((hA.sl.below hB0).below hW) hA.cost)
  have HH : Hid (_ ∧ _ ∧ _) := And.intro hB (And.intro hA hM)
  have HB0 : Hid _ := hB0
  have hRA := made_row w #[.bool false, .slice none 0 0, .slice none 0 0] 41
  have HRA : Hid _ := hRA
  have hkl : ks.length ≤ 600 := by
    have h1 := sum_cF ks
    have h2 := hA.cost
    unfold cS at h2
    omega
  clear hB hA hM hB0 hRA
  go_enter Tryz.func8, Tryz.ntmps8
  go_wp2_with (first | (go_at_call 20; refine CK.mono ?_; rintro e w1 ⟨rfl, B1⟩; refine Aside.out ?_))
  delta Aside
  have hB1 : Below w.heap.size w w1 := HB0.out.trans (B1.mono HB0.out.size)
  have hBk1 := HH.out.1.below HH.out.1.low hB1
  have NW := newProblem_in w1 base p ev nb fb l hBk1 (by omega) pa pc _ ((HH.out.2.1.sl.below hB1).fsm) HH.out.2.1.ok
  rw [List.length_map] at NW
  have ck0 : chkE true false = 0 := rfl
  have hR1 := World.rowIs.of_block HRA.out (B1.block _ (by simp))
  have HR1 : Hid _ := hR1
  have HB1 : Hid (_ ∧ _) := And.intro hB1 hBk1
  have HNW : Hid _ := NW
  simp only [ck0]
  clear CK B1 hB1 hBk1 HRA HB0 NW ck0 hR1
  apply_assumption
  go_wp2_with (first | (go_at_call 21; refine Calls.mono HNW.out ?_; rintro e w2 ⟨pb, vb, kb, ta, tc, fv, lv, S, gs, rfl, N2⟩; refine Aside.out ?_))
  delta Aside
  rw [HH.out.2.1.adds] at N2
  obtain ⟨fa, fc, rfl⟩ := ownsRow_form N2.row
  have hgl : gs.length = fs.length := N2.len
  have c2 : w2.cell? ⟨pb, 2, none⟩ = some (.slice fa gs.length fc) := N2.pm.cells.cell (i := 2) (by omega)
  have hfl : gs.length = ks.length := by
    rw [hgl]
    have := adds_len l.length (ks.map Lf.er) pb0 []
    rw [HH.out.2.1.adds, List.length_map] at this
    simpa using this
  rw [hfl] at c2
  have AL := dall_in w2 pb fa ks.length fc (by omega) c2
  have hfe : fs.length = ks.length := by omega
  have HN2 : Hid (_ ∧ _ ∧ _) := And.intro N2 (And.intro hfl hfe)
  clear HNW N2 hgl hfl hfe c2
  apply_assumption
  go_wp2_with (first | (go_at_call 23; refine AL.mono ?_; rintro e w3 ⟨rfl, R3, B3⟩; refine Aside.out ?_))
  delta Aside
  have N3 := HN2.out.1.below B3
  have R3' := R3.own (by rw [List.length_range]; omega)
  have hE := N3.env HB1.out.2 R3'
  rw [List.length_range] at hE
  have MD := model_in solveOk S w3 pb vb kb _ lv P base p ev nb fb l ta tc N3.pm hb hl fs (some ⟨w2.heap.size, 0, none⟩) ks.length (List.range ks.length) hE (by rw [← HN2.out.2.2]; exact HH.out.2.1.fso) HH.out.2.1.has HH.out.2.1.vrp HH.out.2.1.few (fun r _ => ∃ t, r = some t) f hf (by rw [← HN2.out.2.2]; exact HH.out.2.2)
  rw [List.length_range] at MD
  have MD2 : Calls Tryz.prog 22 #[.pointer (some ⟨pb, 0, none⟩), .slice (some ⟨w2.heap.size, 0, none⟩) ks.length ks.length] w3 fun e w' => ∃ cb, e = .returned (.tuple #[.slice (some ⟨cb, 0, none⟩) l.length l.length, .bool true]) ∧ Hid (Below w.heap.size w w' ∧ w'.rowIs w.heap.size 41 3 (fun i => (#[.bool false, .slice none 0 0, .slice none 0 0] : Array Value)[i]?.getD undef)) := by
    refine MD.mono ?_
    rintro e w4 ⟨r, Q, S', lv', ⟨t, rfl⟩, X4, _, _, _, hans⟩
    obtain ⟨cb, g, rfl, _⟩ := hans t rfl
    have hb23 : Below w1.heap.size w1 w3 := (N3.parts w3 (Kept.refl _ _)).2.1
    have hb34 : Below w1.heap.size w3 w4 := X4.kept.below hb23.size (fun k hk => N3.low k (Or.inl hk))
    have hb14 := hb23.trans hb34
    refine ⟨cb, rfl, HB1.out.1.trans (hb14.mono HB1.out.1.size), World.rowIs.of_block HR1.out (hb14.block _ (World.rowIs.lt HR1.out))⟩
  clear MD hE R3' N3 R3 B3 AL HN2 HR1 HH HB1
  apply_assumption
  go_wp2_with (first | (go_at_call 22; refine MD2.mono ?_; rintro e w4 ⟨cb, rfl, H4⟩; refine Aside.out ?_))
  delta Aside
  have a0 := H4.out.2.cell (i := 0) (by omega)
  have a1 := H4.out.2.cell (i := 1) (by omega)
  have a2 := H4.out.2.cell (i := 2) (by omega)
  have f0 := H4.out.2.frozen 0
  have f1 := H4.out.2.frozen 1
  have f2 := H4.out.2.frozen 2
  simp only [List.getElem?_toArray, List.getElem?_cons_zero, List.getElem?_cons_succ, Option.getD_some] at a0 a1 a2
  clear MD2
  apply_assumption
  go_wp2_with fail
  have R9 := ((H4.out.2.set 0 (.bool true)).set 1 (.slice (some ⟨cb, 0, none⟩) l.length l.length)).set 2 (.slice none 0 0)
  have B9 : Below w.heap.size w (((w4.setCell ⟨w.heap.size, 0, none⟩ (.bool true)).setCell ⟨w.heap.size, 1, none⟩ (.slice (some ⟨cb, 0, none⟩) l.length l.length)).setCell ⟨w.heap.size, 2, none⟩ (.slice none 0 0)) := ((H4.out.1.setCell (p := ⟨w.heap.size, 0, none⟩) (Nat.le_refl _) _).setCell (p := ⟨w.heap.size, 1, none⟩) (Nat.le_refl _) _).setCell (p := ⟨w.heap.size, 2, none⟩) (Nat.le_refl _) _
  generalize (((w4.setCell ⟨w.heap.size, 0, none⟩ (.bool true)).setCell ⟨w.heap.size, 1, none⟩ (.slice (some ⟨cb, 0, none⟩) l.length l.length)).setCell ⟨w.heap.size, 2, none⟩ (.slice none 0 0)) = w9 at *
  have b0 : w9.cell? ⟨w.heap.size, 0, none⟩ = some (.bool true) := R9.cell (i := 0) (by omega)
  have b1 : w9.cell? ⟨w.heap.size, 1, none⟩ = some (.slice (some ⟨cb, 0, none⟩) l.length l.length) := R9.cell (i := 1) (by omega)
  have b2 : w9.cell? ⟨w.heap.size, 2, none⟩ = some (.slice none 0 0) := R9.cell (i := 2) (by omega)
  exact ⟨rfl, .tuple #[.agg #[.bool true, .slice (some ⟨cb, 0, none⟩) l.length l.length, .slice none 0 0], .int .i64 0], by simp [results, Tryz.results8, go_sem, b0, b1, b2], _, _, _, rfl, B9⟩
end Go.Proofs.YtlehlgipbhfioaaGreat

namespace Go.Proofs.YtlehlgipbhfioaaGreat
open Go.RowKit Go.Maps

/-- A model in memory. -/
structure ClM (W : World) (cb N : Nat) (cq : Nat → Nat → Bool) : Prop where
  row : ∃ g : Nat → Nat, W.rowIs cb 3 N (fun i => .int .i64 (g i : Int)) ∧ ∀ i j, i < N → j < N → decide (g i = g j) = cq i j
theorem ClM.below {W W' : World} {cb N : Nat} {cq : Nat → Nat → Bool} (h : ClM W cb N cq) (hB : Below W.heap.size W W') : ClM W' cb N cq := by
  obtain ⟨g, h1, h2⟩ := h.row
  exact ⟨g, h1.of_block (hB.block _ h1.lt), h2⟩
theorem ClM.eval {w : World} {cb N : Nat} {cq : Nat → Nat → Bool} (h : ClM w cb N cq) (hN : N ≤ 1000000) {v : Value} {f : Fo} (hv : FIs w v f) (hs : szF f ≤ 1048576) (hR : RF f) :
    Calls Tryz.prog 91 #[v, .slice (some ⟨cb, 0, none⟩) N N] w fun e w' => e = .returned (.bool (evE N cq f)) ∧ Below w.heap.size w w' := by
  obtain ⟨g, h1, h2⟩ := h.row
  have EV := evalF_in w v f hv (some ⟨cb, 0, none⟩) N N ((List.range N).map fun t => (g t : Int)) (by simp) (by
    by_cases hN0 : N = 0
    · left; rw [hN0]; rfl
    · refine Or.inr ⟨cb, 0, rfl, fun j z hj => ?_⟩
      have hjN : j < N := by have := (List.getElem?_eq_some_iff.1 hj).1; simpa using this
      rw [List.getElem?_map, List.getElem?_range hjN] at hj
      cases hj
      rw [Nat.zero_add]
      exact h1.cell (i := j) hjN) (by omega) (by omega) hR
  rwa [evF_E (n := N) (by simp) (e := cq) (fun a b ha hb => by
    have e1 : ((List.range N).map fun t => (g t : Int))[a]?.getD 0 = (g a : Int) := by simp [ha]
    have e2 : ((List.range N).map fun t => (g t : Int))[b]?.getD 0 = (g b : Int) := by simp [hb]
    rw [← h2 a b ha hb, e1, e2, beq_natI])] at EV

set_option maxRecDepth 100000 in
set_option maxHeartbeats 1000000 in
theorem false1_in (w : World) (cb N : Nat) (cq : Nat → Nat → Bool) (h : ClM w cb N cq) (hN : N ≤ 1000000) (bb : Nat) (hb : w.cell? ⟨bb, 0, none⟩ = some (.slice (some ⟨cb, 0, none⟩) N N)) (op x y : Int) (ka : Option Addr) (kn kc : Nat) (au cu : Value) (f : Fo) (hv : FIs w (.agg #[.int .i64 op, .int .i64 x, .int .i64 y, .slice ka kn kc]) f) (hs : szF f ≤ 1048576) (hR : RF f) :
    Calls Tryz.prog 147 #[.agg #[.int .i64 op, .int .i64 x, .int .i64 y, .slice ka kn kc, au, cu], .pointer (some ⟨bb, 0, none⟩)] w fun e w' => e = .returned (.bool (!evE N cq f)) ∧ Below w.heap.size w w' := by
  have hB0 : Below w.heap.size w (w.alloc (.cells #[.int .i64 op, .int .i64 x, .int .i64 y, .slice ka kn kc, au, cu] 172)) := (Below.refl _ _).alloc (Nat.le_refl _) _
  have EV := (h.below hB0).eval hN (hv.keep hB0) hs hR
  have A0 := made_row w #[.int .i64 op, .int .i64 x, .int .i64 y, .slice ka kn kc, au, cu] 172
  have y0 := A0.cell (i := 0) (by simp)
  have y1 := A0.cell (i := 1) (by simp)
  have y2 := A0.cell (i := 2) (by simp)
  have y3 := A0.cell (i := 3) (by simp)
  have hb2 := (hB0.cell (World.block_lt_of_cell? w _ hb)).trans hb
  have HB0 : Hid _ := hB0
  generalize evE N cq f = r at *
  clear hB0 h hv hs hR A0
  go_enter Tryz.func147, Tryz.ntmps147
  go_wp2_with (first | (go_at_call 91; refine EV.mono ?_; rintro e w1 ⟨rfl, B1⟩))
  go_ret
  exact ⟨rfl, HB0.out.trans (B1.mono HB0.out.size)⟩

set_option maxRecDepth 100000 in
set_option maxHeartbeats 4000000 in
theorem idxF_in (w : World) (cb N : Nat) (cq : Nat → Nat → Bool) (h : ClM w cb N cq) (hN : N ≤ 1000000) (bb : Nat) (hb : w.cell? ⟨bb, 0, none⟩ = some (.slice (some ⟨cb, 0, none⟩) N N)) (fa : Option Addr) (fc : Nat) (fs : List Fm) (hf : FmsAt w N (.slice fa fs.length fc) fs) (hl : fs.length ≤ 1000000) (hx : (fs.findIdx fun f => !f.ev cq) < fs.length) :
    Calls Tryz.prog 146 #[.slice fa fs.length fc, .func (.func 147) #[] #[.pointer (some ⟨bb, 0, none⟩)]] w fun e w' => e = .returned (.int .i64 ((fs.findIdx fun f => !f.ev cq : Nat) : Int)) ∧ Below w.heap.size w w' := by
  have HH : Hid (_ ∧ _ ∧ _ ∧ _) := And.intro h (And.intro hb (And.intro hf hx))
  obtain ⟨n, hn⟩ : ∃ n, fs.length = n := ⟨_, rfl⟩
  have HNN : Hid _ := hn
  rw [hn] at hl ⊢
  clear h hb hf hx hn
  have hB0 : Hid (Below w.heap.size w w) := Below.refl _ _
  go_enter Tryz.func146, Tryz.ntmps146
  go_wp2_with fail
  go_loopw [8] (fun t8 W => ∃ i : Nat, i ≤ n ∧ t8 = .int .i64 (i : Int) ∧ Hid (Below w.heap.size w W) ∧ Hid (∀ j f, j < i → fs[j]? = some f → f.ev cq = true)) (fun t8 _ => n - (intOf t8).toNat)
  case atStart => exact ⟨0, Nat.zero_le _, rfl, hB0, fun j f hj => absurd hj (Nat.not_lt_zero _)⟩
  case round =>
    obtain ⟨i, hi, rfl, HB, HJ⟩ := hrel
    have hil : i < fs.length := by
      by_cases hlt : i < fs.length
      · exact hlt
      · exfalso
        have h9 := List.findIdx_getElem (xs := fs) (p := fun f => !f.ev cq) (w := HH.out.2.2.2)
        have h8 := HJ.out _ _ (Nat.lt_of_lt_of_le HH.out.2.2.2 (by omega)) (List.getElem?_eq_getElem HH.out.2.2.2)
        simp [h8] at h9
    have hlt : i < n := by rw [← HNN.out]; exact hil
    have di : decide ((i : Int) < (n : Int)) = true := decide_eq_true (by omega)
    have hwi : IntKind.i64.wrap ((i : Int) + 1) = (i : Int) + 1 := wrap_nat1 (by omega)
    have hge := List.getElem?_eq_getElem hil
    obtain ⟨a2, c2, e2, hF⟩ := HH.out.2.2.1.below HB.out
    have hF1 := hF i _ hge
    obtain ⟨b, off, ea, op, x, y, ka, kn, kc, au, cu, f, ⟨q0, q1, q2, q3, q4, q5⟩, r1, r2, r3, ⟨ua, uc, rfl, r4⟩, ca, cc, rfl, r5⟩ := hF1
    rw [HNN.out] at e2
    cases e2
    subst ea
    have F1 := false1_in wr cb N cq (HH.out.1.below HB.out) hN bb ((HB.out.cell (World.block_lt_of_cell? w _ HH.out.2.1)).trans HH.out.2.1) op x y ka kn kc (.slice ua fs[i].am.length uc) (.slice ca fs[i].cs.length cc) f r1 r2.1 r2.2
    rw [← r3 cq] at F1
    have HST : Hid (fs[i].ev cq = true → ∀ j f, j < i + 1 → fs[j]? = some f → f.ev cq = true) := fun he j f hj hf => by
      by_cases e : j < i
      · exact HJ.out j f e hf
      · obtain rfl : j = i := by omega
        rw [hge] at hf
        cases hf
        exact he
    have HFD : Hid (fs[i].ev cq = false → (fs.findIdx fun f => !f.ev cq) = i) := fun he => by
      rcases Nat.lt_trichotomy (fs.findIdx fun f => !f.ev cq) i with h | h | h
      · exfalso
        have h9 := List.findIdx_getElem (xs := fs) (p := fun f => !f.ev cq) (w := HH.out.2.2.2)
        have h8 := HJ.out _ _ h (List.getElem?_eq_getElem HH.out.2.2.2)
        simp [h8] at h9
      · exact h
      · have h9 := List.not_of_lt_findIdx (p := fun f => !f.ev cq) (xs := fs) h
        simp [he] at h9
    generalize fs[i].am.length = al at *
    generalize fs[i].cs.length = cl at *
    generalize hev : fs[i].ev cq = r at *
    clear hev r1 r2 r3 r4 r5 hF hge hil HJ
    cases r with
    | true =>
      have HF : Hid _ := HST.out rfl
      clear HST HFD HH
      go_wp2_with (first | (go_at_call 147; refine F1.mono ?_; rintro e w5 ⟨rfl, B5⟩))
      exact ⟨⟨i + 1, hlt, by simp, HB.out.trans (B5.mono HB.out.size), HF⟩, by simp [intOf]; omega⟩
    | false =>
      have HF : Hid _ := HFD.out rfl
      clear HST HFD HH
      go_wp2_with (first | (go_at_call 147; refine F1.mono ?_; rintro e w5 ⟨rfl, B5⟩))
      go_ret
      exact ⟨by rw [HF.out]; rfl, HB.out.trans (B5.mono HB.out.size)⟩

set_option maxRecDepth 100000 in
set_option maxHeartbeats 1000000 in
theorem firstFalse_in (w : World) (pb cb N : Nat) (cq : Nat → Nat → Bool) (h : ClM w cb N cq) (hN : N ≤ 1000000) (fa : Option Addr) (fc : Nat) (fs : List Fm) (c2 : w.cell? ⟨pb, 2, none⟩ = some (.slice fa fs.length fc)) (hf : FmsAt w N (.slice fa fs.length fc) fs) (hl : fs.length ≤ 1000000) (hx : (fs.findIdx fun f => !f.ev cq) < fs.length) :
    Calls Tryz.prog 98 #[.pointer (some ⟨pb, 0, none⟩), .slice (some ⟨cb, 0, none⟩) N N] w fun e w' => e = .returned (.int .i64 ((fs.findIdx fun f => !f.ev cq : Nat) : Int)) ∧ Below w.heap.size w w' := by
  have hB0 : Below w.heap.size w (w.alloc (.cells #[.slice (some ⟨cb, 0, none⟩) N N] 39)) := (Below.refl _ _).alloc (Nat.le_refl _) _
  have IX := idxF_in (w.alloc (.cells #[.slice (some ⟨cb, 0, none⟩) N N] 39)) cb N cq (h.below hB0) hN w.heap.size (by simp) fa fc fs (hf.below hB0) hl hx
  have c2a := (hB0.cell (World.block_lt_of_cell? w _ c2)).trans c2
  have HB0 : Hid _ := hB0
  generalize (fs.findIdx fun f => !f.ev cq) = q at *
  generalize fs.length = n at *
  clear hB0 h hf c2 hx
  go_enter Tryz.func98, Tryz.ntmps98
  go_wp2_with (first | (go_at_call 146; refine IX.mono ?_; rintro e w1 ⟨rfl, B1⟩))
  go_ret
  exact ⟨rfl, HB0.out.trans (B1.mono HB0.out.size)⟩
end Go.Proofs.YtlehlgipbhfioaaGreat

namespace Go.Proofs.YtlehlgipbhfioaaGreat
open Go.RowKit Go.Maps

theorem eqNilI (w : World) (a : Addr) (n c : Nat) : Sem.run Tryz.prog (binOp BinOp.eql 39 (.slice (some a) n c) (.slice none 0 0)) w = .ok (.bool false) w := by kernel_rfl
theorem natC_at {l : List Nat} {i x : Nat} (h : l[i]? = some x) : (natC l)[i]? = some (.int .i64 (x : Int)) := by
  unfold natC
  rw [List.getElem?_map, h]
  rfl

set_option maxRecDepth 100000 in
set_option maxHeartbeats 1000000 in
theorem clone_in (w : World) (b0 : Nat) (v : Value) (ns : List Nat) (hx : w.ownsRow b0 3 1 v ns.length (natC ns)) (h0 : 0 < ns.length) (hn : ns.length ≤ 1000000) :
    Calls Tryz.prog 51 #[v] w fun e w' => ∃ v', e = .returned v' ∧ w'.ownsRow w.heap.size 3 1 v' ns.length (natC ns) ∧ Below w.heap.size w w' := by
  rcases id hx.2 with ⟨_, e0⟩ | ⟨g, cap, cur, rfl, _⟩
  · omega
  obtain ⟨i0, hi0, hz0, hz1, hz2⟩ := info_parts infoIntq
  have hcs : ∀ j u, (natC ns)[j]? = some u → (w.alloc (.cells #[] 3)).cell? ((⟨g, 0, none⟩ : Addr).add j) = some u := fun j u hj => by
    rw [Addr.add_lit, Nat.zero_add]
    have hjl := (List.getElem?_eq_some_iff.1 hj).1
    rw [natC_len] at hjl
    exact Lib.cell?_alloc_some _ (by rw [hx.cellAt j (by omega)]; exact hj)
  have HX : Hid _ := hcs
  have hone : ∀ u ∈ natC ns, u.oneCell' = true := fun u hu => by
    unfold natC at hu
    obtain ⟨x, _, rfl⟩ := List.mem_map.1 hu
    rfl
  have hlen := natC_len ns
  obtain ⟨n, hnn⟩ : ∃ n, ns.length = n := ⟨_, rfl⟩
  have row0 : (w.alloc (.cells #[] 3)).ownsRow w.heap.size 3 1 (.slice (some ⟨w.heap.size, 0, none⟩) 0 0) 0 [] := ⟨rfl, Or.inr ⟨w.heap.size, 0, #[], rfl, Nat.le_refl _, heap_alloc_new _ _, Nat.le_refl _, Nat.zero_le _, rfl, rfl⟩⟩
  rw [hnn] at hx h0 hn hlen ⊢
  have HL : Hid _ := hlen
  have HO : Hid _ := hone
  clear hx hcs hone hlen hnn
  have eqn := eqNilI w ⟨g, 0, none⟩ n cap
  go_enter Tryz.func51, Tryz.ntmps51
  go_wp2_with (first | (at_builtin; refine Aside.out ?_))
  delta Aside
  refine wpList_append_own_at _ rfl _ _ 39 rfl w.heap.size 3 i0 _ 1 8 Tryz.underlying39 hi0 hz0 hz1 hz2 rfl (by decide) _ _ _ rfl row0 ⟨g, 0, none⟩ n cap (natC ns) rfl (by rw [HL.out, Nat.mul_one]) HX.out HO.out (by unfold maxLen; omega) (by omega) (by simp) ?_
  intro v8 w8 hown8 hgrow8 _ hat8
  have B8 : Below w.heap.size w w8 := (Kept.grown ((Kept.refl (fun k => k = w.heap.size) w).alloc _) hgrow8 (fun k e => by cases e; rfl)).below (Nat.le_refl _) (fun k e => by rw [e]; exact Nat.le_refl _)
  have HB8 : Hid (_ ∧ _) := And.intro hown8 B8
  clear hown8 hgrow8 hat8 B8
  go_wp2_with fail
  go_ret
  refine ⟨_, rfl, ?_, HB8.out.2⟩
  have := HB8.out.1
  rwa [Nat.zero_add, List.nil_append] at this

set_option maxRecDepth 100000 in
set_option maxHeartbeats 1000000 in
theorem with1_in (w : World) (nb : Nat) (x : Nat) (h : w.cell? ⟨nb, 0, none⟩ = some (.int .i64 (x : Int))) (m : Nat) :
    Calls Tryz.prog 100 #[.int .i64 (m : Int), .pointer (some ⟨nb, 0, none⟩)] w fun e w' => e = .returned (.bool (decide (m = x))) ∧ w = w' := by
  go_enter Tryz.func100, Tryz.ntmps100
  go_wp2_with fail
  go_ret
  exact ⟨ret_bool (beq_natI m x), rfl⟩

/-- The first place at which a number stands. -/
def idxI (ns : List Nat) (x : Nat) : Int := if ns.idxOf x < ns.length then (ns.idxOf x : Int) else -1

set_option maxRecDepth 100000 in
set_option maxHeartbeats 2000000 in
theorem idxI_in (w : World) (b0 : Nat) (ga : Option Addr) (gc : Nat) (ns : List Nat) (hx : w.ownsRow b0 3 1 (.slice ga ns.length gc) ns.length (natC ns)) (hn : ns.length ≤ 1000000) (nb x : Nat) (h : w.cell? ⟨nb, 0, none⟩ = some (.int .i64 (x : Int))) :
    Calls Tryz.prog 148 #[.slice ga ns.length gc, .func (.func 100) #[] #[.pointer (some ⟨nb, 0, none⟩)]] w fun e w' => e = .returned (.int .i64 (idxI ns x)) ∧ w = w' := by
  have HX : Hid _ := hx
  obtain ⟨n, hnn⟩ : ∃ n, ns.length = n := ⟨_, rfl⟩
  have HN : Hid _ := hnn
  rw [hnn] at hn ⊢
  clear hx hnn
  go_enter Tryz.func148, Tryz.ntmps148
  go_wp2_with fail
  go_loopw [8] (fun t8 W => ∃ i : Nat, i ≤ n ∧ t8 = .int .i64 (i : Int) ∧ W = w ∧ Hid (∀ j, j < i → ns[j]? ≠ some x)) (fun t8 _ => n - (intOf t8).toNat)
  case atStart => exact ⟨0, Nat.zero_le _, rfl, rfl, fun j hj => absurd hj (Nat.not_lt_zero _)⟩
  case round =>
    obtain ⟨i, hi, rfl, rfl, HJ⟩ := hrel
    by_cases hlt : i < n
    · have di : decide ((i : Int) < (n : Int)) = true := decide_eq_true (by omega)
      have hwi : IntKind.i64.wrap ((i : Int) + 1) = (i : Int) + 1 := wrap_nat1 (by omega)
      have hil : i < ns.length := by rw [HN.out]; exact hlt
      have hge := List.getElem?_eq_getElem hil
      have hrow := HX.out
      obtain ⟨g, c, eg, q1⟩ := own_one hrow (natC_at hge)
      cases eg
      have W1 := with1_in wr nb x h ns[i]
      have HST : Hid (ns[i] ≠ x → ∀ j, j < i + 1 → ns[j]? ≠ some x) := fun hne j hj => by
        by_cases e : j < i
        · exact HJ.out j e
        · obtain rfl : j = i := by omega
          rw [hge]
          exact fun e => hne (Option.some.inj e)
      have HFD : Hid (ns[i] = x → idxI ns x = (i : Int)) := fun he => by
        have h1 : ns.idxOf x = i := by
          have hmem : x ∈ ns := he ▸ List.getElem_mem hil
          have hlt2 : ns.idxOf x < ns.length := List.idxOf_lt_length_of_mem hmem
          have hg2 : ns[ns.idxOf x]? = some x := by rw [List.getElem?_eq_getElem hlt2, List.getElem_idxOf]
          rcases Nat.lt_trichotomy (ns.idxOf x) i with h | h | h
          · exact absurd hg2 (HJ.out _ h)
          · exact h
          · have h9 := List.not_of_lt_findIdx (p := (· == x)) (xs := ns) h
            simp [he] at h9
        unfold idxI
        rw [h1, if_pos hil]
      generalize ns[i] = m at *
      clear HJ hrow hge HX
      by_cases hm : m = x
      · rw [decide_eq_true hm] at W1
        have HFE : Hid _ := HFD.out hm
        clear hm
        go_wp2_with (first | (go_at_call 100; refine W1.mono ?_; rintro e w5 ⟨rfl, rfl⟩))
        go_ret
        exact ⟨by rw [HFE.out]; rfl, rfl⟩
      · rw [decide_eq_false hm] at W1
        go_wp2_with (first | (go_at_call 100; refine W1.mono ?_; rintro e w5 ⟨rfl, rfl⟩))
        refine ⟨⟨i + 1, hlt, ?_, ?_, HST.out hm⟩, by simp [intOf]; omega⟩ <;> simp
    · have di : decide ((i : Int) < (n : Int)) = false := decide_eq_false (by omega)
      obtain rfl : i = n := by omega
      have HFN : Hid (idxI ns x = -1) := by
        show _ = _
        unfold idxI
        rw [if_neg]
        intro hlt2
        have hg2 : ns[ns.idxOf x]? = some x := by rw [List.getElem?_eq_getElem hlt2, List.getElem_idxOf]
        exact HJ.out _ (by rw [← HN.out]; exact hlt2) hg2
      clear HJ HX
      go_wp2_with fail
      go_ret
      exact ⟨by rw [HFN.out]; rfl, rfl⟩
theorem zeroInt (w : World) : (zeroValue 3).run Tryz.prog w = .ok (.int .i64 0) w := by kernel_rfl
theorem clear_ints {W : World} {base bb cap n m : Nat} {xs : List Value} (h : W.ownsRow base 3 1 (.slice (some ⟨bb, 0, none⟩) n cap) n xs) (hm : m < n) (ty : TypeId) :
    ∃ W', (Builtin.clear_ #[39] ty #[.slice (some ⟨bb, m, none⟩) (n - m) (cap - m)]).run Tryz.prog W = .ok (.tuple #[]) W' ∧ W'.ownsRow base 3 1 (.slice (some ⟨bb, 0, none⟩) m cap) m (xs.take m) ∧ Kept1 bb W W' := by
  have hc := ownsRow_cut h rfl (Nat.le_of_lt hm)
  rw [Nat.mul_one] at hc
  have hcell : ∀ j, j < n - m → (W.cell? ⟨bb, m + j, none⟩).isSome = true := fun j hj => by
    rw [h.cellAt (m + j) (by omega), List.getElem?_eq_getElem (by rw [h.1]; omega)]
    rfl
  have hr := Lib.run_clear_slice (P := Tryz.prog) W 39 3 ty (.int .i64 0) Tryz.underlying39 zeroInt rfl rfl bb m (n - m) (cap - m) (by omega) hcell (fun j _ => h.frozenAt (m + j))
  obtain ⟨h1, h2⟩ := ownsRow_aboves (List.replicate (n - m) (.int .i64 0)) m W (Nat.le_refl _) hc
  exact ⟨_, hr, h1, h2⟩
def neF (x : Nat) (l : List Nat) : List Nat := l.filter fun m => !decide (m = x)
theorem neF_snoc (x : Nat) (l : List Nat) (m : Nat) : neF x (l ++ [m]) = if m = x then neF x l else neF x l ++ [m] := by
  unfold neF
  rw [List.filter_append]
  by_cases e : m = x <;> simp [e]
/-- DeleteFunc at work: i numbers are kept of the first j. -/
structure DelI (w W : World) (base g cap : Nat) (ns : List Nat) (x i j : Nat) (R : List Nat) : Prop where
  row : W.ownsRow base 3 1 (.slice (some ⟨g, 0, none⟩) ns.length cap) ns.length (natC R)
  kept : Kept (fun k => k = g) w W
  le : i ≤ j
  head : R.take i = neF x (ns.take j)
  tail : R.drop j = ns.drop j
  len : R.length = ns.length
  il : i = (neF x (ns.take j)).length
  lt : i < ns.length
theorem DelI.skip {w W : World} {base g cap : Nat} {ns : List Nat} {x i j : Nat} {R : List Nat} (h : DelI w W base g cap ns x i j R) {m : Nat} (hj : ns[j]? = some m) (hm : m = x) : DelI w W base g cap ns x i (j + 1) R := by
  have e : ns.take (j + 1) = ns.take j ++ [m] := by rw [List.take_add_one, hj]; rfl
  refine ⟨h.row, h.kept, Nat.le_succ_of_le h.le, by rw [e, neF_snoc, if_pos hm]; exact h.head, ?_, h.len, by rw [e, neF_snoc, if_pos hm]; exact h.il, h.lt⟩
  rw [← List.drop_drop, ← List.drop_drop, h.tail]
theorem DelI.take {w W : World} {base g cap : Nat} {ns : List Nat} {x i j : Nat} {R : List Nat} (h : DelI w W base g cap ns x i j R) {m : Nat} (hj : ns[j]? = some m) (hm : m ≠ x) (hx : (neF x (ns.take (j + 1))).length < ns.length) : DelI w (W.setCell ⟨g, i, none⟩ (.int .i64 (m : Int))) base g cap ns x (i + 1) (j + 1) (R.set i m) := by
  have e : ns.take (j + 1) = ns.take j ++ [m] := by rw [List.take_add_one, hj]; rfl
  have hl : neF x (ns.take (j + 1)) = neF x (ns.take j) ++ [m] := by rw [e, neF_snoc, if_neg hm]
  have hjl := (List.getElem?_eq_some_iff.1 hj).1
  have hle := h.le
  have hlen := h.len
  have r2 : (W.setCell ⟨g, i, none⟩ (.int .i64 (m : Int))).ownsRow base 3 1 (.slice (some ⟨g, 0, none⟩) ns.length cap) ns.length (natC (R.set i m)) := by
    have := ownsRow_put h.row (o := i) (.int .i64 (m : Int))
    have e2 : (natC R).set i (.int .i64 (m : Int)) = natC (R.set i m) := by unfold natC; rw [List.map_set]
    rwa [e2] at this
  refine ⟨r2, h.kept.trans (Kept1.set (Kept.refl _ W) i _), by omega, ?_, ?_, by rw [List.length_set]; exact hlen, by rw [hl, List.length_append, ← h.il]; rfl, by rw [hl, List.length_append, ← h.il] at hx; exact hx⟩
  · rw [hl, ← h.head, List.take_add_one, List.getElem?_set_self (by omega), List.take_set_of_le (Nat.le_refl _)]
    rfl
  · rw [List.drop_set_of_lt (by omega), ← List.drop_drop, ← List.drop_drop, h.tail]

set_option maxRecDepth 100000 in
set_option maxHeartbeats 4000000 in
theorem del_int (w : World) (base g cap : Nat) (ns : List Nat) (hx : w.ownsRow base 3 1 (.slice (some ⟨g, 0, none⟩) ns.length cap) ns.length (natC ns)) (hn : ns.length ≤ 1000000) (nb x : Nat) (h : w.cell? ⟨nb, 0, none⟩ = some (.int .i64 (x : Int))) (hne : nb ≠ g) (hin : x ∈ ns) :
    Calls Tryz.prog 99 #[.slice (some ⟨g, 0, none⟩) ns.length cap, .func (.func 100) #[] #[.pointer (some ⟨nb, 0, none⟩)]] w fun e w' => ∃ v', e = .returned v' ∧ w'.ownsRow base 3 1 v' (neF x ns).length (natC (neF x ns)) ∧ Kept (fun k => k = g) w w' := by
  have IX := idxI_in w base _ cap ns hx hn nb x h
  have hq : ns.idxOf x < ns.length := List.idxOf_lt_length_of_mem hin
  have hqx : ns[ns.idxOf x]? = some x := by rw [List.getElem?_eq_getElem hq, List.getElem_idxOf]
  unfold idxI at IX
  rw [if_pos hq] at IX
  have hlx : ∀ j, (neF x (ns.take j)).length < ns.length := fun j => by
    have h1 : (neF x (ns.take j)).length ≤ (neF x ns).length := ((List.take_sublist j ns).filter _).length_le
    have h2 : (neF x ns).length < ns.length := by
      unfold neF
      rw [List.length_filter_lt_length_iff_exists]
      exact ⟨x, hin, by simp⟩
    omega
  have HD0 : Hid (∃ R, DelI w w base g cap ns x (ns.idxOf x) (ns.idxOf x + 1) R) := by
    have h0 : neF x (ns.take (ns.idxOf x)) = ns.take (ns.idxOf x) := by
      unfold neF
      rw [List.filter_eq_self]
      intro a ha
      obtain ⟨k, hk, rfl⟩ := List.mem_iff_getElem.1 ha
      rw [List.length_take] at hk
      rw [List.getElem_take]
      have hkq : k < ns.idxOf x := by omega
      have h9 := List.not_of_lt_findIdx (p := (· == x)) (xs := ns) (i := k) hkq
      simpa using h9
    have e : ns.take (ns.idxOf x + 1) = ns.take (ns.idxOf x) ++ [x] := by rw [List.take_add_one, hqx]; rfl
    refine ⟨ns, hx, Kept.refl _ _, Nat.le_succ _, ?_, rfl, rfl, ?_, hq⟩
    · rw [e, neF_snoc, if_pos rfl, h0]
    · rw [e, neF_snoc, if_pos rfl, h0, List.length_take]
      omega
  have HLX : Hid _ := hlx
  obtain ⟨q, hqq⟩ : ∃ q, ns.idxOf x = q := ⟨_, rfl⟩
  rw [hqq] at IX hq HD0
  obtain ⟨n, hnn⟩ : ∃ n, ns.length = n := ⟨_, rfl⟩
  have HN : Hid _ := hnn
  have HX : Hid (_ ∧ _) := And.intro hx h
  rw [hnn] at hn hq IX ⊢
  clear hx hqx hqq hlx hnn hin h
  have hwq : IntKind.i64.wrap ((q : Int) + 1) = (q : Int) + 1 := wrap_nat1 (by omega)
  have dq : decide ((q : Int) = -1) = false := decide_eq_false (by omega)
  have dq2 : ((q : Int) == -1) = false := by simp
  go_enter Tryz.func99, Tryz.ntmps99
  go_wp2_with (first | (go_at_call 148; refine IX.mono ?_; rintro e w5 ⟨rfl, rfl⟩))
  go_loopw [5, 6] (fun t5 t6 W => ∃ (i j : Nat), j ≤ n ∧ t5 = .int .i64 (i : Int) ∧ t6 = .int .i64 (j : Int) ∧ Hid (∃ R, DelI w W base g cap ns x i j R)) (fun _ t6 _ => n - (intOf t6).toNat)
  case atStart => exact ⟨q, q + 1, by omega, rfl, by simp, HD0⟩
  case round =>
    obtain ⟨i, j, hj, rfl, rfl, HJ⟩ := hrel
    obtain ⟨R, D⟩ := HJ.out
    have hil := D.lt
    rw [HN.out] at hil
    by_cases hlt : j < n
    · have dj : decide ((j : Int) < (n : Int)) = true := decide_eq_true (by omega)
      have hwj : IntKind.i64.wrap ((j : Int) + 1) = (j : Int) + 1 := wrap_nat1 (by omega)
      have hwi : IntKind.i64.wrap ((i : Int) + 1) = (i : Int) + 1 := wrap_nat1 (by omega)
      have hjl : j < ns.length := by rw [HN.out]; exact hlt
      have hge := List.getElem?_eq_getElem hjl
      have hRj : R[j]? = some ns[j] := by
        have h1 : (R.drop j)[0]? = (ns.drop j)[0]? := by rw [D.tail]
        rw [List.getElem?_drop, List.getElem?_drop, Nat.add_zero] at h1
        rw [h1, hge]
      have hrow := D.row
      rw [HN.out] at hrow
      obtain ⟨g2, c2, eg, q1⟩ := own_one hrow (natC_at hRj)
      cases eg
      obtain ⟨zz, hzz⟩ : ∃ z, wr.cell? ⟨g, i, none⟩ = some z := by
        have hiR : i < R.length := by rw [D.len, HN.out]; exact hil
        exact ⟨.int .i64 (R[i] : Int), by rw [hrow.cellAt i (by omega)]; exact natC_at (List.getElem?_eq_getElem hiR)⟩
      have fz := hrow.frozenAt i
      have hbx : wr.cell? ⟨nb, 0, none⟩ = some (.int .i64 (x : Int)) := (World.cell?_of_block (a := ⟨nb, 0, none⟩) (D.kept.block nb (World.block_lt_of_cell? w _ HX.out.2) hne)).trans HX.out.2
      have W1 := with1_in wr nb x hbx ns[j]
      have HSK : Hid (ns[j] = x → DelI w wr base g cap ns x i (j + 1) R) := fun e => D.skip hge e
      have HTK : Hid (ns[j] ≠ x → DelI w (wr.setCell ⟨g, i, none⟩ (.int .i64 (ns[j] : Int))) base g cap ns x (i + 1) (j + 1) (R.set i ns[j])) := fun e => D.take hge e (HLX.out _)
      generalize ns[j] = m at *
      clear HJ D hrow hge hRj hjl
      by_cases hm : m = x
      · rw [decide_eq_true hm] at W1
        have HF : Hid _ := HSK.out hm
        clear hm HSK HTK
        go_wp2_with (first | (go_at_call 100; refine W1.mono ?_; rintro e w5 ⟨rfl, rfl⟩))
        refine ⟨⟨i, j + 1, hlt, ?_, ?_, R, HF.out⟩, by simp [intOf]; omega⟩ <;> simp
      · rw [decide_eq_false hm] at W1
        have HF : Hid _ := HTK.out hm
        clear hm HSK HTK
        go_wp2_with (first | (go_at_call 100; refine W1.mono ?_; rintro e w5 ⟨rfl, rfl⟩))
        refine ⟨⟨i + 1, j + 1, hlt, ?_, ?_, _, HF.out⟩, by simp [intOf]; omega⟩ <;> simp
    · have dj : decide ((j : Int) < (n : Int)) = false := decide_eq_false (by omega)
      obtain rfl : j = n := by omega
      have hrow := D.row
      rw [HN.out] at hrow
      obtain ⟨W9, c9, o9, k9⟩ := clear_ints hrow hil 0
      have HF : Hid (W9.ownsRow base 3 1 (.slice (some ⟨g, 0, none⟩) i cap) (neF x ns).length (natC (neF x ns)) ∧ Kept (fun k => k = g) w W9 ∧ (neF x ns).length = i) := by
        have e1 : ns.take j = ns := List.take_of_length_le (by rw [HN.out]; exact Nat.le_refl _)
        have h1 := D.il
        have h2 := D.head
        rw [e1] at h1 h2
        refine ⟨?_, D.kept.trans k9, h1.symm⟩
        have e2 : (natC R).take i = natC (neF x ns) := by
          rw [← h2]
          unfold natC
          rw [List.map_take]
        rw [e2] at o9
        rw [← h1]
        exact o9
      have hcap : i ≤ cap := by
        rcases hrow.2 with ⟨e, _⟩ | ⟨g3, cap3, cur3, e, _, _, h3, _⟩
        · cases e
        · cases e
          omega
      have hcj : j ≤ cap := by
        rcases hrow.2 with ⟨e, _⟩ | ⟨g3, cap3, cur3, e, _, _, h3, _⟩
        · cases e
        · cases e
          omega
      clear HJ D hrow o9 k9
      go_wp2_with fail
      go_ret
      exact ⟨_, rfl, HF.out.1, HF.out.2.1⟩

set_option maxRecDepth 100000 in
set_option maxHeartbeats 1000000 in
theorem without_in (w : World) (b0 : Nat) (v : Value) (ns : List Nat) (hx : w.ownsRow b0 3 1 v ns.length (natC ns)) (hn : ns.length ≤ 1000000) (x : Nat) (hin : x ∈ ns) :
    Calls Tryz.prog 52 #[v, .int .i64 (x : Int)] w fun e w' => ∃ v', e = .returned v' ∧ w'.ownsRow w.heap.size 3 1 v' (neF x ns).length (natC (neF x ns)) ∧ Below w.heap.size w w' := by
  have h0 : 0 < ns.length := List.length_pos_of_mem hin
  have hB0 : Below w.heap.size w (w.alloc (.cells #[.int .i64 (x : Int)] 3)) := (Below.refl _ _).alloc (Nat.le_refl _) _
  have CL := clone_in (w.alloc (.cells #[.int .i64 (x : Int)] 3)) b0 v ns (ownsRow_below hx hB0) h0 hn
  have y0 : (w.alloc (.cells #[.int .i64 (x : Int)] 3)).cell? ⟨w.heap.size, 0, none⟩ = some (.int .i64 (x : Int)) := by simp
  have DE : ∀ (W : World) (v : Value), W.ownsRow (w.alloc (.cells #[.int .i64 (x : Int)] 3)).heap.size 3 1 v ns.length (natC ns) → Below (w.alloc (.cells #[.int .i64 (x : Int)] 3)).heap.size (w.alloc (.cells #[.int .i64 (x : Int)] 3)) W →
      ∃ g c, v = .slice (some ⟨g, 0, none⟩) ns.length c ∧ Calls Tryz.prog 99 #[.slice (some ⟨g, 0, none⟩) ns.length c, .func (.func 100) #[] #[.pointer (some ⟨w.heap.size, 0, none⟩)]] W fun e w' => ∃ v', e = .returned v' ∧ w'.ownsRow w.heap.size 3 1 v' (neF x ns).length (natC (neF x ns)) ∧ Below w.heap.size w w' := fun W v hr hB => by
    rcases id hr.2 with ⟨_, e0⟩ | ⟨g, cap, cur, rfl, hg, _⟩
    · omega
    · have hgl := hg
      simp at hgl
      refine ⟨g, cap, rfl, (del_int W w.heap.size g cap ns (row_low hr (by simp)) hn w.heap.size x ((hB.cell (by simp)).trans y0) (by omega) hin).mono ?_⟩
      rintro e w' ⟨v', rfl, r1, r2⟩
      have hbw := hB0.trans (hB.mono hB0.size)
      exact ⟨v', rfl, r1, hbw.trans (r2.below hbw.size (fun k e => by rw [e]; omega))⟩
  have HDE : Hid _ := DE
  clear DE hx hB0 hin h0
  go_enter Tryz.func52, Tryz.ntmps52
  go_wp2_with (first | (go_at_call 51; refine CL.mono ?_; rintro e w1 ⟨v1, rfl, R1, B1⟩; obtain ⟨g1, c1, rfl, DD⟩ := HDE.out w1 v1 R1 B1; clear R1 B1) | (go_at_call 99; refine DD.mono ?_; rintro e w2 ⟨v2, rfl, H2⟩))
  go_ret
  exact ⟨_, rfl, H2⟩
end Go.Proofs.YtlehlgipbhfioaaGreat

namespace Go.Proofs.YtlehlgipbhfioaaGreat
open Go.RowKit Go.Maps

theorem four (j : Nat) : ∃ i r, r < 4 ∧ j = i * 4 + r := ⟨j / 4, j % 4, Nat.mod_lt _ (by omega), by omega⟩
theorem SlF.len {w : World} {N : Nat} {pa : Option Addr} {n pc : Nat} {ks : List Lf} (h : SlF w N (.slice pa n pc) ks) : n = ks.length := by
  obtain ⟨a, cap, e, _⟩ := h.1
  cases e
  rfl
theorem formC_one {w : World} {N : Nat} {v : Value} {ks : List Lf} (h : SlF w N v ks) : ∀ u ∈ ks.flatMap formC, u.oneCell' = true := by
  intro u hu
  obtain ⟨k, hk, hu⟩ := List.mem_flatMap.1 hu
  obtain ⟨a, cap, e, _⟩ := (h.2 k hk).1.kidsIn
  simp only [formC, List.mem_cons, List.not_mem_nil, or_false] at hu
  rcases hu with rfl | rfl | rfl | rfl
  · rfl
  · rfl
  · rfl
  · rw [e]; rfl
theorem SlF.part {w : World} {N : Nat} {pa : Option Addr} {n pc : Nat} {ks : List Lf} (h : SlF w N (.slice pa n pc) ks) : PartAt 4 w (.slice pa n pc) n (ks.flatMap formC) := by
  have hn := h.len
  refine ⟨pa, pc, rfl, by rw [formC_len, hn], formC_one h, ?_⟩
  obtain ⟨a, cap, e, _, hz⟩ := h.1
  cases e
  rcases hz with e | ⟨kb, ko, rfl, hz⟩
  · exact Or.inl (by rw [e]; rfl)
  · refine Or.inr ⟨kb, ko, rfl, fun j v hj => ?_⟩
    obtain ⟨i, r, hr, rfl⟩ := four j
    rw [formC_at _ _ _ hr] at hj
    cases hk : ks[i]? with
    | none => rw [hk] at hj; cases hj
    | some k =>
      rw [hk] at hj
      change (formC k)[r]? = some v at hj
      obtain ⟨h1, h2⟩ := hz i k hk
      obtain ⟨c, fz, q0, q1, q2, q3, q4, _⟩ := (h.2 k (List.mem_of_getElem? hk)).1.cells
      rw [h1] at q0
      rw [h2] at q1 q2 q3 q4
      have g : ∀ j u, c[j]? = some u → w.cell? ⟨kb, j, none⟩ = some u := fun j u hu => by simp [World.cell?, q0, hu]
      rw [← Nat.add_assoc]
      rcases (by omega : r = 0 ∨ r = 1 ∨ r = 2 ∨ r = 3) with rfl | rfl | rfl | rfl
      · cases hj; exact g _ _ q1
      · cases hj; exact g _ _ q2
      · cases hj; exact g _ _ q3
      · cases hj; exact g _ _ q4
def setB (g : Nat) (j : Nat) (t : Lf) : Lf := .mk g (j * 4) t.op t.x t.y t.kv t.kids
theorem setB_er (g j : Nat) (t : Lf) : (setB g j t).er = t.er := by
  cases t
  simp [setB, Lf.er, Lf.op, Lf.x, Lf.y, Lf.kids]
/-- A row of one's own of Forms. -/
theorem row_slf {W : World} {B N : Nat} {v : Value} {ts : List Lf} (hr : W.ownsRow B 36 4 v ts.length (ts.flatMap formC)) (ht : ∀ t ∈ ts, KidsIn t.kv t.kids ∧ (∀ k ∈ t.kids, Here W k) ∧ WfR N t.er) : ∃ ks, SlF W N v ks ∧ ks.map Lf.er = ts.map Lf.er ∧ ks.length = ts.length := by
  rcases id hr.2 with ⟨e, h0⟩ | ⟨g, cap, cur, e, hg, hb, h1, h2, h3, h4⟩
  · have : ts = [] := List.eq_nil_of_length_eq_zero h0
    subst this
    exact ⟨[], ⟨⟨none, 0, e, Nat.le_refl _, Or.inl rfl⟩, fun k hk => by cases hk⟩, rfl, rfl⟩
  · refine ⟨ts.mapIdx (setB g), ⟨⟨some ⟨g, 0, none⟩, cap, by rw [List.length_mapIdx]; exact e, by rw [List.length_mapIdx]; exact h1, Or.inr ⟨g, 0, rfl, fun j t hj => ?_⟩⟩, fun k hk => ?_⟩, ?_, List.length_mapIdx⟩
    · rw [List.getElem?_mapIdx] at hj
      cases hk : ts[j]? with
      | none => rw [hk] at hj; cases hj
      | some t' =>
        rw [hk] at hj
        cases hj
        exact ⟨rfl, by simp [setB, Lf.o]⟩
    · obtain ⟨j, hj, rfl⟩ := List.mem_mapIdx.1 hk
      obtain ⟨k1, k2, k3⟩ := ht _ (List.getElem_mem hj)
      refine ⟨.mk trivial ⟨cur, (0, 0), hb, ?_⟩ k1 k2, by rw [setB_er]; exact k3⟩
      have hc : ∀ r, r < 4 → cur[j * 4 + r]? = (formC ts[j])[r]? := fun r hr' => by
        have e1 := formC_at ts j r hr'
        rw [List.getElem?_eq_getElem hj] at e1
        rw [← h4, List.getElem?_take_of_lt (by omega)] at e1
        simpa using e1
      exact ⟨hc 0 (by omega), hc 1 (by omega), hc 2 (by omega), hc 3 (by omega), rfl⟩
    · refine List.ext_getElem? fun i => ?_
      rw [List.getElem?_map, List.getElem?_map, List.getElem?_mapIdx]
      cases ts[i]? with
      | none => rfl
      | some t => simp [setB_er]
end Go.Proofs.YtlehlgipbhfioaaGreat

namespace Go.Proofs.YtlehlgipbhfioaaGreat
open Go.RowKit Go.Maps

/-- A problem, and a row of numbers of one's own beside it. -/
structure EnI (Φ : World → Prop) (B : Nat) (w : World) (lv0 : Value) (S : Nat → Prop) (W : World) (pb vb kb : Nat) (bk tv fv lv : Value) (P : Pb) (N : Nat) (fs : List Fm) (gs : List Sx) (v : Value) (ns : List Nat) : Prop where
  np : Np Φ B S W pb vb kb bk tv fv lv P N fs gs
  kept : Kept (Dq pb vb kb lv0 fv) w W
  dq : ∀ k, Dq pb vb kb lv fv k → Dq pb vb kb lv0 fv k ∨ w.heap.size ≤ k
  row : W.ownsRow w.heap.size 3 1 v ns.length (natC ns)
  sep : ∀ k, v.ownBlock = some k → ¬ S k
theorem EnI.start {Φ : World → Prop} {B : Nat} {S : Nat → Prop} {W : World} {pb vb kb : Nat} {bk tv fv lv : Value} {P : Pb} {N : Nat} {fs : List Fm} {gs : List Sx} (h : Np Φ B S W pb vb kb bk tv fv lv P N fs gs) : EnI Φ B W lv S W pb vb kb bk tv fv lv P N fs gs (.slice none 0 0) [] :=
  ⟨h, Kept.refl _ _, fun _ e => Or.inl e, ⟨rfl, Or.inl ⟨rfl, rfl⟩⟩, fun k e => by cases e⟩
theorem EnI.below {Φ : World → Prop} {B : Nat} {w : World} {lv0 : Value} {S : Nat → Prop} {W W' : World} {pb vb kb : Nat} {bk tv fv lv : Value} {P : Pb} {N : Nat} {fs : List Fm} {gs : List Sx} {v : Value} {ns : List Nat} (h : EnI Φ B w lv0 S W pb vb kb bk tv fv lv P N fs gs v ns) (hB : Below W.heap.size W W') : EnI Φ B w lv0 S W' pb vb kb bk tv fv lv P N fs gs v ns :=
  ⟨h.np.below hB, h.kept.under hB, h.dq, ownsRow_below h.row hB, h.sep⟩
theorem EnI.step {Φ : World → Prop} {B : Nat} {w : World} {lv0 : Value} {S S' : Nat → Prop} {W W' : World} {pb vb kb : Nat} {bk tv fv lv lv' : Value} {P Q : Pb} {N : Nat} {fs : List Fm} {gs : List Sx} {v : Value} {ns : List Nat} (h : EnI Φ B w lv0 S W pb vb kb bk tv fv lv P N fs gs v ns) (hB : B ≤ W.heap.size) (x : PmX S W S' W' pb vb kb bk tv fv lv lv' Q) : EnI Φ B w lv0 S' W' pb vb kb bk tv fv lv' Q N fs gs v ns := by
  refine ⟨h.np.step hB x, h.kept.far x.kept (fun k hk => h.dq k (Or.inl hk)), ?_, ownsRow_blk h.row (fun b hb => x.kept.block b (ownsRow_lt h.row hb).2 (h.np.pm.pdne h.row (by decide) (by decide) hb)), fun k hk e => ?_⟩
  · rintro k ((e | e | e | e) | e)
    · exact h.dq k (Or.inl (Or.inl e))
    · exact h.dq k (Or.inl (Or.inr (Or.inl e)))
    · exact h.dq k (Or.inl (Or.inr (Or.inr (Or.inl e))))
    · rcases x.at_ with a | a
      · exact h.dq k (Or.inl (Or.inr (Or.inr (Or.inr (a ▸ e)))))
      · exact Or.inr (Nat.le_trans h.kept.size (a k e))
    · exact h.dq k (Or.inr e)
  · rcases x.new k e with e1 | e1
    · exact h.sep k hk e1
    · have := (ownsRow_lt h.row hk).2
      omega
/-- The row grows, or is written. -/
theorem EnI.push {Φ : World → Prop} {B : Nat} {w : World} {lv0 : Value} {S0 S : Nat → Prop} {W W1 w8 : World} {pb vb kb : Nat} {bk tv fv lv : Value} {P0 P : Pb} {N : Nat} {fs : List Fm} {gs : List Sx} {v v8 : Value} {ns ns8 : List Nat} (h0 : Np Φ B S0 w pb vb kb bk tv fv lv0 P0 N fs gs) (h : EnI Φ B w lv0 S W pb vb kb bk tv fv lv P N fs gs v ns) (hB1 : Below W.heap.size W W1) (hown : w8.ownsRow w.heap.size 3 1 v8 ns8.length (natC ns8)) (hgrow : W1.grownBy w8 v.ownBlock) (hat : v8.ownBlock = v.ownBlock ∨ ∀ k, v8.ownBlock = some k → W1.heap.size ≤ k) : EnI Φ B w lv0 S w8 pb vb kb bk tv fv lv P N fs gs v8 ns8 := by
  have h1 := h.below hB1
  have K : Kept (fun k => v.ownBlock = some k) W1 w8 := Kept.grown (Kept.refl _ W1) hgrow (fun k e => e)
  have hbk : ∀ k, PD pb vb kb lv k → w8.heap[k]? = W1.heap[k]? := fun k hk => K.block k (h1.np.pm.pdlt hk) (fun e => h1.np.pm.pdne h1.row (by decide) (by decide) e hk)
  have K8 : Kept (Dq pb vb kb lv0 fv) w w8 := h1.kept.far K (fun k hk => Or.inr (ownsRow_lt h1.row hk).1)
  refine ⟨⟨h1.np.pm.keep K.size (hbk _ (Or.inl rfl)) (hbk _ (Or.inr (Or.inl rfl))) (hbk _ (Or.inr (Or.inr (Or.inl rfl)))) (fun b hb => hbk b (Or.inr (Or.inr (Or.inr hb)))) (fun g c hg hc => K.block g hc.lt (fun e => h1.sep g e hg)), h1.np.low, ownsRow_blk h1.np.row (fun b hb => K.block b (ownsRow_lt h1.np.row hb).2 (fun e => ownsRow_neC h1.np.row h1.row (by decide) hb e)), h1.np.len, h0.parts.step K8 h1.dq⟩, K8, h1.dq, hown, fun k hk e => ?_⟩
  rcases hat with a | a
  · exact h1.sep k (a ▸ hk) e
  · have := a k hk
    have := h1.np.pm.lt k e
    omega
def okB (P : Pb) (fs : List Fm) (ns : List Nat) : Bool := decide (P.lemmas.length ≤ 100000) && (decide (P.vars.length ≤ 2000) && (decide (P.known.length ≤ 100000) && (decide (ns.length ≤ 100) && ns.all fun n => decide (n < fs.length))))
theorem okB_ok {P : Pb} {fs : List Fm} {ns : List Nat} (h : okB P fs ns = true) : (P.lemmas.length ≤ 100000 ∧ P.vars.length ≤ 2000 ∧ P.known.length ≤ 100000) ∧ ns.length ≤ 100 ∧ ∀ n ∈ ns, n < fs.length := by
  simp only [okB, Bool.and_eq_true, decide_eq_true_eq, List.all_eq_true] at h
  exact ⟨⟨h.1, h.2.1, h.2.2.1⟩, h.2.2.2.1, h.2.2.2.2⟩
def AmOk (N : Nat) (fs : List Fm) : Prop := ∀ n, n < fs.length → (Fm.get fs n).am.length ≤ 5 ∧ ∀ a ∈ (Fm.get fs n).am, a.1 ≤ a.2 ∧ a.2 < N
theorem AmOk.fsok {N : Nat} {fs : List Fm} (h : AmOk N fs) {ns : List Nat} (hl : ns.length ≤ 100) (hn : ∀ n ∈ ns, n < fs.length) : FsOk N fs ns := by
  refine ⟨hn, by omega, fun n hn => ⟨by have := (h n hn).1; omega, (h n hn).2⟩, ?_⟩
  have key : ∀ ns : List Nat, (∀ n ∈ ns, n < fs.length) → (ns.flatMap fun n => (Fm.get fs n).am).length ≤ ns.length * 5 := by
    intro ns
    induction ns with
    | nil => intro _; simp
    | cons a r ih =>
      intro hh
      have h1 := ih (fun n hn => hh n (by simp [hn]))
      have h2 := (h a (hh a (by simp))).1
      rw [List.flatMap_cons, List.length_append, List.length_cons]
      omega
  have := key ns hn
  omega
/-- enough, reckoned; what it answers is sorted then. -/
def enoB (l : List Tm) (fs : List Fm) : Nat → Pb → List Nat → Option (List Nat × Pb)
  | 0, _, _ => none
  | f + 1, P, ns => if okB P fs ns then (match mdlN l fs ns 2 P with
    | none => none
    | some (none, Q) => some (ns, Q)
    | some (some told, Q) => if fstF l told fs < fs.length then enoB l fs f Q (ns ++ [fstF l told fs]) else none) else none
def corB (l : List Tm) (fs : List Fm) : List Nat → Pb → List Nat → Option (List Nat × Pb)
  | [], P, ns => some (ns, P)
  | x :: xs, P, ns => if okB P fs (neF x ns) && decide (x ∈ ns) then (match mdlN l fs (neF x ns) 2 P with
    | none => none
    | some (none, Q) => corB l fs xs Q (neF x ns)
    | some (some _, Q) => corB l fs xs Q ns) else none
end Go.Proofs.YtlehlgipbhfioaaGreat

namespace Go.Proofs.YtlehlgipbhfioaaGreat
open Go.RowKit Go.Maps

/-- What Follows decides. -/
structure AskedF (l : List Tm) (fos : List Fo) (P : Pb) (fs : List Fm) : Prop where
  ok : FosOk l.length fos
  adds : Pb.adds l.length fos pb0 [] = (P, fs)
  fso : FsOk l.length fs (List.range fs.length)
  has : HasV fs P
  vrp : VrP P
  few : P.lemmas.length ≤ 100000 ∧ P.vars.length ≤ 2000 ∧ P.known.length ≤ 100000
def qLf (x y : Int) : Lf := .mk 0 0 0 x y (.slice none 0 0) []
theorem qLf_ok {W : World} {N : Nat} {x y : Int} (hx : 0 ≤ x ∧ x < N) (hy : 0 ≤ y ∧ y < N) : KidsIn (qLf x y).kv (qLf x y).kids ∧ (∀ k ∈ (qLf x y).kids, Here W k) ∧ WfR N (qLf x y).er := by
  have e : (qLf x y).er = .mk 0 x y [] := by simp [qLf, Lf.er]
  rw [e]
  exact ⟨⟨none, 0, rfl, Nat.zero_le _, Or.inl rfl⟩, fun k (hk : k ∈ ([] : List Lf)) => (nomatch hk), WfR.eq x y hx hy⟩
/-- Two slices of Forms in a row of slices. -/
theorem cat_parts {w : World} {g : Nat} {a1 a2 : Option Addr} {n1 n2 c1 c2 : Nat} {x1 x2 : List Value} (h : w.rowIs g 30 2 (fun j => if j = 0 then .slice a1 n1 c1 else .slice a2 n2 c2)) (p1 : PartAt 4 w (.slice a1 n1 c1) n1 x1) (p2 : PartAt 4 w (.slice a2 n2 c2) n2 x2) : ∀ (i : Nat) (q : Nat × List Value), [(n1, x1), (n2, x2)][i]? = some q → ∃ b off u, some (⟨g, 0, none⟩ : Addr) = some ⟨b, off, none⟩ ∧ w.cell? ⟨b, off + i, none⟩ = some u ∧ PartAt 4 w u q.1 q.2 := by
  intro i q hi
  match i, hi with
  | 0, hi => cases hi; exact ⟨g, 0, _, rfl, h.cell (i := 0) (by omega), p1⟩
  | 1, hi => cases hi; exact ⟨g, 0, _, rfl, h.cell (i := 1) (by omega), p2⟩
/-- A Form behind others. -/
theorem cat_in (w : World) (N : Nat) (pa : Option Addr) (pc : Nat) (ks : List Lf) (hk : SlF w N (.slice pa ks.length pc) ks) (hl : ks.length ≤ 1000) (g1 g2 : Nat) (t : Lf) (h1 : w.rowIs g1 30 2 (fun j => if j = 0 then .slice pa ks.length pc else .slice (some ⟨g2, 0, none⟩) 1 1)) (h2 : w.rowIs g2 36 4 (fun j => ((formC t)[j]?).getD undef)) (ht : KidsIn t.kv t.kids ∧ (∀ k ∈ t.kids, Here w k) ∧ WfR N t.er) :
    Calls Tryz.prog 25 #[.slice (some ⟨g1, 0, none⟩) 2 2] w fun e w' => ∃ ks' a c, e = .returned (.slice a (ks.length + 1) c) ∧ SlF w' N (.slice a (ks.length + 1) c) ks' ∧ ks'.map Lf.er = ks.map Lf.er ++ [t.er] ∧ Below w.heap.size w w' := by
  have hp2 : PartAt 4 w (.slice (some ⟨g2, 0, none⟩) 1 1) 1 (formC t) := by
    refine ⟨_, _, rfl, rfl, fun u hu => ?_, Or.inr ⟨g2, 0, rfl, fun j v hj => ?_⟩⟩
    · obtain ⟨a, cap, e, _⟩ := ht.1
      simp only [formC, List.mem_cons, List.not_mem_nil, or_false] at hu
      rcases hu with rfl | rfl | rfl | rfl
      · rfl
      · rfl
      · rfl
      · rw [e]; rfl
    · have hjl := (List.getElem?_eq_some_iff.1 hj).1
      rw [Nat.zero_add, h2.cell (i := j) (by simpa [formC] using hjl)]
      simp only [hj, Option.getD_some]
  have CA := catF_in w (some ⟨g1, 0, none⟩) 2 [(ks.length, ks.flatMap formC), (1, formC t)] (cat_parts h1 hk.part hp2) (by simp [catN]; omega) (by simp)
  refine CA.mono ?_
  rintro e w' ⟨v, rfl, R, B⟩
  have e1 : catN [(ks.length, ks.flatMap formC), (1, formC t)] = (ks ++ [t]).length := by simp [catN]
  have e2 : catV [(ks.length, ks.flatMap formC), (1, formC t)] = (ks ++ [t]).flatMap formC := by simp [catV]
  rw [e1, e2] at R
  obtain ⟨ks', s1, s2, s3⟩ := row_slf (N := N) R (fun z hz => by
    rcases List.mem_append.1 hz with hz | hz
    · have h3 := (hk.below B).2 z hz
      exact ⟨h3.1.kidsIn, fun k hk => h3.1.kid hk, h3.2⟩
    · rw [List.mem_singleton] at hz
      subst hz
      exact ⟨ht.1, fun k hk => (ht.2.1 k hk).keep (fun i _ _ _ hc => (B.block i (Array.getElem?_eq_some_iff.1 hc).1).trans hc), ht.2.2⟩)
  obtain ⟨a, c, rfl⟩ := ownsRow_form R
  rw [List.length_append] at s1 ⊢
  exact ⟨ks', a, c, rfl, s1, by rw [s2, List.map_append]; rfl, B⟩
theorem cS_er (ks : List Lf) : cS ks = 1 + ((ks.map Lf.er).map cF).sum := by
  unfold cS
  rw [List.map_map]
  rfl
def nLf (g : Nat) (x y : Int) : Lf := .mk 0 0 1 0 0 (.slice (some ⟨g, 0, none⟩) 1 1) [.mk g 0 0 x y (.slice none 0 0) []]
theorem nLf_er (g : Nat) (x y : Int) : (nLf g x y).er = Fo.neg (Fo.eq x y) := by simp [nLf, Lf.er, Fo.neg, Fo.eq]
theorem nLf_ok {W : World} {N g : Nat} {x y : Int} (hx : 0 ≤ x ∧ x < N) (hy : 0 ≤ y ∧ y < N) (hg : W.heap[g]? = some (.cells #[.int .i64 0, .int .i64 x, .int .i64 y, .slice none 0 0] 36)) : KidsIn (nLf g x y).kv (nLf g x y).kids ∧ (∀ k ∈ (nLf g x y).kids, Here W k) ∧ WfR N (nLf g x y).er := by
  rw [nLf_er]
  refine ⟨⟨some ⟨g, 0, none⟩, 1, rfl, Nat.le_refl _, Or.inr ⟨g, 0, rfl, fun j t hj => ?_⟩⟩, fun k (hk : k ∈ [Lf.mk g 0 0 x y (.slice none 0 0) []]) => ?_, WfR.neg _ (WfR.eq x y hx hy)⟩
  · match j, hj with
    | 0, hj => cases hj; exact ⟨rfl, rfl⟩
  · rw [List.mem_singleton] at hk
    subst hk
    exact .mk trivial ⟨_, (0, 0), hg, rfl, rfl, rfl, rfl, rfl⟩ ⟨none, 0, rfl, Nat.le_refl _, Or.inl rfl⟩ (fun k hk => (nomatch hk))

set_option maxRecDepth 100000 in
set_option maxHeartbeats 4000000 in
theorem dfollows_in (w : World) (base p : Nat) (ev : Value) (nb fb : Nat) (l : List Tm) (hB : Bk w base p ev nb fb l) (hb : Cc.Bd l) (hl : l.length ≤ 150) (pa : Option Addr) (pc : Nat) (ks : List Lf) (hk : SlF w l.length (.slice pa ks.length pc) ks) (hc : cS ks ≤ 600) (x y : Int) (hx : 0 ≤ x ∧ x < l.length) (hy : 0 ≤ y ∧ y < l.length) (P : Pb) (fs : List Fm) (hA : AskedF l (ks.map Lf.er ++ [Fo.neg (Fo.eq x y)]) P fs) (C : Bool) (hM : MdlT l fs (List.range fs.length) (fun r _ => (r = none ↔ C = true)) 2 P) :
    Calls Tryz.prog 9 #[.pointer (some ⟨p, 0, none⟩), .slice pa ks.length pc, .agg #[.int .i64 0, .int .i64 x, .int .i64 y, .slice none 0 0]] w fun e w' => e = .returned (.tuple #[.bool C, .int .i64 0]) ∧ Below w.heap.size w w' := by
  have HH : Hid (_ ∧ _ ∧ _ ∧ _ ∧ _) := And.intro hB (And.intro hA (And.intro hM (And.intro hk (And.intro hc (And.intro hx hy)))))
  have hkl : ks.length ≤ 599 := by
    have h1 := sum_cF ks
    unfold cS at hc
    omega
  clear hB hA hM hk hc hx hy
  have hA3 : Below w.heap.size w (((w.alloc (.cells #[.int .i64 0, .int .i64 x, .int .i64 y, .slice none 0 0] 36)).alloc (.cells #[.int .i64 0, .int .i64 x, .int .i64 y, .slice none 0 0] 36)).alloc (.cells #[.slice pa ks.length pc, .slice (some ⟨w.heap.size + 1, 0, none⟩) 1 1] 30)) := (((Below.refl _ _).alloc (Nat.le_refl _) _).alloc (by simp) _).alloc (by simp; omega) _
  have r1 := made_row ((w.alloc (.cells #[.int .i64 0, .int .i64 x, .int .i64 y, .slice none 0 0] 36)).alloc (.cells #[.int .i64 0, .int .i64 x, .int .i64 y, .slice none 0 0] 36)) #[.slice pa ks.length pc, .slice (some ⟨w.heap.size + 1, 0, none⟩) 1 1] 30
  have r2 := made_row (w.alloc (.cells #[.int .i64 0, .int .i64 x, .int .i64 y, .slice none 0 0] 36)) #[.int .i64 0, .int .i64 x, .int .i64 y, .slice none 0 0] 36
  have g2 : (((w.alloc (.cells #[.int .i64 0, .int .i64 x, .int .i64 y, .slice none 0 0] 36)).alloc (.cells #[.int .i64 0, .int .i64 x, .int .i64 y, .slice none 0 0] 36)).alloc (.cells #[.slice pa ks.length pc, .slice (some ⟨w.heap.size + 1, 0, none⟩) 1 1] 30)).heap[w.heap.size + 1]? = some (.cells #[.int .i64 0, .int .i64 x, .int .i64 y, .slice none 0 0] 36) := by
    rw [heap_alloc_old _ _ (by simp)]
    have := heap_alloc_new (w.alloc (.cells #[.int .i64 0, .int .i64 x, .int .i64 y, .slice none 0 0] 36)) (.cells #[.int .i64 0, .int .i64 x, .int .i64 y, .slice none 0 0] 36)
    rwa [show (w.alloc (.cells #[.int .i64 0, .int .i64 x, .int .i64 y, .slice none 0 0] 36)).heap.size = w.heap.size + 1 by simp] at this
  rw [show ((w.alloc (.cells #[.int .i64 0, .int .i64 x, .int .i64 y, .slice none 0 0] 36)).alloc (.cells #[.int .i64 0, .int .i64 x, .int .i64 y, .slice none 0 0] 36)).heap.size = w.heap.size + 1 + 1 by simp] at r1
  rw [show (w.alloc (.cells #[.int .i64 0, .int .i64 x, .int .i64 y, .slice none 0 0] 36)).heap.size = w.heap.size + 1 by simp] at r2
  have CA1 := cat_in _ l.length pa pc ks (HH.out.2.2.2.1.below hA3) (by omega) (w.heap.size + 1 + 1) (w.heap.size + 1) (qLf x y) (r1.congr (fun j hj => by
    have : j = 0 ∨ j = 1 := by simp at hj; omega
    rcases this with rfl | rfl <;> rfl)) ((r2.of_block (heap_alloc_old _ _ (by simp))).congr (fun j hj => by
    have : j = 0 ∨ j = 1 ∨ j = 2 ∨ j = 3 := by simp at hj; omega
    rcases this with rfl | rfl | rfl | rfl <;> rfl)) (qLf_ok HH.out.2.2.2.2.2.1 HH.out.2.2.2.2.2.2)
  have HA3 : Hid (_ ∧ _) := And.intro hA3 g2
  have HCA : Hid _ := CA1
  clear CA1 r1 r2 g2 hA3
  go_enter Tryz.func9, Tryz.ntmps9
  go_wp2_with (first | (go_at_call 25; refine Calls.mono HCA.out ?_; rintro e w1 ⟨ks1, a1, c1, rfl, S1, E1, B1⟩; refine Aside.out ?_))
  delta Aside
  have hB1 : Below w.heap.size w w1 := HA3.out.1.trans (B1.mono HA3.out.1.size)
  have g1 : w1.heap[w.heap.size + 1]? = some (.cells #[.int .i64 0, .int .i64 x, .int .i64 y, .slice none 0 0] 36) := (B1.block _ (by simp)).trans HA3.out.2
  have hcost : cS ks1 ≤ 601 := by
    have h1 := HH.out.2.2.2.2.1
    have h2 : cF (qLf x y).er = 1 := by simp [qLf, Lf.er, cF]
    rw [cS_er] at h1 ⊢
    rw [E1, List.map_append, List.sum_append]
    simp only [List.map_cons, List.map_nil, List.sum_cons, List.sum_nil, h2]
    omega
  have CK := check_by w1 (.pointer (some ⟨p, 0, none⟩)) a1 (ks.length + 1) c1 true false (areFormulas_in w1 base p ev nb fb l (HH.out.1.below HH.out.1.low hB1) a1 (ks.length + 1) c1 ks1 S1 (by omega)) (fun W hW => by
    have hlen := S1.len
    have S2 := S1.below hW
    rw [hlen] at S2 ⊢
    exact areMany_in W l.length a1 c1 ks1 S2 hcost)
  have HB1 : Hid (_ ∧ _) := And.intro hB1 g1
  have HCK : Hid _ := CK
  have ck0 : chkE true false = 0 := rfl
  rw [ck0] at HCK
  clear HCA HA3 S1 E1 B1 hB1 g1 hcost CK ck0
  apply_assumption
  go_wp2_with (first | (go_at_call 20; refine Calls.mono HCK.out ?_; rintro e w2 ⟨rfl, B2⟩; refine Aside.out ?_))
  delta Aside
  have hB2 : Below w.heap.size w w2 := HB1.out.1.trans (B2.mono HB1.out.1.size)
  have g1 : w2.heap[w.heap.size + 1]? = some (.cells #[.int .i64 0, .int .i64 x, .int .i64 y, .slice none 0 0] 36) := (B2.block _ (Array.getElem?_eq_some_iff.1 HB1.out.2).1).trans HB1.out.2
  obtain ⟨al, hal⟩ : ∃ a, w.heap.size + 1 = a := ⟨_, rfl⟩
  rw [hal] at g1
  simp only [hal]
  have hB3 : Below w2.heap.size w2 (((w2.alloc (.cells #[.int .i64 1, .int .i64 0, .int .i64 0, .slice (some ⟨al, 0, none⟩) 1 1] 36)).alloc (.cells #[.int .i64 1, .int .i64 0, .int .i64 0, .slice (some ⟨al, 0, none⟩) 1 1] 36)).alloc (.cells #[.slice pa ks.length pc, .slice (some ⟨w2.heap.size + 1, 0, none⟩) 1 1] 30)) := (((Below.refl _ _).alloc (Nat.le_refl _) _).alloc (by simp) _).alloc (by simp; omega) _
  have r1 := made_row ((w2.alloc (.cells #[.int .i64 1, .int .i64 0, .int .i64 0, .slice (some ⟨al, 0, none⟩) 1 1] 36)).alloc (.cells #[.int .i64 1, .int .i64 0, .int .i64 0, .slice (some ⟨al, 0, none⟩) 1 1] 36)) #[.slice pa ks.length pc, .slice (some ⟨w2.heap.size + 1, 0, none⟩) 1 1] 30
  have r2 := made_row (w2.alloc (.cells #[.int .i64 1, .int .i64 0, .int .i64 0, .slice (some ⟨al, 0, none⟩) 1 1] 36)) #[.int .i64 1, .int .i64 0, .int .i64 0, .slice (some ⟨al, 0, none⟩) 1 1] 36
  rw [show ((w2.alloc (.cells #[.int .i64 1, .int .i64 0, .int .i64 0, .slice (some ⟨al, 0, none⟩) 1 1] 36)).alloc (.cells #[.int .i64 1, .int .i64 0, .int .i64 0, .slice (some ⟨al, 0, none⟩) 1 1] 36)).heap.size = w2.heap.size + 1 + 1 by simp] at r1
  rw [show (w2.alloc (.cells #[.int .i64 1, .int .i64 0, .int .i64 0, .slice (some ⟨al, 0, none⟩) 1 1] 36)).heap.size = w2.heap.size + 1 by simp] at r2
  have CA2 := cat_in _ l.length pa pc ks ((HH.out.2.2.2.1.below hB2).below hB3) (by omega) (w2.heap.size + 1 + 1) (w2.heap.size + 1) (nLf al x y) (r1.congr (fun j hj => by
    have : j = 0 ∨ j = 1 := by simp at hj; omega
    rcases this with rfl | rfl <;> rfl)) ((r2.of_block (heap_alloc_old _ _ (by simp))).congr (fun j hj => by
    have : j = 0 ∨ j = 1 ∨ j = 2 ∨ j = 3 := by simp at hj; omega
    rcases this with rfl | rfl | rfl | rfl <;> rfl)) (nLf_ok HH.out.2.2.2.2.2.1 HH.out.2.2.2.2.2.2 ((hB3.block al (Array.getElem?_eq_some_iff.1 g1).1).trans g1))
  have HB3 : Hid (Below w.heap.size w _) := hB2.trans (hB3.mono hB2.size)
  have HCA : Hid _ := CA2
  clear CA2 r1 r2 g1 hB2 hB3 B2 HCK HB1 hal
  apply_assumption
  go_wp2_with (first | (go_at_call 25; refine Calls.mono HCA.out ?_; rintro e w3 ⟨ks3, a3, c3, rfl, S3, E3, B3⟩; refine Aside.out ?_))
  delta Aside
  have hB4 : Below w.heap.size w w3 := HB3.out.trans (B3.mono HB3.out.size)
  have hBk3 := HH.out.1.below HH.out.1.low hB4
  rw [nLf_er] at E3
  have hF3 := S3.fsm
  have hlen3 : (ks.map Lf.er ++ [Fo.neg (Fo.eq x y)]).length = ks.length + 1 := by simp
  rw [E3] at hF3
  have NW := newProblem_in w3 base p ev nb fb l hBk3 (by omega) a3 c3 _ hF3 HH.out.2.1.ok
  rw [hlen3] at NW
  have HB4 : Hid (_ ∧ _) := And.intro hB4 hBk3
  have HNW : Hid _ := NW
  clear HCA HB3 S3 E3 B3 hB4 hBk3 hF3 hlen3 NW
  apply_assumption
  go_wp2_with (first | (go_at_call 21; refine Calls.mono HNW.out ?_; rintro e w4 ⟨pb, vb, kb, ta, tc, fv, lv, S, gs, rfl, N4⟩; refine Aside.out ?_))
  delta Aside
  rw [HH.out.2.1.adds] at N4
  obtain ⟨fa, fc, rfl⟩ := ownsRow_form N4.row
  have hgl : gs.length = fs.length := N4.len
  have c2 : w4.cell? ⟨pb, 2, none⟩ = some (.slice fa gs.length fc) := N4.pm.cells.cell (i := 2) (by omega)
  have hfl : gs.length = ks.length + 1 := by
    rw [hgl]
    have := adds_len l.length (ks.map Lf.er ++ [Fo.neg (Fo.eq x y)]) pb0 []
    rw [HH.out.2.1.adds] at this
    simpa using this
  rw [hfl] at c2
  have AL := dall_in w4 pb fa (ks.length + 1) fc (by omega) c2
  have hfe : fs.length = ks.length + 1 := by omega
  have HN4 : Hid (_ ∧ _) := And.intro N4 hfe
  clear HNW N4 hgl hfl hfe c2
  apply_assumption
  go_wp2_with (first | (go_at_call 23; refine AL.mono ?_; rintro e w5 ⟨rfl, R5, B5⟩; refine Aside.out ?_))
  delta Aside
  have N5 := HN4.out.1.below B5
  have R5' := R5.own (by rw [List.length_range]; omega)
  have hE := N5.env HB4.out.2 R5'
  rw [List.length_range] at hE
  have MD := model_in solveOk S w5 pb vb kb _ lv P base p ev nb fb l ta tc N5.pm hb hl fs (some ⟨w4.heap.size, 0, none⟩) (ks.length + 1) (List.range (ks.length + 1)) hE (by rw [← HN4.out.2]; exact HH.out.2.1.fso) HH.out.2.1.has HH.out.2.1.vrp HH.out.2.1.few (fun r _ => (r = none ↔ C = true)) 2 (Nat.le_refl _) (by rw [← HN4.out.2]; exact HH.out.2.2.1)
  rw [List.length_range] at MD
  have MD2 : Calls Tryz.prog 22 #[.pointer (some ⟨pb, 0, none⟩), .slice (some ⟨w4.heap.size, 0, none⟩) (ks.length + 1) (ks.length + 1)] w5 fun e w' => ∃ cv, e = .returned (.tuple #[cv, .bool (!C)]) ∧ Hid (Below w.heap.size w w') := by
    refine MD.mono ?_
    rintro e w6 ⟨r, Q, S', lv', hr, X6, _, _, hnone, hans⟩
    have hb35 : Below w3.heap.size w3 w5 := (N5.parts w5 (Kept.refl _ _)).2.1
    have hb56 : Below w3.heap.size w5 w6 := X6.kept.below hb35.size (fun k hk => N5.low k (Or.inl hk))
    have hb36 := hb35.trans hb56
    have hbw : Below w.heap.size w w6 := HB4.out.1.trans (hb36.mono HB4.out.1.size)
    cases r with
    | none =>
      rw [hr.1 rfl]
      exact ⟨_, hnone rfl, hbw⟩
    | some t =>
      obtain ⟨cb, g, e6, _⟩ := hans t rfl
      have hC : C = false := by
        cases C with
        | false => rfl
        | true => exact absurd (hr.2 rfl) (by simp)
      rw [hC]
      exact ⟨_, e6, hbw⟩
  clear MD hE R5' N5 R5 B5 AL HN4 HH HB4
  apply_assumption
  go_wp2_with (first | (go_at_call 22; refine MD2.mono ?_; rintro e w6 ⟨cv, rfl, H6⟩))
  go_ret2
  exact ⟨rfl, H6.out⟩
end Go.Proofs.YtlehlgipbhfioaaGreat

namespace Go.Proofs.YtlehlgipbhfioaaGreat
open Go.RowKit Go.Maps

/-- What a problem of a bank keeps to. -/
abbrev PhB (w0 : World) (l : List Tm) (ta : Option Addr) (tc : Nat) : World → Prop := fun W => Below w0.heap.size w0 W ∧ TsAt W (.slice ta l.length tc) l
theorem Np.bel {w0 : World} {l : List Tm} {ta : Option Addr} {tc B : Nat} {S : Nat → Prop} {W : World} {pb vb kb : Nat} {bk tv fv lv : Value} {P : Pb} {N : Nat} {fs : List Fm} {gs : List Sx} (h : Np (PhB w0 l ta tc) B S W pb vb kb bk tv fv lv P N fs gs) : Below w0.heap.size w0 W := (h.parts W (Kept.refl _ _)).2.1
/-- model, reckoned. -/
theorem model_by (w0 : World) (base p : Nat) (ev : Value) (nb fb : Nat) (l : List Tm) (hB : Bk w0 base p ev nb fb l) (hb : Cc.Bd l) (hl : l.length ≤ 150) (ta : Option Addr) (tc : Nat) (fs : List Fm) (gs : List Sx) (ham : AmOk l.length fs) (S : Nat → Prop) (W : World) (pb vb kb : Nat) (fv lv : Value) (P : Pb) (h : Np (PhB w0 l ta tc) w0.heap.size S W pb vb kb (.pointer (some ⟨p, 0, none⟩)) (.slice ta l.length tc) fv lv P l.length fs gs) (hr : VrP P) (hv : HasV fs P) (b0 : Nat) (xa : Option Addr) (xc : Nat) (ns : List Nat) (hx : W.ownsRow b0 3 1 (.slice xa ns.length xc) ns.length (natC ns)) (hok : okB P fs ns = true) (o : Option (List Pr)) (Q : Pb) (hM : mdlN l fs ns 2 P = some (o, Q)) :
    Calls Tryz.prog 22 #[.pointer (some ⟨pb, 0, none⟩), .slice xa ns.length xc] W fun e w' => ∃ S' lv', PmX S W S' w' pb vb kb (.pointer (some ⟨p, 0, none⟩)) (.slice ta l.length tc) fv lv lv' Q ∧ VrP Q ∧ HasV fs Q ∧ MdlAns W l o e w' := by
  obtain ⟨k1, k2, k3⟩ := okB_ok hok
  refine (model_in solveOk S W pb vb kb fv lv P base p ev nb fb l ta tc h.pm hb hl fs xa xc ns (h.env hB hx) (ham.fsok k2 k3) hv hr k1 _ 2 (Nat.le_refl _) (mdlN_ok 2 P _ hM)).mono ?_
  rintro e w' ⟨r, Q', S', lv', hq, X, h1, h2, h3⟩
  cases hq
  exact ⟨S', lv', X, h1, h2, h3⟩

set_option maxRecDepth 100000 in
set_option maxHeartbeats 4000000 in
theorem denough_in (w0 : World) (base p : Nat) (ev : Value) (nb fb : Nat) (l : List Tm) (hB : Bk w0 base p ev nb fb l) (hb : Cc.Bd l) (hl : l.length ≤ 150) (ta : Option Addr) (tc : Nat) (fs : List Fm) (gs : List Sx) (ham : AmOk l.length fs) (hfl : fs.length ≤ 1000) (w : World) (S : Nat → Prop) (pb vb kb : Nat) (fv lv : Value) (P : Pb) (h0 : Np (PhB w0 l ta tc) w0.heap.size S w pb vb kb (.pointer (some ⟨p, 0, none⟩)) (.slice ta l.length tc) fv lv P l.length fs gs) (hr : VrP P) (hv : HasV fs P) (f : Nat) (r : List Nat) (Q : Pb) (hE : enoB l fs f P [] = some (r, Q)) (T : List Nat) (hT : T.Perm r ∧ T.Pairwise (· < ·)) (hr0 : 0 < r.length) :
    Calls Tryz.prog 50 #[.pointer (some ⟨pb, 0, none⟩)] w fun e w' => ∃ v S' lv', e = .returned v ∧ EnI (PhB w0 l ta tc) w0.heap.size w lv S' w' pb vb kb (.pointer (some ⟨p, 0, none⟩)) (.slice ta l.length tc) fv lv' Q l.length fs gs v T ∧ VrP Q ∧ HasV fs Q := by
  have HH : Hid (_ ∧ _ ∧ _ ∧ _ ∧ _ ∧ _) := And.intro hB (And.intro ham (And.intro h0 (And.intro hT (And.intro hr0 (And.intro hb hl)))))
  have H0 : Hid (enoB l fs f P [] = some (r, Q) ∧ EnI (PhB w0 l ta tc) w0.heap.size w lv S w pb vb kb (.pointer (some ⟨p, 0, none⟩)) (.slice ta l.length tc) fv lv P l.length fs gs (.slice none 0 0) [] ∧ VrP P ∧ HasV fs P) := ⟨hE, EnI.start h0, hr, hv⟩
  obtain ⟨i0, hi0, hz0, hz1, hz2⟩ := info_parts infoIntq
  clear hB ham h0 hr hv hE hT hr0
  go_enter Tryz.func50, Tryz.ntmps50
  go_wp2_with fail
  go_loopg [3] f (fun k t3 W => ∃ ns P' S' lv', Hid (enoB l fs k P' ns = some (r, Q) ∧ EnI (PhB w0 l ta tc) w0.heap.size w lv S' W pb vb kb (.pointer (some ⟨p, 0, none⟩)) (.slice ta l.length tc) fv lv' P' l.length fs gs t3 ns ∧ VrP P' ∧ HasV fs P'))
  case atStart => exact ⟨[], P, S, lv, H0⟩
  case round =>
    obtain ⟨ns, P', S', lv', HI⟩ := hrel
    clear H0
    cases gk with
    | zero => exact absurd HI.out.1 (by simp [enoB])
    | succ k =>
    have hen := HI.out.1
    rw [enoB] at hen
    by_cases hok : okB P' fs ns = true
    · rw [if_pos hok] at hen
      obtain ⟨va, vc, hva⟩ := ownsRow_form HI.out.2.1.row
      subst hva
      cases hm : mdlN l fs ns 2 P' with
      | none => rw [hm] at hen; cases hen
      | some res =>
        obtain ⟨o, Q1⟩ := res
        rw [hm] at hen
        have MD := model_by w0 base p ev nb fb l HH.out.1 HH.out.2.2.2.2.2.1 HH.out.2.2.2.2.2.2 ta tc fs gs HH.out.2.1 S' wr pb vb kb fv lv' P' HI.out.2.1.np HI.out.2.2.1 HI.out.2.2.2 _ va vc ns HI.out.2.1.row hok o Q1 hm
        have hnl := (okB_ok hok).2.1
        have HMD : Hid _ := MD
        have HEN : Hid _ := hen
        obtain ⟨nn, hnn⟩ : ∃ n, ns.length = n := ⟨_, rfl⟩
        have HNN : Hid _ := hnn
        rw [hnn] at hnl HMD
        simp only [hnn]
        clear MD hm hok hen hnn
        cases o with
        | none =>
          have hen := HEN.out
          simp only at hen
          cases hen
          have MD2 : Calls Tryz.prog 22 #[.pointer (some ⟨pb, 0, none⟩), .slice va nn vc] wr fun e w' => e = .returned (.tuple #[.slice none 0 0, .bool false]) ∧ Hid (∃ S' lv', EnI (PhB w0 l ta tc) w0.heap.size w lv S' w' pb vb kb (.pointer (some ⟨p, 0, none⟩)) (.slice ta l.length tc) fv lv' Q l.length fs gs (.slice va nn vc) r ∧ VrP Q ∧ HasV fs Q) := by
            refine Calls.mono HMD.out ?_
            rintro e w' ⟨S2, lv2, X, h1, h2, h3⟩
            refine ⟨h3.1 rfl, S2, lv2, ?_, h1, h2⟩
            rw [← HNN.out]
            exact HI.out.2.1.step HI.out.2.1.np.bel.size X
          have HST : Hid (∀ W, (∃ S' lv', EnI (PhB w0 l ta tc) w0.heap.size w lv S' W pb vb kb (.pointer (some ⟨p, 0, none⟩)) (.slice ta l.length tc) fv lv' Q l.length fs gs (.slice va nn vc) r ∧ VrP Q ∧ HasV fs Q) → Calls Tryz.prog 97 #[.slice va nn vc] W fun e w' => e = .returned (.tuple #[]) ∧ Hid (∃ v S' lv', v = .slice va nn vc ∧ EnI (PhB w0 l ta tc) w0.heap.size w lv S' w' pb vb kb (.pointer (some ⟨p, 0, none⟩)) (.slice ta l.length tc) fv lv' Q l.length fs gs v T ∧ VrP Q ∧ HasV fs Q)) := by
            rintro W ⟨S2, lv2, E2, h1, h2⟩
            refine (Sort_nat W w.heap.size (.slice va nn vc) r T (r.length - 1) (by have := HH.out.2.2.2.2.1; omega) (by rw [HNN.out]; omega) E2.row HH.out.2.2.2.1.1 HH.out.2.2.2.1.2).mono ?_
            rintro e w' ⟨rfl, o9, g9⟩
            exact ⟨rfl, _, S2, lv2, rfl, EnI.push HH.out.2.2.1 E2 (Below.refl _ _) o9 g9 (Or.inl rfl), h1, h2⟩
          clear HMD HEN HI
          go_wp2_with (first | (go_at_call 22; refine MD2.mono ?_; rintro e w5 ⟨rfl, H5⟩) | (go_at_call 97; refine (HST.out _ H5.out).mono ?_; rintro e w6 ⟨rfl, H6⟩))
          obtain ⟨v6, S6, lv6, rfl, E6⟩ := H6.out
          go_ret
          exact ⟨_, S6, lv6, rfl, E6⟩
        | some told =>
          have hen := HEN.out
          simp only at hen
          by_cases hx : fstF l told fs < fs.length
          · rw [if_pos hx] at hen
            have MD2 : Calls Tryz.prog 22 #[.pointer (some ⟨pb, 0, none⟩), .slice va nn vc] wr fun e w' => ∃ cb, e = .returned (.tuple #[.slice (some ⟨cb, 0, none⟩) l.length l.length, .bool true]) ∧ Hid (ClM w' cb l.length (cgN l told) ∧ ∃ S' lv', EnI (PhB w0 l ta tc) w0.heap.size w lv S' w' pb vb kb (.pointer (some ⟨p, 0, none⟩)) (.slice ta l.length tc) fv lv' Q1 l.length fs gs (.slice va nn vc) ns ∧ VrP Q1 ∧ HasV fs Q1) := by
              refine Calls.mono HMD.out ?_
              rintro e w' ⟨S2, lv2, X, h1, h2, h3⟩
              obtain ⟨cb, g, rfl, _, hrow, hg⟩ := h3.2 told rfl
              refine ⟨cb, rfl, ⟨g, hrow, hg⟩, S2, lv2, ?_, h1, h2⟩
              rw [← HNN.out]
              exact HI.out.2.1.step HI.out.2.1.np.bel.size X
            have HFF : Hid (∀ W cb, (ClM W cb l.length (cgN l told) ∧ ∃ S' lv', EnI (PhB w0 l ta tc) w0.heap.size w lv S' W pb vb kb (.pointer (some ⟨p, 0, none⟩)) (.slice ta l.length tc) fv lv' Q1 l.length fs gs (.slice va nn vc) ns ∧ VrP Q1 ∧ HasV fs Q1) → Calls Tryz.prog 98 #[.pointer (some ⟨pb, 0, none⟩), .slice (some ⟨cb, 0, none⟩) l.length l.length] W fun e w' => e = .returned (.int .i64 ((fstF l told fs : Nat) : Int)) ∧ Hid (∃ S' lv', EnI (PhB w0 l ta tc) w0.heap.size w lv S' w' pb vb kb (.pointer (some ⟨p, 0, none⟩)) (.slice ta l.length tc) fv lv' Q1 l.length fs gs (.slice va nn vc) ns ∧ VrP Q1 ∧ HasV fs Q1)) := by
              rintro W cb ⟨C, S2, lv2, E2, h1, h2⟩
              obtain ⟨fa, fc, hfv⟩ := ownsRow_form E2.np.row
              have c2 : W.cell? ⟨pb, 2, none⟩ = some fv := E2.np.pm.cells.cell (i := 2) (by omega)
              have hfm := E2.np.fms W (Kept.refl _ _)
              rw [hfv, E2.np.len] at c2 hfm
              refine (firstFalse_in W pb cb l.length (cgN l told) C (by have := HH.out.2.2.2.2.2.2; omega) fa fc fs c2 hfm (by omega) hx).mono ?_
              rintro e w' ⟨rfl, B9⟩
              exact ⟨rfl, S2, lv2, E2.below B9, h1, h2⟩
            have HEN2 : Hid _ := hen
            clear HMD HEN HI hen hx
            generalize fstF l told fs = q at *
            go_wp2_with (first | (go_at_call 22; refine MD2.mono ?_; rintro e w5 ⟨cb, rfl, H5⟩) | (go_at_call 98; refine (HFF.out _ _ H5.out).mono ?_; rintro e w6 ⟨rfl, H6⟩; refine Aside.out ?_))
            delta Aside
            obtain ⟨S6, lv6, E6, h1, h2⟩ := H6.out
            have row6 := E6.row
            rw [HNN.out] at row6
            have hzw := E6.kept.size
            have HE6 : Hid (_ ∧ _ ∧ _) := And.intro E6 (And.intro h1 h2)
            clear E6 h1 h2 H6 H5 MD2 HFF
            apply_assumption
            go_wp2_with (first | (at_builtin; refine Aside.out ?_))
            delta Aside
            refine wpList_append_own_at _ rfl _ _ 39 rfl w.heap.size 3 i0 _ 1 8 Tryz.underlying39 hi0 hz0 hz1 hz2 rfl (by decide) _ _ _ rfl (row6.alloc _) ⟨_, 0, none⟩ 1 1 [.int .i64 (q : Int)] rfl rfl (cell_oneV w6 _ _) (by simp [Value.oneCell']) (by unfold maxLen; omega) (by omega) (Nat.le_trans hzw (by simp)) ?_
            intro v8 w8 hown8 hgrow8 _ hat8
            have HF : Hid (∃ S' lv', enoB l fs k Q1 (ns ++ [q]) = some (r, Q) ∧ EnI (PhB w0 l ta tc) w0.heap.size w lv S' w8 pb vb kb (.pointer (some ⟨p, 0, none⟩)) (.slice ta l.length tc) fv lv' Q1 l.length fs gs v8 (ns ++ [q]) ∧ VrP Q1 ∧ HasV fs Q1) := by
              have e1 : natC (ns ++ [q]) = natC ns ++ [.int .i64 (q : Int)] := by simp [natC]
              refine ⟨S6, lv6, HEN2.out, EnI.push HH.out.2.2.1 HE6.out.1 ((Below.refl _ _).alloc (Nat.le_refl _) _) ?_ hgrow8 (hat8.imp id (fun e k hk => by rw [e] at hk; cases hk; exact Nat.le_refl _)), HE6.out.2⟩
              rw [e1, List.length_append, HNN.out]
              exact hown8
            clear hown8 hgrow8 hat8 row6 HE6 HEN2
            go_wp2_with fail
            go_roundg k
            obtain ⟨S8, lv8, F8⟩ := HF.out
            exact ⟨_, _, S8, lv8, F8⟩
            exact Nat.lt_succ_self k
          · rw [if_neg hx] at hen
            cases hen
    · rw [if_neg hok] at hen
      cases hen
end Go.Proofs.YtlehlgipbhfioaaGreat

namespace Go.Proofs.YtlehlgipbhfioaaGreat
open Go.RowKit Go.Maps

theorem EnI.swap {Φ : World → Prop} {B : Nat} {w : World} {lv0 : Value} {S : Nat → Prop} {W W' : World} {pb vb kb : Nat} {bk tv fv lv : Value} {P : Pb} {N : Nat} {fs : List Fm} {gs : List Sx} {v v' : Value} {ns ns' : List Nat} (h : EnI Φ B w lv0 S W pb vb kb bk tv fv lv P N fs gs v ns) (hB : Below W.heap.size W W') (hr : W'.ownsRow W.heap.size 3 1 v' ns'.length (natC ns')) : EnI Φ B w lv0 S W' pb vb kb bk tv fv lv P N fs gs v' ns' :=
  ⟨h.np.below hB, h.kept.under hB, h.dq, row_low hr h.kept.size, fun k hk e => by
    have h1 := (ownsRow_lt hr hk).1
    have h2 := h.np.pm.lt k e
    omega⟩
theorem EnI.other {Φ : World → Prop} {B : Nat} {w : World} {lv0 : Value} {S S' : Nat → Prop} {W W' : World} {pb vb kb : Nat} {bk tv fv lv lv' : Value} {P Q : Pb} {N : Nat} {fs : List Fm} {gs : List Sx} {v : Value} {ns : List Nat} (h : EnI Φ B w lv0 S W pb vb kb bk tv fv lv P N fs gs v ns) (x : PmX S W S' W' pb vb kb bk tv fv lv lv' Q) {b0 n : Nat} {u : Value} {xs : List Value} (hr : W.ownsRow b0 3 1 u n xs) : W'.ownsRow b0 3 1 u n xs := ownsRow_blk hr (fun b hb => x.kept.block b (ownsRow_lt hr hb).2 (h.np.pm.pdne hr (by decide) (by decide) hb))

set_option maxRecDepth 100000 in
set_option maxHeartbeats 4000000 in
theorem core_in (w0 : World) (base p : Nat) (ev : Value) (nb fb : Nat) (l : List Tm) (hB : Bk w0 base p ev nb fb l) (hb : Cc.Bd l) (hl : l.length ≤ 150) (ta : Option Addr) (tc : Nat) (fs : List Fm) (gs : List Sx) (ham : AmOk l.length fs) (hfl : fs.length ≤ 1000) (w : World) (S : Nat → Prop) (pb vb kb : Nat) (fv lv : Value) (P : Pb) (h0 : Np (PhB w0 l ta tc) w0.heap.size S w pb vb kb (.pointer (some ⟨p, 0, none⟩)) (.slice ta l.length tc) fv lv P l.length fs gs) (hr : VrP P) (hv : HasV fs P) (f : Nat) (r : List Nat) (Q : Pb) (hE : enoB l fs f P [] = some (r, Q)) (T : List Nat) (hT : T.Perm r ∧ T.Pairwise (· < ·)) (hr0 : 0 < r.length) (hTl : T.length ≤ 100) (R : List Nat) (Q2 : Pb) (hC : corB l fs T Q T = some (R, Q2)) :
    Calls Tryz.prog 24 #[.pointer (some ⟨pb, 0, none⟩)] w fun e w' => ∃ ca cc, e = .returned (.slice ca R.length cc) ∧ Below w0.heap.size w0 w' := by
  have EN := denough_in w0 base p ev nb fb l hB hb hl ta tc fs gs ham hfl w S pb vb kb fv lv P h0 hr hv f r Q hE T hT hr0
  have hT0 : 0 < T.length := by rw [hT.1.length_eq]; exact hr0
  have HH : Hid (_ ∧ _ ∧ _ ∧ _ ∧ _) := And.intro hB (And.intro ham (And.intro hC (And.intro hb hl)))
  have EN2 : Calls Tryz.prog 50 #[.pointer (some ⟨pb, 0, none⟩)] w fun e w' => ∃ va vc, e = .returned (.slice va T.length vc) ∧ Hid (∃ S' lv', EnI (PhB w0 l ta tc) w0.heap.size w lv S' w' pb vb kb (.pointer (some ⟨p, 0, none⟩)) (.slice ta l.length tc) fv lv' Q l.length fs gs (.slice va T.length vc) T ∧ VrP Q ∧ HasV fs Q) := by
    refine EN.mono ?_
    rintro e w' ⟨v, S', lv', rfl, E1, h1, h2⟩
    obtain ⟨va, vc, rfl⟩ := ownsRow_form E1.row
    exact ⟨va, vc, rfl, S', lv', E1, h1, h2⟩
  have HCL : Hid (∀ (W : World) (va : Option Addr) (vc : Nat), (∃ S' lv', EnI (PhB w0 l ta tc) w0.heap.size w lv S' W pb vb kb (.pointer (some ⟨p, 0, none⟩)) (.slice ta l.length tc) fv lv' Q l.length fs gs (.slice va T.length vc) T ∧ VrP Q ∧ HasV fs Q) → Calls Tryz.prog 51 #[.slice va T.length vc] W fun e w' => ∃ ca cc, e = .returned (.slice ca T.length cc) ∧ Hid (w'.ownsRow 0 3 1 (.slice ca T.length cc) T.length (natC T) ∧ ∃ S' lv', EnI (PhB w0 l ta tc) w0.heap.size w lv S' w' pb vb kb (.pointer (some ⟨p, 0, none⟩)) (.slice ta l.length tc) fv lv' Q l.length fs gs (.slice va T.length vc) T ∧ VrP Q ∧ HasV fs Q)) := by
    rintro W va vc ⟨S', lv', E1, h1, h2⟩
    refine (clone_in W _ _ T E1.row hT0 (by omega)).mono ?_
    rintro e w' ⟨v', rfl, R1, B1⟩
    obtain ⟨ca, cc, rfl⟩ := ownsRow_form R1
    exact ⟨ca, cc, rfl, row_low R1 (Nat.zero_le _), S', lv', E1.below B1, h1, h2⟩
  obtain ⟨tn, htn⟩ : ∃ n, T.length = n := ⟨_, rfl⟩
  have HTN : Hid _ := htn
  rw [htn] at EN2 HCL hTl hT0
  clear EN h0 hB ham hr hv hE hT hr0 hC htn
  go_enter Tryz.func24, Tryz.ntmps24
  go_wp2_with (first | (go_at_call 50; refine EN2.mono ?_; rintro e w1 ⟨va, vc, rfl, H1⟩) | (go_at_call 51; refine (HCL.out _ _ _ H1.out).mono ?_; rintro e w2 ⟨ca, cc, rfl, H2⟩; refine Aside.out ?_))
  delta Aside
  have HS0 : Hid (∃ ns P' S' lv', (corB l fs (T.drop 0) P' ns = some (R, Q2) ∧ ns.length ≤ 100) ∧ w2.ownsRow 0 3 1 (.slice ca tn cc) tn (natC T) ∧ EnI (PhB w0 l ta tc) w0.heap.size w lv S' w2 pb vb kb (.pointer (some ⟨p, 0, none⟩)) (.slice ta l.length tc) fv lv' P' l.length fs gs (.slice va tn vc) ns ∧ VrP P' ∧ HasV fs P') := by
    obtain ⟨q1, S', lv', q2⟩ := H2.out
    exact ⟨T, Q, S', lv', ⟨HH.out.2.2.1, by rw [HTN.out]; exact hTl⟩, q1, q2⟩
  clear EN2 HCL H1 H2
  apply_assumption
  go_wp2_with fail
  go_loopw [3, 14] (fun t3 t14 W => ∃ i : Nat, i ≤ tn ∧ t14 = .int .i64 (i : Int) ∧ Hid (∃ ns P' S' lv', (corB l fs (T.drop i) P' ns = some (R, Q2) ∧ ns.length ≤ 100) ∧ W.ownsRow 0 3 1 (.slice ca tn cc) tn (natC T) ∧ EnI (PhB w0 l ta tc) w0.heap.size w lv S' W pb vb kb (.pointer (some ⟨p, 0, none⟩)) (.slice ta l.length tc) fv lv' P' l.length fs gs t3 ns ∧ VrP P' ∧ HasV fs P')) (fun _ t14 _ => tn - (intOf t14).toNat)
  case atStart => exact ⟨0, Nat.zero_le _, rfl, HS0⟩
  case round =>
    obtain ⟨i, hi, rfl, HI⟩ := hrel
    clear HS0
    obtain ⟨ns, P', S', lv', ⟨hcor, hns⟩, hrow, E1, hr1, hv1⟩ := HI.out
    obtain ⟨sa, sc, hsa⟩ := ownsRow_form E1.row
    subst hsa
    by_cases hlt : i < tn
    · have di : decide ((i : Int) < (tn : Int)) = true := decide_eq_true (by omega)
      have hwi : IntKind.i64.wrap ((i : Int) + 1) = (i : Int) + 1 := wrap_nat1 (by omega)
      have hil : i < T.length := by rw [HTN.out]; exact hlt
      rw [List.drop_eq_getElem_cons hil, corB] at hcor
      obtain ⟨g, c2, eg, q1⟩ := own_one hrow (natC_at (List.getElem?_eq_getElem hil))
      cases eg
      generalize T[i] = x at *
      by_cases hok : (okB P' fs (neF x ns) && decide (x ∈ ns)) = true
      · rw [if_pos hok] at hcor
        rw [Bool.and_eq_true, decide_eq_true_eq] at hok
        have WO := without_in wr _ _ ns E1.row (by omega) x hok.2
        cases hm : mdlN l fs (neF x ns) 2 P' with
        | none => rw [hm] at hcor; cases hcor
        | some res =>
          obtain ⟨o, Q1⟩ := res
          rw [hm] at hcor
          have hle : (neF x ns).length ≤ ns.length := List.length_filter_le _ _
          have WO2 : Calls Tryz.prog 52 #[.slice sa ns.length sc, .int .i64 (x : Int)] wr fun e w' => ∃ ra rc, e = .returned (.slice ra (neF x ns).length rc) ∧ Hid (w'.ownsRow 0 3 1 (.slice (some ⟨g, 0, none⟩) tn cc) tn (natC T) ∧ EnI (PhB w0 l ta tc) w0.heap.size w lv S' w' pb vb kb (.pointer (some ⟨p, 0, none⟩)) (.slice ta l.length tc) fv lv' P' l.length fs gs (.slice sa ns.length sc) ns ∧ EnI (PhB w0 l ta tc) w0.heap.size w lv S' w' pb vb kb (.pointer (some ⟨p, 0, none⟩)) (.slice ta l.length tc) fv lv' P' l.length fs gs (.slice ra (neF x ns).length rc) (neF x ns)) := by
            refine WO.mono ?_
            rintro e w' ⟨v1, rfl, R1, B1⟩
            obtain ⟨ra, rc, rfl⟩ := ownsRow_form R1
            exact ⟨ra, rc, rfl, ownsRow_below hrow B1, E1.below B1, E1.swap B1 R1⟩
          have HMD : Hid (∀ (W : World) (ra : Option Addr) (rc : Nat), (W.ownsRow 0 3 1 (.slice (some ⟨g, 0, none⟩) tn cc) tn (natC T) ∧ EnI (PhB w0 l ta tc) w0.heap.size w lv S' W pb vb kb (.pointer (some ⟨p, 0, none⟩)) (.slice ta l.length tc) fv lv' P' l.length fs gs (.slice sa ns.length sc) ns ∧ EnI (PhB w0 l ta tc) w0.heap.size w lv S' W pb vb kb (.pointer (some ⟨p, 0, none⟩)) (.slice ta l.length tc) fv lv' P' l.length fs gs (.slice ra (neF x ns).length rc) (neF x ns)) →
              Calls Tryz.prog 22 #[.pointer (some ⟨pb, 0, none⟩), .slice ra (neF x ns).length rc] W fun e w' => ∃ cv, e = .returned (.tuple #[cv, .bool o.isSome]) ∧ Hid (w'.ownsRow 0 3 1 (.slice (some ⟨g, 0, none⟩) tn cc) tn (natC T) ∧ ∃ S2 lv2, EnI (PhB w0 l ta tc) w0.heap.size w lv S2 w' pb vb kb (.pointer (some ⟨p, 0, none⟩)) (.slice ta l.length tc) fv lv2 Q1 l.length fs gs (.slice sa ns.length sc) ns ∧ EnI (PhB w0 l ta tc) w0.heap.size w lv S2 w' pb vb kb (.pointer (some ⟨p, 0, none⟩)) (.slice ta l.length tc) fv lv2 Q1 l.length fs gs (.slice ra (neF x ns).length rc) (neF x ns) ∧ VrP Q1 ∧ HasV fs Q1)) := by
            rintro W ra rc ⟨g1, g2, g3⟩
            refine (model_by w0 base p ev nb fb l HH.out.1 HH.out.2.2.2.1 HH.out.2.2.2.2 ta tc fs gs HH.out.2.1 S' W pb vb kb fv lv' P' g3.np hr1 hv1 _ ra rc (neF x ns) g3.row hok.1 o Q1 hm).mono ?_
            rintro e w' ⟨S2, lv2, X, h1, h2, h3⟩
            have hz := g3.np.bel.size
            have HR : w'.ownsRow 0 3 1 (.slice (some ⟨g, 0, none⟩) tn cc) tn (natC T) ∧ ∃ S2 lv2, EnI (PhB w0 l ta tc) w0.heap.size w lv S2 w' pb vb kb (.pointer (some ⟨p, 0, none⟩)) (.slice ta l.length tc) fv lv2 Q1 l.length fs gs (.slice sa ns.length sc) ns ∧ EnI (PhB w0 l ta tc) w0.heap.size w lv S2 w' pb vb kb (.pointer (some ⟨p, 0, none⟩)) (.slice ta l.length tc) fv lv2 Q1 l.length fs gs (.slice ra (neF x ns).length rc) (neF x ns) ∧ VrP Q1 ∧ HasV fs Q1 := ⟨g3.other X g1, S2, lv2, g2.step hz X, g3.step hz X, h1, h2⟩
            cases o with
            | none => exact ⟨_, h3.1 rfl, HR⟩
            | some told =>
              obtain ⟨cb, gg, e9, _⟩ := h3.2 told rfl
              exact ⟨_, e9, HR⟩
          have HCO : Hid _ := hcor
          have HLE : Hid ((neF x ns).length ≤ 100 ∧ ns.length ≤ 100) := ⟨by omega, hns⟩
          obtain ⟨n1, hn1⟩ : ∃ n, ns.length = n := ⟨_, rfl⟩
          obtain ⟨n2, hn2⟩ : ∃ n, (neF x ns).length = n := ⟨_, rfl⟩
          rw [hn1, hn2] at WO2 HMD
          simp only [hn1]
          clear WO hm hok hcor HI E1 hrow hr1 hv1 hle hns hn1 hn2
          cases o with
          | none =>
            simp only [Option.isSome_none] at HMD
            go_wp2_with (first | (go_at_call 52; refine WO2.mono ?_; rintro e w5 ⟨ra, rc, rfl, H5⟩) | (go_at_call 22; refine (HMD.out _ _ _ H5.out).mono ?_; rintro e w6 ⟨cv, rfl, H6⟩))
            refine ⟨⟨i + 1, hlt, by simp, ?_⟩, by simp [intOf]; omega⟩
            obtain ⟨k1, S2, lv2, k2, k3, k4⟩ := H6.out
            exact ⟨_, Q1, S2, lv2, ⟨HCO.out, HLE.out.1⟩, k1, k3, k4⟩
          | some told =>
            simp only [Option.isSome_some] at HMD
            go_wp2_with (first | (go_at_call 52; refine WO2.mono ?_; rintro e w5 ⟨ra, rc, rfl, H5⟩) | (go_at_call 22; refine (HMD.out _ _ _ H5.out).mono ?_; rintro e w6 ⟨cv, rfl, H6⟩))
            refine ⟨⟨i + 1, hlt, by simp, ?_⟩, by simp [intOf]; omega⟩
            obtain ⟨k1, S2, lv2, k2, k3, k4⟩ := H6.out
            exact ⟨_, Q1, S2, lv2, ⟨HCO.out, HLE.out.2⟩, k1, k2, k4⟩
      · rw [if_neg hok] at hcor
        cases hcor
    · have di : decide ((i : Int) < (tn : Int)) = false := decide_eq_false (by omega)
      obtain rfl : i = tn := by omega
      rw [List.drop_of_length_le (by rw [HTN.out]; exact Nat.le_refl _), corB] at hcor
      cases hcor
      have HF : Hid _ := E1.np.bel
      clear HI E1 hrow hr1 hv1
      go_wp2_with fail
      go_ret
      exact ⟨_, _, rfl, HF.out⟩
end Go.Proofs.YtlehlgipbhfioaaGreat

namespace Go.Proofs.YtlehlgipbhfioaaGreat
open Go.RowKit Go.Maps

set_option maxRecDepth 100000 in
set_option maxHeartbeats 4000000 in
theorem decide_no (w : World) (base p : Nat) (ev : Value) (nb fb : Nat) (l : List Tm) (hB : Bk w base p ev nb fb l) (hb : Cc.Bd l) (hl : l.length ≤ 150) (pa : Option Addr) (pc : Nat) (ks : List Lf) (P : Pb) (fs : List Fm) (hA : Asked w l pa pc ks P fs) (ham : AmOk l.length fs) (Q0 : Pb) (hok : okB P fs (List.range fs.length) = true) (hM : mdlN l fs (List.range fs.length) 2 P = some (none, Q0)) (f : Nat) (r : List Nat) (Q : Pb) (hE : enoB l fs f Q0 [] = some (r, Q)) (T : List Nat) (hT : T.Perm r ∧ T.Pairwise (· < ·)) (hr0 : 0 < r.length) (hTl : T.length ≤ 100) (R : List Nat) (Q2 : Pb) (hC : corB l fs T Q T = some (R, Q2)) :
    Calls Tryz.prog 8 #[.pointer (some ⟨p, 0, none⟩), .slice pa ks.length pc] w fun e w' => ∃ ca cc, e = .returned (.tuple #[.agg #[.bool false, .slice none 0 0, .slice ca R.length cc], .int .i64 0]) ∧ Below w.heap.size w w' := by
  have hB0 : Below w.heap.size w (w.alloc (.cells #[.bool false, .slice none 0 0, .slice none 0 0] 41)) := (Below.refl _ _).alloc (Nat.le_refl _) _
  have CK := check_by (w.alloc (.cells #[.bool false, .slice none 0 0, .slice none 0 0] 41)) (.pointer (some ⟨p, 0, none⟩)) pa ks.length pc true false (areFormulas_in _ base p ev nb fb l (hB.below hB.low hB0) pa ks.length pc ks (hA.sl.below hB0) (by have := hA.cost; omega)) (fun W hW => areMany_in W l.length pa pc ks ((hA.sl.below hB0).below hW) hA.cost)
  have HH : Hid (_ ∧ _ ∧ _ ∧ _ ∧ _ ∧ _ ∧ _ ∧ _ ∧ _ ∧ _) := And.intro hB (And.intro hA (And.intro hM (And.intro ham (And.intro hok (And.intro hE (And.intro hT (And.intro hr0 (And.intro hTl hC))))))))
  have HB0 : Hid _ := hB0
  have hRA := made_row w #[.bool false, .slice none 0 0, .slice none 0 0] 41
  have HRA : Hid _ := hRA
  have hkl : ks.length ≤ 600 := by
    have h1 := sum_cF ks
    have h2 := hA.cost
    unfold cS at h2
    omega
  clear hB hA hM hB0 hRA ham hok hE hT hr0 hTl hC
  go_enter Tryz.func8, Tryz.ntmps8
  go_wp2_with (first | (go_at_call 20; refine CK.mono ?_; rintro e w1 ⟨rfl, B1⟩; refine Aside.out ?_))
  delta Aside
  have hB1 : Below w.heap.size w w1 := HB0.out.trans (B1.mono HB0.out.size)
  have hBk1 := HH.out.1.below HH.out.1.low hB1
  have NW := newProblem_in w1 base p ev nb fb l hBk1 (by omega) pa pc _ ((HH.out.2.1.sl.below hB1).fsm) HH.out.2.1.ok
  rw [List.length_map] at NW
  have ck0 : chkE true false = 0 := rfl
  have hR1 := World.rowIs.of_block HRA.out (B1.block _ (by simp))
  have HR1 : Hid _ := hR1
  have HB1 : Hid (_ ∧ _) := And.intro hB1 hBk1
  have HNW : Hid _ := NW
  simp only [ck0]
  clear CK B1 hB1 hBk1 HRA HB0 NW ck0 hR1
  apply_assumption
  go_wp2_with (first | (go_at_call 21; refine Calls.mono HNW.out ?_; rintro e w2 ⟨pb, vb, kb, ta, tc, fv, lv, S, gs, rfl, N2⟩; refine Aside.out ?_))
  delta Aside
  rw [HH.out.2.1.adds] at N2
  obtain ⟨fa, fc, rfl⟩ := ownsRow_form N2.row
  have hgl : gs.length = fs.length := N2.len
  have c2 : w2.cell? ⟨pb, 2, none⟩ = some (.slice fa gs.length fc) := N2.pm.cells.cell (i := 2) (by omega)
  have hfl : gs.length = ks.length := by
    rw [hgl]
    have := adds_len l.length (ks.map Lf.er) pb0 []
    rw [HH.out.2.1.adds, List.length_map] at this
    simpa using this
  rw [hfl] at c2
  have AL := dall_in w2 pb fa ks.length fc (by omega) c2
  have hfe : fs.length = ks.length := by omega
  have HN2 : Hid (_ ∧ _ ∧ _) := And.intro N2 (And.intro hfl hfe)
  clear HNW N2 hgl hfl hfe c2
  apply_assumption
  go_wp2_with (first | (go_at_call 23; refine AL.mono ?_; rintro e w3 ⟨rfl, R3, B3⟩; refine Aside.out ?_))
  delta Aside
  have N3 := HN2.out.1.below B3
  have R3' := R3.own (by rw [List.length_range]; omega)
  have R3n : w3.ownsRow 0 3 1 (.slice (some ⟨w2.heap.size, 0, none⟩) (List.range ks.length).length (List.range ks.length).length) (List.range ks.length).length (natC (List.range ks.length)) := R3'
  have MD := model_by w1 base p ev nb fb l HB1.out.2 hb hl ta tc fs gs HH.out.2.2.2.1 S w3 pb vb kb _ lv P N3 HH.out.2.1.vrp HH.out.2.1.has 0 (some ⟨w2.heap.size, 0, none⟩) _ (List.range ks.length) R3n (by rw [← HN2.out.2.2]; exact HH.out.2.2.2.2.1) none Q0 (by rw [← HN2.out.2.2]; exact HH.out.2.2.1)
  rw [List.length_range] at MD
  have MD2 : Calls Tryz.prog 22 #[.pointer (some ⟨pb, 0, none⟩), .slice (some ⟨w2.heap.size, 0, none⟩) ks.length ks.length] w3 fun e w' => e = .returned (.tuple #[.slice none 0 0, .bool false]) ∧ Hid (∃ S' lv', Np (PhB w1 l ta tc) w1.heap.size S' w' pb vb kb (.pointer (some ⟨p, 0, none⟩)) (.slice ta l.length tc) (.slice fa gs.length fc) lv' Q0 l.length fs gs ∧ VrP Q0 ∧ HasV fs Q0) := by
    refine MD.mono ?_
    rintro e w4 ⟨S', lv', X4, h1, h2, h3⟩
    exact ⟨h3.1 rfl, S', lv', N3.step N3.bel.size X4, h1, h2⟩
  have HCO : Hid (∀ W, (∃ S' lv', Np (PhB w1 l ta tc) w1.heap.size S' W pb vb kb (.pointer (some ⟨p, 0, none⟩)) (.slice ta l.length tc) (.slice fa gs.length fc) lv' Q0 l.length fs gs ∧ VrP Q0 ∧ HasV fs Q0) → Calls Tryz.prog 24 #[.pointer (some ⟨pb, 0, none⟩)] W fun e w' => ∃ ca cc, e = .returned (.slice ca R.length cc) ∧ Hid (Below w.heap.size w w' ∧ w'.rowIs w.heap.size 41 3 (fun i => (#[.bool false, .slice none 0 0, .slice none 0 0] : Array Value)[i]?.getD undef))) := by
    rintro W ⟨S', lv', N4, h1, h2⟩
    refine (core_in w1 base p ev nb fb l HB1.out.2 hb hl ta tc fs gs HH.out.2.2.2.1 (by rw [HN2.out.2.2]; omega) W S' pb vb kb _ lv' Q0 N4 h1 h2 f r Q HH.out.2.2.2.2.2.1 T HH.out.2.2.2.2.2.2.1 HH.out.2.2.2.2.2.2.2.1 HH.out.2.2.2.2.2.2.2.2.1 R Q2 HH.out.2.2.2.2.2.2.2.2.2).mono ?_
    rintro e w' ⟨ca, cc, rfl, hb14⟩
    exact ⟨ca, cc, rfl, HB1.out.1.trans (hb14.mono HB1.out.1.size), World.rowIs.of_block HR1.out (hb14.block _ (World.rowIs.lt HR1.out))⟩
  clear MD R3' R3n N3 R3 B3 AL HN2 HR1 HH HB1
  obtain ⟨rn, hrn⟩ : ∃ n, R.length = n := ⟨_, rfl⟩
  rw [hrn] at HCO
  have HRN : Hid _ := hrn
  clear hrn
  apply_assumption
  go_wp2_with (first | (go_at_call 22; refine MD2.mono ?_; rintro e w4 ⟨rfl, H4⟩) | (go_at_call 24; refine (HCO.out _ H4.out).mono ?_; rintro e w5 ⟨ca, cc, rfl, H5⟩; refine Aside.out ?_))
  delta Aside
  have a0 := H5.out.2.cell (i := 0) (by omega)
  have a1 := H5.out.2.cell (i := 1) (by omega)
  have a2 := H5.out.2.cell (i := 2) (by omega)
  have f0 := H5.out.2.frozen 0
  have f1 := H5.out.2.frozen 1
  have f2 := H5.out.2.frozen 2
  simp only [List.getElem?_toArray, List.getElem?_cons_zero, List.getElem?_cons_succ, Option.getD_some] at a0 a1 a2
  clear MD2 HCO
  apply_assumption
  go_wp2_with fail
  have R9 := ((H5.out.2.set 0 (.bool false)).set 1 (.slice none 0 0)).set 2 (.slice ca rn cc)
  have B9 : Below w.heap.size w (((w5.setCell ⟨w.heap.size, 0, none⟩ (.bool false)).setCell ⟨w.heap.size, 1, none⟩ (.slice none 0 0)).setCell ⟨w.heap.size, 2, none⟩ (.slice ca rn cc)) := ((H5.out.1.setCell (p := ⟨w.heap.size, 0, none⟩) (Nat.le_refl _) _).setCell (p := ⟨w.heap.size, 1, none⟩) (Nat.le_refl _) _).setCell (p := ⟨w.heap.size, 2, none⟩) (Nat.le_refl _) _
  generalize (((w5.setCell ⟨w.heap.size, 0, none⟩ (.bool false)).setCell ⟨w.heap.size, 1, none⟩ (.slice none 0 0)).setCell ⟨w.heap.size, 2, none⟩ (.slice ca rn cc)) = w9 at *
  have b0 : w9.cell? ⟨w.heap.size, 0, none⟩ = some (.bool false) := R9.cell (i := 0) (by omega)
  have b1 : w9.cell? ⟨w.heap.size, 1, none⟩ = some (.slice none 0 0) := R9.cell (i := 1) (by omega)
  have b2 : w9.cell? ⟨w.heap.size, 2, none⟩ = some (.slice ca rn cc) := R9.cell (i := 2) (by omega)
  exact ⟨rfl, .tuple #[.agg #[.bool false, .slice none 0 0, .slice ca rn cc], .int .i64 0], by simp [results, Tryz.results8, go_sem, b0, b1, b2], ca, cc, by rw [HRN.out], B9⟩
end Go.Proofs.YtlehlgipbhfioaaGreat

namespace Go.Proofs.YtlehlgipbhfioaaGreat
open Go.RowKit Go.Maps

theorem MdlT.mono {l : List Tm} {fs : List Fm} {ns : List Nat} {Post Post' : Option (List Pr) → Pb → Prop} (hp : ∀ r Q, Post r Q → Post' r Q) : ∀ (f : Nat) (P : Pb), MdlT l fs ns Post f P → MdlT l fs ns Post' f P
  | 0, _, h => h
  | f + 1, P, h => by
    rw [MdlT] at h ⊢
    refine ⟨h.1, ?_⟩
    have h2 := h.2
    cases hs : solveN P.count (clsN P fs ns) with
    | none => rw [hs] at h2; exact h2
    | some o =>
      rw [hs] at h2
      cases o with
      | none => exact hp _ _ h2
      | some vs => exact ⟨fun e => hp _ _ (h2.1 e), fun e => ⟨(h2.2 e).1, fun F Q hF hL => MdlT.mono hp f Q ((h2.2 e).2 F Q hF hL)⟩⟩
theorem eno7B : enoB l7 fm7 6 q7 [] = some ([0, 1, 3, 2], q7) := by kernel_rfl
theorem cor7B : corB l7 fm7 [0, 1, 2, 3] q7 [0, 1, 2, 3] = some ([0, 1, 2, 3], q7) := by kernel_rfl
theorem ok7 : okB p7 fm7 (List.range fm7.length) = true := by kernel_rfl
theorem am7 : AmOk 6 fm7 := by
  intro n hn
  have hn : n < 4 := hn
  have : n = 0 ∨ n = 1 ∨ n = 2 ∨ n = 3 := by omega
  rcases this with rfl | rfl | rfl | rfl <;> decide
theorem am7t : AmOk 6 (fm7.take 3) := by
  intro n hn
  have hn : n < 3 := hn
  have : n = 0 ∨ n = 1 ∨ n = 2 := by omega
  rcases this with rfl | rfl | rfl <;> decide
theorem has7 : HasV fm7 p7 := by
  intro n hn
  have hn : n < 4 := hn
  have : n = 0 ∨ n = 1 ∨ n = 2 ∨ n = 3 := by omega
  rcases this with rfl | rfl | rfl | rfl <;> decide
theorem has7t : HasV (fm7.take 3) p7 := by
  intro n hn
  have hn : n < 3 := hn
  have : n = 0 ∨ n = 1 ∨ n = 2 := by omega
  rcases this with rfl | rfl | rfl <;> decide
theorem vrp7 : VrP p7 := by unfold VrP; decide
theorem few7 : p7.lemmas.length ≤ 100000 ∧ p7.vars.length ≤ 2000 ∧ p7.known.length ≤ 100000 := by decide
theorem wf7a : WfR 6 f7a := .eq 1 2 (by decide) (by decide)
theorem wf7b : WfR 6 f7b := .two 3 _ _ (by decide) (.eq 0 3 (by decide) (by decide)) (.eq 0 4 (by decide) (by decide))
theorem wf7c : WfR 6 f7c := .neg _ (.eq 5 2 (by decide) (by decide))
theorem wf7d : WfR 6 f7d := .neg _ (.eq 0 4 (by decide) (by decide))
theorem WfR.rf {N : Nat} (hN : N ≤ 1000) {f : Fo} (h : WfR N f) : RF f ∧ ∀ p ∈ eqF f, (0 ≤ p.1 ∧ p.1 ≤ 1000000) ∧ 0 ≤ p.2 ∧ p.2 ≤ 1000000 := by
  induction h with
  | eq x y hx hy => exact ⟨.mk ⟨by omega, by omega⟩ ⟨by omega, by omega⟩ (fun k hk => (nomatch hk)), fun p hp => by simp [eqF] at hp; subst hp; simp only; omega⟩
  | neg f h ih =>
    refine ⟨.mk ⟨by omega, by omega⟩ ⟨by omega, by omega⟩ (fun k hk => by rw [List.mem_singleton] at hk; subst hk; exact ih.1), fun p hp => ih.2 p ?_⟩
    simpa [eqF] using hp
  | two o f g ho h k ih1 ih2 =>
    refine ⟨.mk ⟨by omega, by omega⟩ ⟨by omega, by omega⟩ (fun k hk => by simp at hk; rcases hk with rfl | rfl; exact ih1.1; exact ih2.1), fun p hp => ?_⟩
    have : p ∈ eqF f ∨ p ∈ eqF g := by
      rcases ho with rfl | rfl | rfl <;> simpa [eqF] using hp
    exact this.elim (ih1.2 p) (ih2.2 p)
theorem each_ok {N : Nat} (hN : N ≤ 1000) {f : Fo} (h : WfR N f) (hs : szF f ≤ 1000) : WfF f ∧ szF f ≤ 1000 ∧ RF f ∧ ∀ p ∈ ats (eqF f), (0 ≤ p.1 ∧ p.1 ≤ 1000000) ∧ 0 ≤ p.2 ∧ p.2 ≤ 1000000 :=
  ⟨h.wf, hs, (h.rf hN).1, fun p hp => (h.rf hN).2 p (mem_ats.1 hp)⟩
theorem sz7 : szF f7a ≤ 1000 ∧ szF f7b ≤ 1000 ∧ szF f7c ≤ 1000 ∧ szF f7d ≤ 1000 := by
  simp [f7a, f7b, f7c, f7d, foE, Fo.eq, Fo.neg, Fo.two, szF]
theorem fos7 : FosOk 6 [f7a, f7b, f7c, f7d] := by
  refine ⟨fun f hf => ?_, by decide, fun i hi => ?_⟩
  · simp only [List.mem_cons, List.not_mem_nil, or_false] at hf
    rcases hf with rfl | rfl | rfl | rfl
    · exact each_ok (by omega) wf7a sz7.1
    · exact each_ok (by omega) wf7b sz7.2.1
    · exact each_ok (by omega) wf7c sz7.2.2.1
    · exact each_ok (by omega) wf7d sz7.2.2.2
  · have : i = 0 ∨ i = 1 ∨ i = 2 ∨ i = 3 ∨ i = 4 := by simp at hi; omega
    rcases this with rfl | rfl | rfl | rfl | rfl
    · exact ⟨by unfold VqP; decide, by decide, by decide, by decide⟩
    · have e : (Pb.adds 6 ([f7a, f7b, f7c, f7d].take 1) pb0 []).1 = ⟨1, [((1, 2), 1)], [], []⟩ := add7a.1
      rw [e]
      exact ⟨by unfold VqP; decide, by decide, by decide, by decide⟩
    · have e : (Pb.adds 6 ([f7a, f7b, f7c, f7d].take 2) pb0 []).1 = ⟨4, [((1, 2), 1), ((0, 3), 2), ((0, 4), 3)], [], []⟩ := by
        show (Pb.adds 6 [f7a, f7b] pb0 []).1 = _
        rw [Pb.adds, Pb.adds, Pb.adds, add7a.1, add7b.1]
      rw [e]
      exact ⟨by unfold VqP; decide, by decide, by decide, by decide⟩
    · have e : (Pb.adds 6 ([f7a, f7b, f7c, f7d].take 3) pb0 []).1 = p7 := by
        show (Pb.adds 6 [f7a, f7b, f7c] pb0 []).1 = _
        rw [adds7]
      rw [e]
      exact ⟨by unfold VqP; decide, by decide, by decide, by decide⟩
    · have e : (Pb.adds 6 ([f7a, f7b, f7c, f7d].take 4) pb0 []).1 = p7 := by
        show (Pb.adds 6 [f7a, f7b, f7c, f7d] pb0 []).1 = _
        rw [adds7d]
      rw [e]
      exact ⟨by unfold VqP; decide, by decide, by decide, by decide⟩
theorem fos7t : FosOk 6 [f7a, f7b, f7c] := by
  refine ⟨fun f hf => fos7.each f ?_, by decide, fun i hi => ?_⟩
  · simp only [List.mem_cons, List.not_mem_nil, or_false] at hf ⊢
    rcases hf with h | h | h
    · exact Or.inl h
    · exact Or.inr (Or.inl h)
    · exact Or.inr (Or.inr (Or.inl h))
  · have h3 : i ≤ 3 := hi
    have := fos7.small i (by simp; omega)
    have e : [f7a, f7b, f7c].take i = [f7a, f7b, f7c, f7d].take i := by
      have : i = 0 ∨ i = 1 ∨ i = 2 ∨ i = 3 := by omega
      rcases this with rfl | rfl | rfl | rfl <;> rfl
    rw [e]
    exact this
theorem mdl7 : MdlT l7 (fm7.take 3) (List.range (fm7.take 3).length) (fun r _ => ∃ t, r = some t) 2 p7 := MdlT.mono (fun r Q h => by cases h; exact ⟨_, rfl⟩) 2 p7 (mdlN_ok 2 p7 _ one7)
end Go.Proofs.YtlehlgipbhfioaaGreat

namespace Go.Proofs.YtlehlgipbhfioaaGreat
open Go.RowKit Go.Maps

theorem bnk_of {l : List Tm} (h : Cc.Bd l) : Bnk l := ⟨fun _ t ht => h.four t (List.mem_of_getElem? ht), fun i t ht => h.args i t ht, fun _ _ t u ht hu => h.one t (List.mem_of_getElem? ht) u (List.mem_of_getElem? hu)⟩
theorem foE_wf {N : Nat} {q : Pr} (h : InN N q) : WfR N (foE q) := .eq _ _ ⟨by omega, by have := h.1; omega⟩ ⟨by omega, by have := h.2; omega⟩
theorem foE_sz (q : Pr) : szF (foE q) ≤ 1000 ∧ szF (Fo.neg (foE q)) ≤ 1000 ∧ cF (foE q) = 1 := by simp [foE, Fo.eq, Fo.neg, szF, cF]
theorem EqI.small {n : Nat} {qs : List Pr} {P : Pb} {fs : List Fm} (h : EqI n qs P fs) (hl : qs.length ≤ 600) : VqP P ∧ P.lemmas.length ≤ 600 ∧ P.count ≤ 600 ∧ P.vars.length ≤ 600 := by
  have h1 := addP_len [] (qs.map ordQ)
  rw [← h.keys, List.length_map, List.length_map, List.length_nil] at h1
  have h2 := h.num.cnt
  have h3 := h.few
  exact ⟨fun e he => (h.pk.vars e he).2, by omega, by omega, by omega⟩
theorem EqI.get {n : Nat} {qs : List Pr} {P : Pb} {fs : List Fm} (h : EqI n qs P fs) {i : Nat} (hi : i < fs.length) : ∃ q ∈ qs, (Fm.get fs i).am = [ordQ q] ∧ P.num (ordQ q) ≠ none := by
  have hi2 : i < qs.length := by rw [← h.len]; exact hi
  obtain ⟨v, h1, h2⟩ := h.at_ i _ (List.getElem?_eq_getElem hi2)
  exact ⟨qs[i], List.getElem_mem hi2, by rw [Fm.get_at h2], by rw [h1]; simp⟩
theorem ordQ_in {n : Nat} {q : Pr} (h : InN n q) : (ordQ q).1 ≤ (ordQ q).2 ∧ (ordQ q).2 < n := by
  have := h.1
  have := h.2
  unfold ordQ ordP
  simp only
  omega
theorem eqs_fos {n : Nat} (hn : n ≤ 1000) {qs : List Pr} (hq : ∀ q ∈ qs, InN n q) (hl : qs.length ≤ 600) : FosOk n (qs.map foE) := by
  refine ⟨fun f hf => ?_, by rw [List.length_map]; omega, fun i hi => ?_⟩
  · obtain ⟨q, hqm, rfl⟩ := List.mem_map.1 hf
    exact each_ok hn (foE_wf (hq q hqm)) (foE_sz q).1
  · rw [List.length_map] at hi
    have h := (EqI.all n qs i hi).small (by rw [List.length_take]; omega)
    rw [← List.map_take]
    exact ⟨h.1, by omega, by omega, by omega⟩
theorem eqs_fso {n : Nat} {qs : List Pr} {P : Pb} {fs : List Fm} (h : EqI n qs P fs) (hq : ∀ q ∈ qs, InN n q) (hl : qs.length ≤ 600) : FsOk n fs (List.range fs.length) := by
  refine ⟨fun i hi => List.mem_range.1 hi, by rw [List.length_range, h.len]; omega, fun i hi => ?_, ?_⟩
  · obtain ⟨q, h1, h2, _⟩ := h.get hi
    rw [h2]
    refine ⟨by simp, fun a ha => ?_⟩
    rw [List.mem_singleton] at ha
    subst ha
    exact ordQ_in (hq q h1)
  · rw [fm_range, h.j.ams, List.length_map]
    omega
theorem eqs_has {n : Nat} {qs : List Pr} {P : Pb} {fs : List Fm} (h : EqI n qs P fs) : HasV fs P := fun i hi a ha => by
  obtain ⟨q, _, h2, h3⟩ := h.get hi
  rw [h2, List.mem_singleton] at ha
  subst ha
  exact h3
/-- What Decide is asked of equalities. -/
theorem eqs_asked {W : World} {l : List Tm} (hl : l.length ≤ 150) {qs : List Pr} (hq : ∀ q ∈ qs, InN l.length q) (hn : qs.length ≤ 600) {pa : Option Addr} {pc : Nat} {ks : List Lf} (hs : SlF W l.length (.slice pa ks.length pc) ks) (he : ks.map Lf.er = qs.map foE) : Asked W l pa pc ks (Pb.adds l.length (qs.map foE) pb0 []).1 (Pb.adds l.length (qs.map foE) pb0 []).2 := by
  have h := EqI.all l.length qs qs.length (Nat.le_refl _)
  rw [List.take_length] at h
  have hs2 := h.small hn
  refine ⟨hs, ?_, by rw [he]; exact eqs_fos (by omega) hq hn, by rw [he], eqs_fso h hq hn, eqs_has h, h.pk.vars, by omega, by omega, by rw [h.known]; simp⟩
  have hsum : ((qs.map foE).map cF).sum = qs.length := by
    clear hs2 h hs he hn hq
    induction qs with
    | nil => rfl
    | cons q qs ih => simp only [List.map_cons, List.sum_cons, (foE_sz q).2.2, ih, List.length_cons]; omega
  rw [cS_er, he, hsum]
  omega
theorem eqs_cost {ks : List Lf} {qs : List Pr} (he : ks.map Lf.er = qs.map foE) : cS ks = 1 + qs.length := by
  have hsum : ((qs.map foE).map cF).sum = qs.length := by
    clear he
    induction qs with
    | nil => rfl
    | cons q qs ih => simp only [List.map_cons, List.sum_cons, (foE_sz q).2.2, ih, List.length_cons]; omega
  rw [cS_er, he, hsum]
theorem eqs_model {l : List Tm} (hb : Cc.Bd l) {qs : List Pr} (hq : ∀ q ∈ qs, InN l.length q) (hn : qs.length ≤ 600) : MdlT l (Pb.adds l.length (qs.map foE) pb0 []).2 (List.range (Pb.adds l.length (qs.map foE) pb0 []).2.length) (fun r _ => ∃ t, r = some t) 1 (Pb.adds l.length (qs.map foE) pb0 []).1 := by
  have h := EqI.all l.length qs qs.length (Nat.le_refl _)
  rw [List.take_length] at h
  exact eq_model (bnk_of hb) hq hn h
/-- What Follows is asked of equalities. -/
theorem eqs_follows {l : List Tm} (hb : Cc.Bd l) (hl : l.length ≤ 150) {qs : List Pr} (hq : ∀ q ∈ qs, InN l.length q) (hn : qs.length ≤ 599) {q0 : Pr} (h0 : InN l.length q0) :
    ∃ P fs, AskedF l (qs.map foE ++ [Fo.neg (foE q0)]) P fs ∧ MdlT l fs (List.range fs.length) (fun r _ => (r = none ↔ Cc.Cg l qs q0.1 q0.2)) 2 P := by
  have h := EqI.all l.length qs qs.length (Nat.le_refl _)
  rw [List.take_length] at h
  have F := FoI.of h q0
  have hs := h.small (by omega)
  obtain ⟨v1, v2, v3, v4, v5, v6⟩ := vari_small hs.1 (ordQ q0)
  refine ⟨_, _, ⟨?_, by rw [adds_snoc, addF_neg, fmOf_neg], ?_, ?_, ?_, ?_⟩, follow_model (bnk_of hb) hl hq (by omega) h0 F⟩
  · refine ⟨fun f hf => ?_, by simp; omega, fun i hi => ?_⟩
    · rcases List.mem_append.1 hf with hf | hf
      · exact (eqs_fos (by omega) hq (by omega)).each f hf
      · rw [List.mem_singleton] at hf
        subst hf
        exact each_ok (by omega) (.neg _ (foE_wf h0)) (foE_sz q0).2.1
    · by_cases hi2 : i ≤ (qs.map foE).length
      · rw [List.take_append_of_le_length hi2]
        exact (eqs_fos (by omega) hq (by omega)).small i hi2
      · rw [List.take_of_length_le (by simp at hi hi2 ⊢; omega), adds_snoc, addF_neg]
        refine ⟨v1, ?_, ?_, ?_⟩ <;> simp only <;> omega
  · have f1 := eqs_fso h hq (by omega)
    have hlen : ∀ (g : Fm), ((Pb.adds l.length (qs.map foE) pb0 []).2 ++ [g]).length = qs.length + 1 := fun g => by rw [List.length_append, h.len]; rfl
    refine ⟨fun i hi => List.mem_range.1 hi, by rw [List.length_range, hlen]; omega, fun i hi => ?_, ?_⟩
    · rw [hlen] at hi
      by_cases hi2 : i < qs.length
      · have : Fm.get ((Pb.adds l.length (qs.map foE) pb0 []).2 ++ [⟨[ordQ q0], [[-(((Pb.adds l.length (qs.map foE) pb0 []).1.vari (ordQ q0)).1 : Int)]], fun e => evE l.length e (Fo.neg (foE q0))⟩]) i = Fm.get (Pb.adds l.length (qs.map foE) pb0 []).2 i := by
          unfold Fm.get
          rw [List.getElem?_append_left (by rw [h.len]; exact hi2)]
        rw [this]
        exact f1.am i (by rw [h.len]; exact hi2)
      · have : Fm.get ((Pb.adds l.length (qs.map foE) pb0 []).2 ++ [⟨[ordQ q0], [[-(((Pb.adds l.length (qs.map foE) pb0 []).1.vari (ordQ q0)).1 : Int)]], fun e => evE l.length e (Fo.neg (foE q0))⟩]) i = ⟨[ordQ q0], [[-(((Pb.adds l.length (qs.map foE) pb0 []).1.vari (ordQ q0)).1 : Int)]], fun e => evE l.length e (Fo.neg (foE q0))⟩ := by
          refine Fm.get_at ?_
          rw [List.getElem?_append_right (by rw [h.len]; omega), h.len, show i - qs.length = 0 by omega]
          rfl
        rw [this]
        refine ⟨by simp, fun a ha => ?_⟩
        simp only [List.mem_singleton] at ha
        subst ha
        exact ordQ_in h0
    · rw [fm_range, List.flatMap_append, h.j.ams, List.length_append, List.length_map]
      simp
      omega
  · intro i hi a ha
    by_cases hi2 : i < (Pb.adds l.length (qs.map foE) pb0 []).2.length
    · have : Fm.get ((Pb.adds l.length (qs.map foE) pb0 []).2 ++ [⟨[ordQ q0], [[-(((Pb.adds l.length (qs.map foE) pb0 []).1.vari (ordQ q0)).1 : Int)]], fun e => evE l.length e (Fo.neg (foE q0))⟩]) i = Fm.get (Pb.adds l.length (qs.map foE) pb0 []).2 i := by
        unfold Fm.get
        rw [List.getElem?_append_left hi2]
      rw [this] at ha
      exact vari_keeps _ _ _ (eqs_has h i hi2 a ha)
    · have hi3 : i = (Pb.adds l.length (qs.map foE) pb0 []).2.length := by
        rw [List.length_append] at hi
        simp at hi
        omega
      have : Fm.get ((Pb.adds l.length (qs.map foE) pb0 []).2 ++ [⟨[ordQ q0], [[-(((Pb.adds l.length (qs.map foE) pb0 []).1.vari (ordQ q0)).1 : Int)]], fun e => evE l.length e (Fo.neg (foE q0))⟩]) i = ⟨[ordQ q0], [[-(((Pb.adds l.length (qs.map foE) pb0 []).1.vari (ordQ q0)).1 : Int)]], fun e => evE l.length e (Fo.neg (foE q0))⟩ := by
        refine Fm.get_at ?_
        rw [List.getElem?_append_right (by omega), hi3, Nat.sub_self]
        rfl
      rw [this] at ha
      simp only [List.mem_singleton] at ha
      subst ha
      rw [F.num]
      simp
  · exact VrP.vari h.pk.vars _
  · have hk : ((Pb.adds l.length (qs.map foE) pb0 []).1.vari (ordQ q0)).2.known = [] := by rw [(Pb.vari_ok _ _).2.2, h.known]
    exact ⟨by omega, by omega, by rw [hk]; simp⟩
end Go.Proofs.YtlehlgipbhfioaaGreat

namespace Go.Proofs.YtlehlgipbhfioaaGreat
open Go.RowKit Go.Maps

theorem num7_any (w : World) (a : Int) : Calls Tryz.prog 10 #[.int .i64 a] w fun e w' => e = .returned (.int .i64 a) ∧ w = w' := by
  go_enter Tryz.func10, Tryz.ntmps10
  go_wp2
  go_ret
  exact ⟨rfl, rfl⟩
theorem Bk.fk {W W' : World} {base p : Nat} {ev : Value} {nb fb : Nat} {l : List Tm} (h : Bk W base p ev nb fb l) (K : Kept (BFoot p ev nb fb) W W') : FKeep 0 W W' := by
  refine FKeep.of_kept K (fun k hk c fz hc => ?_) 0
  obtain ⟨D, d1, _⟩ := h.nums
  obtain ⟨E, e1, _⟩ := h.fsts
  rcases hk with rfl | rfl | rfl | e
  · obtain ⟨c', h1, _⟩ := h.bank
    rw [hc] at h1
    cases h1
  · exact mapIs_ne d1 c _ fz hc
  · exact mapIs_ne e1 c _ fz hc
  · exact ownsRow_ne h.rows e (by decide) c fz hc
theorem parse7_in (W : World) (base p : Nat) (ev : Value) (nb fb : Nat) (l : List Tm) (h : Bk W base p ev nb fb l) (hl : l.length ≤ 150) (hb : base ≤ W.heap.size) (s : ByteArray) (f : Fo) (l' : List Tm) (hp : gParse s l = (f, 0, 0, l')) :
    Calls Tryz.prog 17 #[.pointer (some ⟨p, 0, none⟩), .string s] W fun e w' => ∃ (op x y : Int) (ka : Option Addr) (kn kc : Nat), e = .returned (.tuple #[.agg #[.int .i64 op, .int .i64 x, .int .i64 y, .slice ka kn kc], .int .i64 0, .int .i64 0]) ∧ Hid (FIs w' (.agg #[.int .i64 op, .int .i64 x, .int .i64 y, .slice ka kn kc]) f ∧ (∃ ev', Bk w' base p ev' nb fb l') ∧ FKeep 0 W w' ∧ Below base W w') := by
  have PA := gParse_in W base p ev nb fb l h hl hb s
  rw [hp] at PA
  refine PA.mono ?_
  rintro e w' ⟨v, rfl, FV, ev', B', K', _, _⟩
  obtain ⟨op, x, y, kv, kids, rfl, h2, h3, h4⟩ := id FV
  obtain ⟨ka, kc, rfl, _⟩ := id h2
  refine ⟨op, x, y, ka, _, kc, rfl, FV.is, ⟨ev', B'⟩, h.fk K', K'.below hb (fun k e => ?_)⟩
  rcases e with e | e | e | e
  · rw [e]; exact h.bp
  · rw [e]; exact h.bn
  · rw [e]; exact h.bf
  · exact (ownsRow_lt h.rows e).1
/-- A Form in a box. -/
def Bx7 (W : World) (b : Nat) (op x y : Int) (ka : Option Addr) (kn kc : Nat) (f : Fo) : Prop := W.rowIs b 36 4 (boxQ op x y (.slice ka kn kc)) ∧ FIs W (.agg #[.int .i64 op, .int .i64 x, .int .i64 y, .slice ka kn kc]) f
theorem Bx7.keep {W W' : World} {b : Nat} {op x y : Int} {ka : Option Addr} {kn kc : Nat} {f : Fo} (h : Bx7 W b op x y ka kn kc f) (K : FKeep 0 W W') : Bx7 W' b op x y ka kn kc f := ⟨rowIs_keep K (Nat.zero_le _) h.1, FValA.keep (K.toA _) h.2⟩
theorem FKeep.bel {W W' : World} (h : Below W.heap.size W W') : FKeep 0 W W' := fun _ _ _ _ hc => (h.block _ (Array.getElem?_eq_some_iff.1 hc).1).trans hc
theorem Bx7.new {W : World} {op x y : Int} {ka : Option Addr} {kn kc : Nat} {f : Fo} (h : FIs W (.agg #[.int .i64 op, .int .i64 x, .int .i64 y, .slice ka kn kc]) f) : Bx7 (W.alloc (.cells #[.int .i64 op, .int .i64 x, .int .i64 y, .slice ka kn kc] 36)) W.heap.size op x y ka kn kc f :=
  ⟨(made_row W #[.int .i64 op, .int .i64 x, .int .i64 y, .slice ka kn kc] 36).congr (fun j hj => by
    have : j = 0 ∨ j = 1 ∨ j = 2 ∨ j = 3 := by simp at hj; omega
    rcases this with rfl | rfl | rfl | rfl <;> rfl), h.keep ((Below.refl _ _).alloc (Nat.le_refl _) _)⟩
theorem Bx7.cells {W : World} {b : Nat} {op x y : Int} {ka : Option Addr} {kn kc : Nat} {f : Fo} (h : Bx7 W b op x y ka kn kc f) : W.cell? ⟨b, 0, none⟩ = some (.int .i64 op) ∧ W.cell? ⟨b, 1, none⟩ = some (.int .i64 x) ∧ W.cell? ⟨b, 2, none⟩ = some (.int .i64 y) ∧ W.cell? ⟨b, 3, none⟩ = some (.slice ka kn kc) :=
  ⟨h.1.cell (i := 0) (by omega), h.1.cell (i := 1) (by omega), h.1.cell (i := 2) (by omega), h.1.cell (i := 3) (by omega)⟩
/-- .. as a Form of a row. -/
theorem Bx7.lf {W W' : World} {b : Nat} {op x y : Int} {ka : Option Addr} {kn kc : Nat} {f : Fo} (h : Bx7 W b op x y ka kn kc f) (K : FKeep 0 W W') {N : Nat} (hw : WfR N f) : ∃ t : Lf, formC t = [.int .i64 op, .int .i64 x, .int .i64 y, .slice ka kn kc] ∧ t.er = f ∧ KidsIn t.kv t.kids ∧ (∀ k ∈ t.kids, Here W' k) ∧ WfR N t.er := by
  obtain ⟨op2, x2, y2, kv, kids, e, h2, h3, h4⟩ := h.2
  cases e
  have e2 : (Lf.mk 0 0 op x y (.slice ka kn kc) kids).er = f := by rw [Lf.er, h4]
  exact ⟨.mk 0 0 op x y (.slice ka kn kc) kids, rfl, e2, h2, fun k hk => (h3 k hk).keep (K.toA _), by rw [e2]; exact hw⟩
theorem l7_bd : Cc.Bd l7 := by
  have h1 : ∀ t ∈ l7, ∀ a ∈ t.args, a < 6 := by decide
  exact ⟨fun n t ht a ha => h1 t (List.mem_of_getElem? ht) a ha, by decide, by decide, by decide⟩
theorem cost7 : 1 + ([f7a, f7b, f7c, f7d].map cF).sum ≤ 601 ∧ 1 + ([f7a, f7b, f7c].map cF).sum ≤ 601 := by
  simp [f7a, f7b, f7c, f7d, foE, Fo.eq, Fo.neg, Fo.two, cF]
theorem ask7t {W : World} {pa : Option Addr} {pc : Nat} {ks : List Lf} (hs : SlF W 6 (.slice pa ks.length pc) ks) (he : ks.map Lf.er = [f7a, f7b, f7c]) : Asked W l7 pa pc ks p7 (fm7.take 3) :=
  ⟨hs, by rw [cS_er, he]; exact cost7.2, by rw [he]; exact fos7t, by rw [he]; exact adds7, am7t.fsok (by decide) (fun n hn => List.mem_range.1 hn), has7t, vrp7, few7⟩
theorem ask7 {W : World} {pa : Option Addr} {pc : Nat} {ks : List Lf} (hs : SlF W 6 (.slice pa ks.length pc) ks) (he : ks.map Lf.er = [f7a, f7b, f7c, f7d]) : Asked W l7 pa pc ks p7 fm7 :=
  ⟨hs, by rw [cS_er, he]; exact cost7.1, by rw [he]; exact fos7, by rw [he]; exact adds7d, am7.fsok (by decide) (fun n hn => List.mem_range.1 hn), has7, vrp7, few7⟩
/-- A row of Forms that is made at once. -/
theorem made_slf {W : World} {N : Nat} {ts : List Lf} {C : Array Value} (hC : C.toList = ts.flatMap formC) (hl : ts.length ≤ 1000) (ht : ∀ t ∈ ts, KidsIn t.kv t.kids ∧ (∀ k ∈ t.kids, Here (W.alloc (.cells C 36)) k) ∧ WfR N t.er) : ∃ ks, SlF (W.alloc (.cells C 36)) N (.slice (some ⟨W.heap.size, 0, none⟩) ts.length ts.length) ks ∧ ks.map Lf.er = ts.map Lf.er ∧ ks.length = ts.length := by
  have hlen := formC_len ts
  refine row_slf (B := 0) ⟨hlen, Or.inr ⟨W.heap.size, ts.length, C, rfl, Nat.zero_le _, heap_alloc_new _ _, Nat.le_refl _, by unfold maxLen; omega, ?_, ?_⟩⟩ ht
  · rw [← Array.length_toList, hC, hlen]
  · rw [hC]
    exact List.take_of_length_le (by omega)

set_option maxRecDepth 100000 in
set_option maxHeartbeats 4000000 in
theorem alive7_any (w : World) : Calls Tryz.prog 6 #[] w fun e w' => e = .returned (.bool true) ∧ Below w.heap.size w w' := by
  have NEW := tNew_any w
  have NEW2 : Calls Tryz.prog 12 #[] w fun e w' => ∃ p, e = .returned (.pointer (some ⟨p, 0, none⟩)) ∧ Hid ((∃ ev nb fb, Bk w' w.heap.size p ev nb fb []) ∧ Below w.heap.size w w') := by
    refine NEW.mono ?_
    rintro e w' ⟨p, nb, fb, rfl, H1, B1⟩
    exact ⟨p, rfl, ⟨_, _, _, H1⟩, B1⟩
  have HP : Hid (∀ (W : World) (p : Nat) (l : List Tm) (s : ByteArray) (f : Fo) (l' : List Tm), gParse s l = (f, 0, 0, l') → l.length ≤ 150 → ((∃ ev nb fb, Bk W w.heap.size p ev nb fb l) ∧ Below w.heap.size w W) → Calls Tryz.prog 17 #[.pointer (some ⟨p, 0, none⟩), .string s] W fun e w' => ∃ (op x y : Int) (ka : Option Addr) (kn kc : Nat), e = .returned (.tuple #[.agg #[.int .i64 op, .int .i64 x, .int .i64 y, .slice ka kn kc], .int .i64 0, .int .i64 0]) ∧ Hid (Bx7 (w'.alloc (.cells #[.int .i64 op, .int .i64 x, .int .i64 y, .slice ka kn kc] 36)) w'.heap.size op x y ka kn kc f ∧ FKeep 0 W (w'.alloc (.cells #[.int .i64 op, .int .i64 x, .int .i64 y, .slice ka kn kc] 36)) ∧ (∃ ev nb fb, Bk (w'.alloc (.cells #[.int .i64 op, .int .i64 x, .int .i64 y, .slice ka kn kc] 36)) w.heap.size p ev nb fb l') ∧ Below w.heap.size w (w'.alloc (.cells #[.int .i64 op, .int .i64 x, .int .i64 y, .slice ka kn kc] 36)))) := by
    rintro W p l s f l' hp hl ⟨⟨ev, nb, fb, hB⟩, hb⟩
    refine (parse7_in W w.heap.size p ev nb fb l hB hl hb.size s f l' hp).mono ?_
    rintro e w' ⟨op, x, y, ka, kn, kc, rfl, H⟩
    obtain ⟨h1, ⟨ev', h2⟩, h3, h4⟩ := H.out
    have hA : Below w'.heap.size w' (w'.alloc (.cells #[.int .i64 op, .int .i64 x, .int .i64 y, .slice ka kn kc] 36)) := (Below.refl _ _).alloc (Nat.le_refl _) _
    have hbw := hb.trans h4
    exact ⟨op, x, y, ka, kn, kc, rfl, Bx7.new h1, h3.trans (FKeep.alloc 0 w' _), ⟨ev', nb, fb, h2.below h2.low hA⟩, hbw.trans (hA.mono hbw.size)⟩
  clear NEW
  go_enter Tryz.func6, Tryz.ntmps6
  go_wp2_with (first | (go_at_call 12; refine NEW2.mono ?_; rintro e w1 ⟨p, rfl, H1⟩; have PA := HP.out w1 p [] _ _ _ pa7a (by decide) H1.out) | (go_at_call 17; refine PA.mono ?_; rintro e w2 ⟨op1, x1, y1, ka1, kn1, kc1, rfl, H2⟩; refine Aside.out ?_))
  delta Aside
  have PA2 := HP.out (w2.alloc (.cells #[.int .i64 op1, .int .i64 x1, .int .i64 y1, .slice ka1 kn1 kc1] 36)) p _ _ _ _ pa7b (by decide) H2.out.2.2
  clear PA
  apply_assumption
  go_wp2_with (first | (go_at_call 17; refine PA2.mono ?_; rintro e w3 ⟨op2, x2, y2, ka2, kn2, kc2, rfl, H3⟩; refine Aside.out ?_))
  delta Aside
  have PA3 := HP.out (w3.alloc (.cells #[.int .i64 op2, .int .i64 x2, .int .i64 y2, .slice ka2 kn2 kc2] 36)) p _ _ _ _ pa7c (by decide) H3.out.2.2
  clear PA2
  apply_assumption
  go_wp2_with (first | (go_at_call 17; refine PA3.mono ?_; rintro e w4 ⟨op3, x3, y3, ka3, kn3, kc3, rfl, H4⟩; refine Aside.out ?_))
  delta Aside
  have PA4 := HP.out (w4.alloc (.cells #[.int .i64 op3, .int .i64 x3, .int .i64 y3, .slice ka3 kn3 kc3] 36)) p _ _ _ _ pa7d (by decide) H4.out.2.2
  clear PA3
  apply_assumption
  go_wp2_with (first | (go_at_call 17; refine PA4.mono ?_; rintro e w5 ⟨op4, x4, y4, ka4, kn4, kc4, rfl, H5⟩; refine Aside.out ?_))
  delta Aside
  have b4 := H5.out.1
  have b3 := H4.out.1.keep H5.out.2.1
  have b2 := (H3.out.1.keep H4.out.2.1).keep H5.out.2.1
  have b1 := ((H2.out.1.keep H3.out.2.1).keep H4.out.2.1).keep H5.out.2.1
  have hbk := H5.out.2.2
  obtain ⟨W, hW⟩ : ∃ W, w5.alloc (.cells #[.int .i64 op4, .int .i64 x4, .int .i64 y4, .slice ka4 kn4 kc4] 36) = W := ⟨_, rfl⟩
  rw [hW] at b1 b2 b3 b4 hbk
  obtain ⟨⟨ev, nb, fb, hBk⟩, hbW⟩ := hbk
  have DY : Calls Tryz.prog 8 #[.pointer (some ⟨p, 0, none⟩), .slice (some ⟨W.heap.size, 0, none⟩) 3 3] (W.alloc (.cells #[.int .i64 op1, .int .i64 x1, .int .i64 y1, .slice ka1 kn1 kc1, .int .i64 op2, .int .i64 x2, .int .i64 y2, .slice ka2 kn2 kc2, .int .i64 op3, .int .i64 x3, .int .i64 y3, .slice ka3 kn3 kc3] 36)) fun e w' => ∃ ca cn cc, e = .returned (.tuple #[.agg #[.bool true, .slice ca cn cc, .slice none 0 0], .int .i64 0]) ∧ Hid (Below W.heap.size W w') := by
    have hA : Below W.heap.size W (W.alloc (.cells #[.int .i64 op1, .int .i64 x1, .int .i64 y1, .slice ka1 kn1 kc1, .int .i64 op2, .int .i64 x2, .int .i64 y2, .slice ka2 kn2 kc2, .int .i64 op3, .int .i64 x3, .int .i64 y3, .slice ka3 kn3 kc3] 36)) := (Below.refl _ _).alloc (Nat.le_refl _) _
    obtain ⟨t1, f1, e1, k1⟩ := b1.lf (FKeep.bel hA) wf7a
    obtain ⟨t2, f2, e2, k2⟩ := b2.lf (FKeep.bel hA) wf7b
    obtain ⟨t3, f3, e3, k3⟩ := b3.lf (FKeep.bel hA) wf7c
    obtain ⟨ks, s1, s2, s3⟩ := made_slf (W := W) (N := 6) (ts := [t1, t2, t3]) (C := #[.int .i64 op1, .int .i64 x1, .int .i64 y1, .slice ka1 kn1 kc1, .int .i64 op2, .int .i64 x2, .int .i64 y2, .slice ka2 kn2 kc2, .int .i64 op3, .int .i64 x3, .int .i64 y3, .slice ka3 kn3 kc3]) (by simp [f1, f2, f3]) (by simp) (fun t ht => by
      simp only [List.mem_cons, List.not_mem_nil, or_false] at ht
      rcases ht with rfl | rfl | rfl
      · exact k1
      · exact k2
      · exact k3)
    have s3' : ks.length = 3 := s3
    have D := decide_yes _ w.heap.size p ev nb fb l7 (hBk.below hBk.low hA) l7_bd (by decide) (some ⟨W.heap.size, 0, none⟩) 3 ks p7 (fm7.take 3) (ask7t (by rw [s3']; exact s1) (by rw [s2]; simp only [List.map_cons, List.map_nil, e1, e2, e3])) 2 (Nat.le_refl _) mdl7
    rw [s3'] at D
    refine D.mono ?_
    rintro e w' ⟨ca, cn, cc, rfl, h9⟩
    exact ⟨ca, cn, cc, rfl, hA.trans (h9.mono hA.size)⟩
  have HDN : Hid (∀ V, Below W.heap.size W V → Calls Tryz.prog 8 #[.pointer (some ⟨p, 0, none⟩), .slice (some ⟨V.heap.size, 0, none⟩) 4 4] (V.alloc (.cells #[.int .i64 op1, .int .i64 x1, .int .i64 y1, .slice ka1 kn1 kc1, .int .i64 op2, .int .i64 x2, .int .i64 y2, .slice ka2 kn2 kc2, .int .i64 op3, .int .i64 x3, .int .i64 y3, .slice ka3 kn3 kc3, .int .i64 op4, .int .i64 x4, .int .i64 y4, .slice ka4 kn4 kc4] 36)) fun e w' => ∃ ca cc, e = .returned (.tuple #[.agg #[.bool false, .slice none 0 0, .slice ca 4 cc], .int .i64 0]) ∧ Hid (Below V.heap.size V w')) := fun V hV => by
    have hA : Below V.heap.size V (V.alloc (.cells #[.int .i64 op1, .int .i64 x1, .int .i64 y1, .slice ka1 kn1 kc1, .int .i64 op2, .int .i64 x2, .int .i64 y2, .slice ka2 kn2 kc2, .int .i64 op3, .int .i64 x3, .int .i64 y3, .slice ka3 kn3 kc3, .int .i64 op4, .int .i64 x4, .int .i64 y4, .slice ka4 kn4 kc4] 36)) := (Below.refl _ _).alloc (Nat.le_refl _) _
    have hWA : Below W.heap.size W (V.alloc (.cells #[.int .i64 op1, .int .i64 x1, .int .i64 y1, .slice ka1 kn1 kc1, .int .i64 op2, .int .i64 x2, .int .i64 y2, .slice ka2 kn2 kc2, .int .i64 op3, .int .i64 x3, .int .i64 y3, .slice ka3 kn3 kc3, .int .i64 op4, .int .i64 x4, .int .i64 y4, .slice ka4 kn4 kc4] 36)) := hV.trans (hA.mono hV.size)
    obtain ⟨t1, f1, e1, k1⟩ := b1.lf (FKeep.bel hWA) wf7a
    obtain ⟨t2, f2, e2, k2⟩ := b2.lf (FKeep.bel hWA) wf7b
    obtain ⟨t3, f3, e3, k3⟩ := b3.lf (FKeep.bel hWA) wf7c
    obtain ⟨t4, f4, e4, k4⟩ := b4.lf (FKeep.bel hWA) wf7d
    obtain ⟨ks, s1, s2, s3⟩ := made_slf (W := V) (N := 6) (ts := [t1, t2, t3, t4]) (C := #[.int .i64 op1, .int .i64 x1, .int .i64 y1, .slice ka1 kn1 kc1, .int .i64 op2, .int .i64 x2, .int .i64 y2, .slice ka2 kn2 kc2, .int .i64 op3, .int .i64 x3, .int .i64 y3, .slice ka3 kn3 kc3, .int .i64 op4, .int .i64 x4, .int .i64 y4, .slice ka4 kn4 kc4]) (by simp [f1, f2, f3, f4]) (by simp) (fun t ht => by
      simp only [List.mem_cons, List.not_mem_nil, or_false] at ht
      rcases ht with rfl | rfl | rfl | rfl
      · exact k1
      · exact k2
      · exact k3
      · exact k4)
    have s3' : ks.length = 4 := s3
    have D := decide_no _ w.heap.size p ev nb fb l7 (hBk.below hBk.low hWA) l7_bd (by decide) (some ⟨V.heap.size, 0, none⟩) 4 ks p7 fm7 (ask7 (by rw [s3']; exact s1) (by rw [s2]; simp only [List.map_cons, List.map_nil, e1, e2, e3, e4])) am7 q7 ok7 two7 6 [0, 1, 3, 2] q7 eno7B [0, 1, 2, 3] ⟨by decide, by decide⟩ (by decide) (by decide) [0, 1, 2, 3] q7 cor7B
    rw [s3'] at D
    refine D.mono ?_
    rintro e w' ⟨ca, cc, rfl, h9⟩
    exact ⟨ca, cc, rfl, hA.trans (h9.mono hA.size)⟩
  obtain ⟨c10, c11, c12, c13⟩ := b1.cells
  obtain ⟨c20, c21, c22, c23⟩ := b2.cells
  obtain ⟨c30, c31, c32, c33⟩ := b3.cells
  have HBB : Hid (_ ∧ _ ∧ _ ∧ _ ∧ _) := And.intro b1 (And.intro b2 (And.intro b3 (And.intro b4 hbW)))
  clear PA4 H1 H2 H3 H4 H5 b1 b2 b3 b4 HP NEW2 hBk hbW
  apply_assumption
  go_wp2_with (first | (go_at_call 8; refine DY.mono ?_; rintro e w6 ⟨ca, cn, cc, rfl, H6⟩; refine Aside.out ?_))
  delta Aside
  have hA7 : Below w6.heap.size w6 (w6.alloc (.cells #[.bool true, .slice ca cn cc, .slice none 0 0] 41)) := (Below.refl _ _).alloc (Nat.le_refl _) _
  have hW7 : Below W.heap.size W (w6.alloc (.cells #[.bool true, .slice ca cn cc, .slice none 0 0] 41)) := H6.out.trans (hA7.mono H6.out.size)
  have AN := made_row w6 #[.bool true, .slice ca cn cc, .slice none 0 0] 41
  have DN := HDN.out _ hW7
  obtain ⟨d10, d11, d12, d13⟩ := (HBB.out.1.keep (FKeep.bel hW7)).cells
  obtain ⟨d20, d21, d22, d23⟩ := (HBB.out.2.1.keep (FKeep.bel hW7)).cells
  obtain ⟨d30, d31, d32, d33⟩ := (HBB.out.2.2.1.keep (FKeep.bel hW7)).cells
  obtain ⟨d40, d41, d42, d43⟩ := (HBB.out.2.2.2.1.keep (FKeep.bel hW7)).cells
  have HW7 : Hid (_ ∧ _) := And.intro hW7 (And.intro HBB.out.2.2.2.2 AN)
  have hv2 : (w6.alloc (.cells #[.bool true, .slice ca cn cc, .slice none 0 0] 41)).cell? ⟨w6.heap.size, 2, none⟩ = some (.slice none 0 0) := AN.cell (i := 2) (by simp)
  have hf2 := AN.frozen 2
  have hs2 : (w6.alloc (.cells #[.bool true, .slice ca cn cc, .slice none 0 0] 41)).setCell ⟨w6.heap.size, 2, none⟩ (.slice none 0 0) = w6.alloc (.cells #[.bool true, .slice ca cn cc, .slice none 0 0] 41) := by simp [go_sem]
  obtain ⟨V, hV⟩ : ∃ V, w6.alloc (.cells #[.bool true, .slice ca cn cc, .slice none 0 0] 41) = V := ⟨_, rfl⟩
  rw [hV] at DN d10 d11 d12 d13 d20 d21 d22 d23 d30 d31 d32 d33 d40 d41 d42 d43 HW7 hv2 hf2 hs2
  clear DY HDN c10 c11 c12 c13 c20 c21 c22 c23 c30 c31 c32 c33 hA7 hW7 AN HBB H6 hW
  apply_assumption
  go_wp2_with (first | (go_at_call 8; refine DN.mono ?_; rintro e w8 ⟨ca8, cc8, rfl, H8⟩; refine Aside.out ?_))
  delta Aside
  obtain ⟨hBV, hBw, hAN⟩ := HW7.out
  have hA9 : Below w8.heap.size w8 (w8.alloc (.cells #[.bool false, .slice none 0 0, .slice ca8 4 cc8] 41)) := (Below.refl _ _).alloc (Nat.le_refl _) _
  have hV8 : Below V.heap.size V (w8.alloc (.cells #[.bool false, .slice none 0 0, .slice ca8 4 cc8] 41)) := H8.out.trans (hA9.mono H8.out.size)
  have an0 : V.cell? ⟨w6.heap.size, 0, none⟩ = some (.bool true) := World.rowIs.cell hAN (i := 0) (by simp)
  have am0 := (hV8.cell (World.block_lt_of_cell? V _ an0)).trans an0
  have AM := made_row w8 #[.bool false, .slice none 0 0, .slice ca8 4 cc8] 41
  have m0 : (w8.alloc (.cells #[.bool false, .slice none 0 0, .slice ca8 4 cc8] 41)).cell? ⟨w8.heap.size, 0, none⟩ = some (.bool false) := AM.cell (i := 0) (by simp)
  have m2 : (w8.alloc (.cells #[.bool false, .slice none 0 0, .slice ca8 4 cc8] 41)).cell? ⟨w8.heap.size, 2, none⟩ = some (.slice ca8 4 cc8) := AM.cell (i := 2) (by simp)
  have HF : Hid (Below w.heap.size w (w8.alloc (.cells #[.bool false, .slice none 0 0, .slice ca8 4 cc8] 41))) := by
    have h1 : Below w.heap.size w V := hBw.trans (hBV.mono hBw.size)
    exact h1.trans (hV8.mono h1.size)
  clear DN d10 d11 d12 d13 d20 d21 d22 d23 d30 d31 d32 d33 d40 d41 d42 d43 HW7 hv2 hf2 hs2 hV hBV hBw hAN hA9 hV8 an0 AM H8
  apply_assumption
  go_wp2_with (first | (go_at_call 10; refine (num7_any _ _).mono ?_; rintro e w9 ⟨rfl, rfl⟩))
  go_ret
  exact ⟨rfl, HF.out⟩
end Go.Proofs.YtlehlgipbhfioaaGreat

namespace Go.Proofs.YtlehlgipbhfioaaGreat
open Go.RowKit Go.Maps

theorem kept0_of {w w' : World} (h : Below w.heap.size w w') : Kept0 w w' := ⟨h.os, h.tape, h.output, h.size, fun k hk _ => h.block k hk⟩
def eLf (q : Pr) : Lf := qLf (q.1 : Int) (q.2 : Int)
/-- The loop's state: a closure that was told qs, a row of Forms of rq. -/
structure EqS (w W : World) (l : List Tm) (c : Ks) (v : Value) (rq qs : List Pr) : Prop where
  bel : Below w.heap.size w W
  cl : Cl W w.heap.size l c qs
  row : W.ownsRow w.heap.size 36 4 v rq.length ((rq.map eLf).flatMap formC)
  sep : ∀ k, v.ownBlock = some k → ¬ c.All k
theorem EqS.below {w W W' : World} {l : List Tm} {c : Ks} {v : Value} {rq qs : List Pr} (h : EqS w W l c v rq qs) (hB : Below W.heap.size W W') : EqS w W' l c v rq qs :=
  ⟨h.bel.trans (hB.mono h.bel.size), h.cl.kept0 (kept0_of hB), ownsRow_below h.row hB, h.sep⟩
theorem EqS.push {w W W1 w8 : World} {l : List Tm} {c : Ks} {v v8 : Value} {rq qs : List Pr} (h : EqS w W l c v rq qs) (q : Pr) (hB1 : Below W.heap.size W W1) (hown : w8.ownsRow w.heap.size 36 4 v8 (rq.length + 1) ((rq.map eLf).flatMap formC ++ [.int .i64 0, .int .i64 (q.1 : Int), .int .i64 (q.2 : Int), .slice none 0 0])) (hgrow : W1.grownBy w8 v.ownBlock) (hat : v8.ownBlock = v.ownBlock ∨ ∀ k, v8.ownBlock = some k → W1.heap.size ≤ k) : EqS w w8 l c v8 (rq ++ [q]) qs := by
  have h1 := h.below hB1
  have K : Kept (fun k => v.ownBlock = some k) W1 w8 := Kept.grown (Kept.refl _ W1) hgrow (fun k e => e)
  refine ⟨h1.bel.trans (K.below h1.bel.size (fun k e => (ownsRow_lt h1.row e).1)), h1.cl.keep K (fun k hk e => h1.sep k e hk), ?_, fun k hk e => ?_⟩
  · rw [List.length_append, List.map_append, List.flatMap_append]
    exact hown
  · rcases hat with a | a
    · exact h1.sep k (a ▸ hk) e
    · have h2 := a k hk
      have h3 := h1.cl.all_lt e
      omega
theorem EqS.merge {w W : World} {l : List Tm} {c : Ks} {v : Value} {rq qs : List Pr} (h : EqS w W l c v rq qs) {a b : Nat} (ha : a < l.length) (hb : b < l.length) (hn : qs.length ≤ 1048576) :
    Calls Tryz.prog 7 #[.pointer (some ⟨c.pc, 0, none⟩), .int .i64 (a : Int), .int .i64 (b : Int)] W fun e w' => e = .returned (.int .i64 (mergeE l a b)) ∧ ∃ c' : Ks, c'.pc = c.pc ∧ EqS w w' l c' v rq (qs ++ [(a, b)]) := by
  refine (kMerge_in W w.heap.size l c qs h.cl (a : Int) (b : Int) (by omega)).mono ?_
  rintro e w' ⟨rfl, c', C', K', hp, hA⟩
  have e1 : mergeP l qs (a : Int) (b : Int) = qs ++ [(a, b)] := by
    unfold mergeP
    rw [if_pos (by rw [inB_nat ha, inB_nat hb]; rfl)]
    rfl
  rw [e1] at C'
  refine ⟨rfl, c', hp, h.bel.trans (K'.below h.bel.size (fun k hk => h.cl.foot_ge hk)), C', ownsRow_blk h.row (fun b hb => K'.block b (ownsRow_lt h.row hb).2 (fun e => h.sep b hb e.all)), fun k hk e => ?_⟩
  rcases hA k e with e2 | e2
  · exact h.sep k hk e2
  · have := (ownsRow_lt h.row hk).2
    omega
theorem cell_fourD (w : World) (a b c d : Value) (ty : TypeId) : ∀ j u, [a, b, c, d][j]? = some u → (w.alloc (.cells #[a, b, c, d] ty)).cell? ((⟨w.heap.size, 0, none⟩ : Addr).add j) = some u := by
  intro j u hj
  have hn := made_row w #[a, b, c, d] ty
  have hjl := (List.getElem?_eq_some_iff.1 hj).1
  rw [Addr.add_lit, Nat.zero_add, hn.cell (i := j) (by simpa using hjl)]
  simp only [List.getElem?_toArray, hj, Option.getD_some]
/-- The pairs, as numbers. -/
def nP (p : Int × Int) : Pr := (p.1.toNat, p.2.toNat)
def InP (n : Nat) (p : Int × Int) : Prop := (0 ≤ p.1 ∧ p.1 < n) ∧ 0 ≤ p.2 ∧ p.2 < n
theorem InP.n {n : Nat} {p : Int × Int} (h : InP n p) : InN n (nP p) := by
  obtain ⟨⟨h1, h2⟩, h3, h4⟩ := h
  unfold InN nP
  simp only
  omega

set_option maxRecDepth 100000 in
set_option maxHeartbeats 4000000 in
theorem deq_in (w : World) (a1 a2 : Option Addr) (cp1 cp2 : Nat) (ss : List ByteArray) (ps : List (Int × Int)) (x y : Int) (hT : Texts w a1 ss) (hm : ss.length ≤ maxLen) (hP : Prw w a2 ps) (hpl : ps.length ≤ 1048576) :
    Calls Tryz.prog 3 #[.slice a1 ss.length cp1, .slice a2 ps.length cp2, .int .i64 x, .int .i64 y] w fun e w' => e = .returned (.bool true) ∧ Below w.heap.size w w' := by
  have LD := load_in w a1 cp1 ss hT hm
  have LD2 : Calls Tryz.prog 4 #[.slice a1 ss.length cp1] w fun e w' => ∃ p l aa ac, e = .returned (.tuple #[.pointer (some ⟨p, 0, none⟩), .slice aa (l : List Tm).length ac]) ∧ Hid ((∃ ev nb fb, Bk w' w.heap.size p ev nb fb l) ∧ Cc.Bd l ∧ l.length ≤ 150 ∧ Below w.heap.size w w') := by
    refine LD.mono ?_
    rintro e w1 ⟨p, ev, nb, fb, l, q, av, vs, rfl, D⟩
    obtain ⟨aa, ac, rfl⟩ := D.r.ls.form
    exact ⟨p, l, aa, ac, rfl, ⟨_, _, _, D.b⟩, D.bd, D.kl.len, D.bel⟩
  have HNW : Hid (∀ (W : World) (p : Nat) (l : List Tm), ((∃ ev nb fb, Bk W w.heap.size p ev nb fb l) ∧ Cc.Bd l ∧ l.length ≤ 150 ∧ Below w.heap.size w W) → Calls Tryz.prog 5 #[.pointer (some ⟨p, 0, none⟩)] W fun e w' => ∃ c : Ks, e = .returned (.pointer (some ⟨c.pc, 0, none⟩)) ∧ Hid (EqS W w' l c (.slice none 0 0) [] [])) := by
    rintro W p l ⟨⟨ev, nb, fb, hB⟩, hb, hl, hbw⟩
    refine (kNew_in W w.heap.size p ev nb fb l hB hb hl).mono ?_
    rintro e w' ⟨c, rfl, C, K⟩
    exact ⟨c, rfl, K.bel, C, ⟨rfl, Or.inl ⟨rfl, rfl⟩⟩, fun k e => by cases e⟩
  have HP : Hid _ := hP
  obtain ⟨pn, hpn⟩ : ∃ n, ps.length = n := ⟨_, rfl⟩
  have HPN : Hid _ := hpn
  rw [hpn] at hpl ⊢
  clear LD hP hT hm hpn
  go_enter Tryz.func3, Tryz.ntmps3
  go_wp2_with (first | (go_at_call 4; refine LD2.mono ?_; rintro e w1 ⟨p, l, aa, ac, rfl, H1⟩) | (go_at_call 5; refine (HNW.out _ _ _ H1.out).mono ?_; rintro e w2 ⟨c, rfl, H2⟩; refine Aside.out ?_))
  delta Aside
  have HS0 : Hid (EqS w1 w2 l c (.slice none 0 0) ((ps.take 0).map nP) ((ps.take 0).map nP) ∧ ∀ p ∈ ps.take 0, InP l.length p) := ⟨H2.out, fun p hp => by simp at hp⟩
  have hb1 := H1.out.2.2.2.size
  obtain ⟨ln, hln⟩ : ∃ n, l.length = n := ⟨_, rfl⟩
  have HLN : Hid _ := hln
  have hl150 : ln ≤ 150 := by rw [← hln]; exact H1.out.2.2.1
  simp only [hln]
  clear LD2 HNW H2 hln
  obtain ⟨i0, hi0, hz0, hz1, hz2⟩ := info_parts infoFormD
  apply_assumption
  go_wp2_with fail
  go_loopw [12, 13] (fun t12 t13 W => ∃ (k : Nat) (c' : Ks), k ≤ pn ∧ t13 = .int .i64 (k : Int) ∧ c'.pc = c.pc ∧ Hid (EqS w1 W l c' t12 ((ps.take k).map nP) ((ps.take k).map nP) ∧ ∀ p ∈ ps.take k, InP l.length p)) (fun _ t13 _ => pn - (intOf t13).toNat)
  case atStart => exact ⟨0, c, Nat.zero_le _, rfl, rfl, HS0⟩
  case round =>
    obtain ⟨k, c', hk, rfl, hpc, HI⟩ := hrel
    clear HS0
    have HPC : Hid _ := hpc
    clear hpc
    have hbl := HI.out.1.bel
    by_cases hlt : k < pn
    · have dk : decide ((k : Int) < (pn : Int)) = true := decide_eq_true (by omega)
      have hwk : IntKind.i64.wrap ((k : Int) + 1) = (k : Int) + 1 := wrap_nat1 (by omega)
      have hkl : k < ps.length := by rw [HPN.out]; exact hlt
      have hge := List.getElem?_eq_getElem hkl
      obtain ⟨b, off, e, hbk, q1, q2⟩ := HP.out k _ hge
      subst e
      have hgw : ∀ {a : Addr} {u : Value}, w.cell? a = some u → wr.cell? a = some u := fun hc => by
        have h1 := (H1.out.2.2.2.cell (World.block_lt_of_cell? w _ hc)).trans hc
        exact (hbl.cell (World.block_lt_of_cell? w1 _ h1)).trans h1
      have q1 := hgw q1
      have q2 := hgw q2
      have hbW : Below w.heap.size w wr := H1.out.2.2.2.trans (hbl.mono hb1)
      have AL := alive7_any wr
      have HBW : Hid _ := hbW
      have HGE : Hid _ := hge
      clear hgw hbW hge
      by_cases hin : InP ln ps[k]
      · obtain ⟨a, b', he, ha, hb⟩ : ∃ a b : Nat, ps[k] = ((a : Int), (b : Int)) ∧ a < ln ∧ b < ln := by
          obtain ⟨⟨p1, p2⟩, p3, p4⟩ := hin
          exact ⟨ps[k].1.toNat, ps[k].2.toNat, by rw [Int.toNat_of_nonneg p1, Int.toNat_of_nonneg p3], by omega, by omega⟩
        have HINP : Hid _ := hin
        rw [he] at q1 q2 HGE HINP
        clear he hin
        have hgk := HGE.out
        simp only at q1 q2
        have d1 : decide ((a : Int) < 0) = false := decide_eq_false (by omega)
        have d2 : decide ((ln : Int) ≤ (a : Int)) = false := decide_eq_false (by omega)
        have d2n : decide (ln ≤ a) = false := decide_eq_false (by omega)
        have d3 : decide ((b' : Int) < 0) = false := decide_eq_false (by omega)
        have d4 : decide ((ln : Int) ≤ (b' : Int)) = false := decide_eq_false (by omega)
        have d4n : decide (ln ≤ b') = false := decide_eq_false (by omega)
        have hts : (ps.take (k + 1)).map nP = (ps.take k).map nP ++ [(a, b')] := by
          rw [List.take_add_one, hgk, Option.toList_some, List.map_append]
          rfl
        have htl : ((ps.take k).map nP).length = k := by rw [List.length_map, List.length_take, HPN.out]; omega
        have hall : ∀ p ∈ ps.take (k + 1), InP l.length p := fun p hp => by
          rw [List.take_add_one, hgk, Option.toList_some] at hp
          rcases List.mem_append.1 hp with hp | hp
          · exact HI.out.2 p hp
          · rw [List.mem_singleton] at hp
            subst hp
            rw [HLN.out]
            exact HINP.out
        obtain ⟨va, vc, hva⟩ := ownsRow_form HI.out.1.row
        subst hva
        have rowf := HI.out.1.row
        rw [htl] at rowf ⊢
        have hzr := HI.out.1.bel.size
        have HPU : Hid (∀ (w8 : World) (v8 : Value), w8.ownsRow w1.heap.size 36 4 v8 (k + 1) ((((ps.take k).map nP).map eLf).flatMap formC ++ [.int .i64 0, .int .i64 (a : Int), .int .i64 (b' : Int), .slice none 0 0]) → (wr.alloc (.cells #[.int .i64 0, .int .i64 (a : Int), .int .i64 (b' : Int), .slice none 0 0] 36)).drew.grownBy w8 (Value.slice va k vc).ownBlock → (v8.ownBlock = (Value.slice va k vc).ownBlock ∨ ∀ k, v8.ownBlock = some k → (wr.alloc (.cells #[.int .i64 0, .int .i64 (a : Int), .int .i64 (b' : Int), .slice none 0 0] 36)).drew.heap.size ≤ k) → EqS w1 w8 l c' v8 ((ps.take k).map nP ++ [(a, b')]) ((ps.take k).map nP)) := fun w8 v8 o8 g8 l8 => by
          have := HI.out.1
          rw [htl] at this
          exact this.push (a, b') (below_ad wr _) (by rw [htl]; exact o8) g8 l8
        have HAL : Hid (_ ∧ _) := And.intro hall hts
        clear HI hall hts hbl hgk AL HINP
        go_wp2_with fail
        go_region_law (first | (refine step_append_here rfl (.tmp 70) (.tmp 83) 30 rfl w1.heap.size 36 i0 _ 4 48 Tryz.underlying30 hi0 hz0 hz1 hz2 rfl (by decide) (.slice va k vc) k ((((ps.take k).map nP).map eLf).flatMap formC) (by rfl) (by exact World.ownsRow.alloc rowf _) ⟨wr.heap.size, 0, none⟩ 1 1 [.int .i64 0, .int .i64 (a : Int), .int .i64 (b' : Int), .slice none 0 0] (by rfl) rfl (cell_fourD wr _ _ _ _ _) (by simp [Value.oneCell']) (by unfold maxLen; omega) (by omega) (by simp; omega) ?_; intro v8 w8 hown8 hgrow8 hloc8; have E8 := HPU.out w8 v8 hown8 hgrow8 hloc8; have HF : Hid _ := E8; clear hown8 hgrow8 hloc8 E8))
        all_goals
          try simp only [Act.put, List.getElem_toArray, List.getElem_cons_succ, List.getElem_cons_zero, List.setIfInBounds_toArray, List.set_cons_succ, List.set_cons_zero]
          have hg8 : ∀ {a : Addr} {u : Value}, w.cell? a = some u → w8.cell? a = some u := fun hc => by
            have h1 := (H1.out.2.2.2.cell (World.block_lt_of_cell? w _ hc)).trans hc
            exact (HF.out.bel.cell (World.block_lt_of_cell? w1 _ h1)).trans h1
          obtain ⟨bx, ox, ex, _, t1, t2⟩ := HP.out k _ HGE.out
          cases ex
          have t1 := hg8 t1
          have t2 := hg8 t2
          simp only at t1 t2
          have MG : Hid (∀ m, Calls Tryz.prog 7 #[.pointer (some ⟨c.pc, 0, none⟩), .int .i64 (a : Int), .int .i64 (b' : Int)] (w8.drewN m) fun e w' => e = .returned (.int .i64 (mergeE l a b')) ∧ ∃ c2 : Ks, c2.pc = c.pc ∧ Hid (EqS w1 w' l c2 v8 ((ps.take (k + 1)).map nP) ((ps.take (k + 1)).map nP) ∧ ∀ p ∈ ps.take (k + 1), InP l.length p)) := fun m => by
            have E8 := HF.out.below (W' := w8.drewN m) ⟨rfl, rfl, rfl, Nat.le_refl _, fun _ _ => rfl⟩
            rw [← HPC.out]
            refine (E8.merge (a := a) (b := b') (by rw [HLN.out]; exact ha) (by rw [HLN.out]; exact hb) (by rw [htl]; omega)).mono ?_
            rintro e w' ⟨he, c2, hc2, E2⟩
            rw [← HAL.out.2] at E2
            exact ⟨he, c2, hc2, E2, HAL.out.1⟩
          clear hg8 HF HAL HPU rowf q1 q2 htl
          go_wp2_with fail
          go_region_with (go_at_call 7; refine (MG.out 1).mono ?_; rintro e w9 ⟨rfl, c2, hc2, H9⟩)
          all_goals
            go_wp2_with fail
            exact ⟨⟨k + 1, c2, hlt, by simp, hc2, H9⟩, by simp [intOf]; omega⟩
      · have HIN : Hid _ := hin
        generalize ps[k] = p at *
        obtain ⟨A, B⟩ := p
        simp only at q1 q2
        have hor : decide (A < 0) = true ∨ (decide (A < 0) = false ∧ decide ((ln : Int) ≤ A) = true) ∨ (decide (A < 0) = false ∧ decide ((ln : Int) ≤ A) = false ∧ decide (B < 0) = true) ∨ (decide (A < 0) = false ∧ decide ((ln : Int) ≤ A) = false ∧ decide (B < 0) = false ∧ decide ((ln : Int) ≤ B) = true) := by
          have h9 : ¬ ((0 ≤ A ∧ A < ln) ∧ 0 ≤ B ∧ B < ln) := HIN.out
          by_cases g1 : A < 0
          · exact Or.inl (decide_eq_true g1)
          · refine Or.inr ?_
            by_cases g2 : (ln : Int) ≤ A
            · exact Or.inl ⟨decide_eq_false g1, decide_eq_true g2⟩
            · refine Or.inr ?_
              by_cases g3 : B < 0
              · exact Or.inl ⟨decide_eq_false g1, decide_eq_false g2, decide_eq_true g3⟩
              · exact Or.inr ⟨decide_eq_false g1, decide_eq_false g2, decide_eq_false g3, decide_eq_true (by omega)⟩
        clear HI hbl HIN
        rcases hor with e1 | ⟨e1, e2⟩ | ⟨e1, e2, e3⟩ | ⟨e1, e2, e3, e4⟩
        all_goals
          go_wp2_with (first | (go_at_call 6; refine AL.mono ?_; rintro e w5 ⟨rfl, B5⟩))
          go_ret
          exact ⟨rfl, HBW.out.trans (B5.mono HBW.out.size)⟩
    · have dk : decide ((k : Int) < (pn : Int)) = false := decide_eq_false (by omega)
      obtain rfl : k = pn := by omega
      have htk : ps.take k = ps := List.take_of_length_le (by rw [HPN.out]; exact Nat.le_refl _)
      rw [htk] at HI
      have hbW : Below w.heap.size w wr := H1.out.2.2.2.trans (hbl.mono hb1)
      have HBW : Hid _ := hbW
      have AL := alive7_any wr
      obtain ⟨va, vc, hva⟩ := ownsRow_form HI.out.1.row
      subst hva
      have hrl : (ps.map nP).length = k := by rw [List.length_map]; exact HPN.out
      rw [hrl]
      clear htk hbW hbl
      by_cases hin : (0 ≤ x ∧ x < ln) ∧ (0 ≤ y ∧ y < ln) ∧ k < 600
      · obtain ⟨⟨hx1, hx2⟩, ⟨hy1, hy2⟩, hk6⟩ := hin
        obtain ⟨x0, rfl⟩ : ∃ n : Nat, x = (n : Int) := ⟨x.toNat, (Int.toNat_of_nonneg hx1).symm⟩
        obtain ⟨y0, rfl⟩ : ∃ n : Nat, y = (n : Int) := ⟨y.toNat, (Int.toNat_of_nonneg hy1).symm⟩
        have d1 : decide ((x0 : Int) < 0) = false := decide_eq_false (by omega)
        have d2 : decide ((ln : Int) ≤ (x0 : Int)) = false := decide_eq_false (by omega)
        have d2n : decide (ln ≤ x0) = false := decide_eq_false (by omega)
        have d3 : decide ((y0 : Int) < 0) = false := decide_eq_false (by omega)
        have d4 : decide ((ln : Int) ≤ (y0 : Int)) = false := decide_eq_false (by omega)
        have d4n : decide (ln ≤ y0) = false := decide_eq_false (by omega)
        have d5 : decide ((600 : Int) ≤ (k : Int)) = false := decide_eq_false (by omega)
        have d5n : decide (600 ≤ k) = false := decide_eq_false (by omega)
        obtain ⟨⟨ev, nb, fb, hBk⟩, hbd, hl1, hbw1⟩ := H1.out
        have hq : ∀ q ∈ ps.map nP, InN l.length q := fun q hq => by
          obtain ⟨p', hp', rfl⟩ := List.mem_map.1 hq
          exact (HI.out.2 p' hp').n
        have hrow := HI.out.1.row
        rw [hrl] at hrow
        obtain ⟨ks, s1, s2, s3⟩ := row_slf (N := l.length) (ts := (ps.map nP).map eLf) (by rw [List.length_map, hrl]; exact hrow) (fun t ht => by
          obtain ⟨q, hqm, rfl⟩ := List.mem_map.1 ht
          have := hq q hqm
          exact qLf_ok ⟨by omega, by have := this.1; omega⟩ ⟨by omega, by have := this.2; omega⟩)
        have he : ks.map Lf.er = (ps.map nP).map foE := by
          rw [s2, List.map_map]
          refine List.map_congr_left (fun q _ => ?_)
          simp [eLf, qLf, Lf.er, foE, Fo.eq]
        have hkl : ks.length = k := by rw [s3, List.length_map, hrl]
        rw [← hkl] at s1
        have hBkr := hBk.below hBk.low HI.out.1.bel
        have DY := decide_yes wr w.heap.size p ev nb fb l hBkr hbd hl1 va vc ks _ _ (eqs_asked hl1 hq (by omega) s1 he) 1 (by omega) (eqs_model hbd hq (by omega))
        rw [hkl] at DY
        have DY2 : Calls Tryz.prog 8 #[.pointer (some ⟨p, 0, none⟩), .slice va k vc] wr fun e w' => ∃ ca cn cc, e = .returned (.tuple #[.agg #[.bool true, .slice ca cn cc, .slice none 0 0], .int .i64 0]) ∧ Hid (Below wr.heap.size wr w') := by
          refine DY.mono ?_
          rintro e w' ⟨ca, cn, cc, rfl, h9⟩
          exact ⟨ca, cn, cc, rfl, h9⟩
        have h0 : InN l.length (x0, y0) := ⟨by rw [HLN.out]; omega, by rw [HLN.out]; omega⟩
        obtain ⟨PF, fsF, hAF, hMF⟩ := eqs_follows hbd hl1 hq (by omega) h0
        have hSB : sameB l.length c'.z.g (x0 : Int) (y0 : Int) = cgB l (ps.map nP) (x0 : Int) (y0 : Int) := HI.out.1.cl.sameB _ _
        have hCG : (cgB l (ps.map nP) (x0 : Int) (y0 : Int) = true) ↔ Cc.Cg l (ps.map nP) x0 y0 := by
          unfold cgB
          rw [inB_nat h0.1, inB_nat h0.2]
          simp
        have HFL : Hid (∀ V, Below wr.heap.size wr V → Calls Tryz.prog 9 #[.pointer (some ⟨p, 0, none⟩), .slice va k vc, .agg #[.int .i64 0, .int .i64 (x0 : Int), .int .i64 (y0 : Int), .slice none 0 0]] V fun e w' => e = .returned (.tuple #[.bool (sameB l.length c'.z.g (x0 : Int) (y0 : Int)), .int .i64 0]) ∧ Hid (Below V.heap.size V w')) := fun V hV => by
          have FO := dfollows_in V w.heap.size p ev nb fb l (hBkr.below hBkr.low hV) hbd hl1 va vc ks (s1.below hV) (by rw [eqs_cost he, hrl]; omega) (x0 : Int) (y0 : Int) ⟨by omega, by have := h0.1; omega⟩ ⟨by omega, by have := h0.2; omega⟩ PF fsF (by rw [he]; exact hAF) (sameB l.length c'.z.g (x0 : Int) (y0 : Int)) (MdlT.mono (fun r Q h => by rw [hSB, hCG]; exact h) 2 PF hMF)
          rw [hkl] at FO
          exact FO.mono fun e w' h => ⟨h.1, h.2⟩
        have HSA : Hid (∀ V, Below wr.heap.size wr V → Calls Tryz.prog 11 #[.pointer (some ⟨c.pc, 0, none⟩), .int .i64 (x0 : Int), .int .i64 (y0 : Int)] V fun e w' => e = .returned (.bool (sameB l.length c'.z.g (x0 : Int) (y0 : Int))) ∧ Hid (Below V.heap.size V w')) := fun V hV => by
          have SA := kSame_in V w1.heap.size l c' _ (HI.out.1.cl.kept0 (kept0_of hV)) (x0 : Int) (y0 : Int)
          rw [HPC.out] at SA
          refine SA.mono ?_
          rintro e w' ⟨rfl, m, rfl⟩
          exact ⟨rfl, ⟨rfl, rfl, rfl, Nat.le_refl _, fun _ _ => rfl⟩⟩
        generalize sameB l.length c'.z.g (x0 : Int) (y0 : Int) = sb at *
        clear hSB hCG hMF hAF DY hBkr s1 s2 s3 he hrow hq hBk hbd hbw1 HI AL hx1 hx2 hy1 hy2
        go_wp2_with (first | (go_at_call 8; refine DY2.mono ?_; rintro e w5 ⟨ca, cn, cc, rfl, H5⟩; refine Aside.out ?_))
        delta Aside
        have AN := made_row w5 #[.bool true, .slice ca cn cc, .slice none 0 0] 41
        have hA7 : Below w5.heap.size w5 (w5.alloc (.cells #[.bool true, .slice ca cn cc, .slice none 0 0] 41)) := (Below.refl _ _).alloc (Nat.le_refl _) _
        have hW7 : Below wr.heap.size wr (w5.alloc (.cells #[.bool true, .slice ca cn cc, .slice none 0 0] 41)) := H5.out.trans (hA7.mono H5.out.size)
        have hv2 : (w5.alloc (.cells #[.bool true, .slice ca cn cc, .slice none 0 0] 41)).cell? ⟨w5.heap.size, 2, none⟩ = some (.slice none 0 0) := AN.cell (i := 2) (by simp)
        have hv0 : (w5.alloc (.cells #[.bool true, .slice ca cn cc, .slice none 0 0] 41)).cell? ⟨w5.heap.size, 0, none⟩ = some (.bool true) := AN.cell (i := 0) (by simp)
        have hf2 := AN.frozen 2
        have hs2 : (w5.alloc (.cells #[.bool true, .slice ca cn cc, .slice none 0 0] 41)).setCell ⟨w5.heap.size, 2, none⟩ (.slice none 0 0) = w5.alloc (.cells #[.bool true, .slice ca cn cc, .slice none 0 0] 41) := by simp [go_sem]
        obtain ⟨V, hV⟩ : ∃ V, w5.alloc (.cells #[.bool true, .slice ca cn cc, .slice none 0 0] 41) = V := ⟨_, rfl⟩
        rw [hV] at hW7 hv2 hf2 hs2 hv0
        have FL := HFL.out V hW7
        have HV0 : Hid (_ ∧ _) := And.intro hv0 hW7
        clear DY2 HFL AN hA7 H5 hv0 hW7
        apply_assumption
        go_wp2_with (first | (go_at_call 9; refine FL.mono ?_; rintro e w6 ⟨rfl, H6⟩; refine Aside.out ?_))
        delta Aside
        have a0 := (H6.out.cell (World.block_lt_of_cell? V _ HV0.out.1)).trans HV0.out.1
        have hW6 : Below wr.heap.size wr w6 := HV0.out.2.trans (H6.out.mono HV0.out.2.size)
        have SA := HSA.out w6 hW6
        have HW6 : Hid _ := hW6
        clear FL HSA hv2 hf2 hs2 hV HV0 hW6 H6
        have sbb : (sb == sb) = true := by simp
        apply_assumption
        go_wp2_with (first | (go_at_call 10; refine (num7_any _ _).mono ?_; rintro e w9 ⟨rfl, rfl⟩) | (go_at_call 11; refine SA.mono ?_; rintro e w7 ⟨rfl, H7⟩; have AL := alive7_any w7) | (go_at_call 6; refine AL.mono ?_; rintro e w8 ⟨rfl, B8⟩))
        go_ret
        have h67 := HW6.out.trans (H7.out.mono HW6.out.size)
        have h68 := h67.trans (B8.mono h67.size)
        exact ⟨rfl, HBW.out.trans (h68.mono HBW.out.size)⟩
      · have hor : decide (x < 0) = true ∨ (decide (x < 0) = false ∧ decide ((ln : Int) ≤ x) = true) ∨ (decide (x < 0) = false ∧ decide ((ln : Int) ≤ x) = false ∧ decide (y < 0) = true) ∨ (decide (x < 0) = false ∧ decide ((ln : Int) ≤ x) = false ∧ decide (y < 0) = false ∧ decide ((ln : Int) ≤ y) = true) ∨ (decide (x < 0) = false ∧ decide ((ln : Int) ≤ x) = false ∧ decide (y < 0) = false ∧ decide ((ln : Int) ≤ y) = false ∧ decide ((600 : Int) ≤ (k : Int)) = true ∧ decide (600 ≤ k) = true) := by
          by_cases g1 : x < 0
          · exact Or.inl (decide_eq_true g1)
          · refine Or.inr ?_
            by_cases g2 : (ln : Int) ≤ x
            · exact Or.inl ⟨decide_eq_false g1, decide_eq_true g2⟩
            · refine Or.inr ?_
              by_cases g3 : y < 0
              · exact Or.inl ⟨decide_eq_false g1, decide_eq_false g2, decide_eq_true g3⟩
              · refine Or.inr ?_
                by_cases g4 : (ln : Int) ≤ y
                · exact Or.inl ⟨decide_eq_false g1, decide_eq_false g2, decide_eq_false g3, decide_eq_true g4⟩
                · exact Or.inr ⟨decide_eq_false g1, decide_eq_false g2, decide_eq_false g3, decide_eq_false g4, decide_eq_true (by omega), decide_eq_true (by omega)⟩
        clear HI hin
        rcases hor with e1 | ⟨e1, e2⟩ | ⟨e1, e2, e3⟩ | ⟨e1, e2, e3, e4⟩ | ⟨e1, e2, e3, e4, e5, e6⟩
        all_goals
          go_wp2_with (first | (go_at_call 6; refine AL.mono ?_; rintro e w5 ⟨rfl, B5⟩))
          go_ret
          exact ⟨rfl, HBW.out.trans (B5.mono HBW.out.size)⟩
end Go.Proofs.YtlehlgipbhfioaaGreat
