/- Package sat: pop, try. -/
import Derived.Test.YtlehlgipbhfioaaGreatSaO
import Derived.Test.YtlehlgipbhfioaaGreatP10
namespace Go.Proofs.YtlehlgipbhfioaaGreat
open Go.RowKit Go.Maps

set_option maxRecDepth 100000 in
set_option maxHeartbeats 400000 in
theorem pop_in (w : World) (A : Ad) (s : Sv) (h : Mem w A s) (ob : Nat) (hob : A.blk .order = some ob) (hhp : ∀ v ∈ s.hp, v ≤ s.n) (h1 : 1 ≤ s.hp.length) (hl4 : s.hp.length ≤ 4000) :
    Calls Tryz.prog 219 #[.pointer (some ⟨ob, 0, none⟩)] w fun e w' => e = .returned (.tuple #[.int .i32 ((s.pop.1.getD 0 : Nat) : Int), .bool s.pop.1.isSome]) ∧ ∃ A', Step w w' A A' s.pop.2 ∧ ∀ r, A'.blk r = A.blk r ∧ (r ≠ .heap → A'.sp r = A.sp r) := by
  obtain ⟨ob', hb, pb, cb, hob', hhb, hpb, hcb, e0, e1, e2⟩ := h.ord
  rw [hob] at hob'
  cases hob'
  by_cases hl : s.hp.length ≤ 1
  · have hl1 : s.hp.length = 1 := by omega
    have hpop : s.pop = (none, s) := by unfold Sv.pop; rw [if_pos hl]
    rw [hpop]
    rw [hl1] at e1
    have HM : Hid _ := h
    clear h e0 e2
    go_enter Tryz.func219, Tryz.ntmps219
    go_wp2_with fail
    exact ⟨rfl, .tuple #[.int .i32 0, .bool false], by simp [results, Tryz.results219], rfl, A, ⟨HM.out, Kept.refl _ _, fun _ hk => Or.inl hk⟩, fun _ => ⟨rfl, fun _ => rfl⟩⟩
  · have hl2 : s.hp.length - 1 < s.hp.length := by omega
    have hl3 : 1 < s.hp.length := by omega
    obtain ⟨a, ha⟩ : ∃ a, s.hp[1]? = some a := ⟨_, List.getElem?_eq_getElem hl3⟩
    obtain ⟨b, hbb⟩ : ∃ b, s.hp[s.hp.length - 1]? = some b := ⟨_, List.getElem?_eq_getElem hl2⟩
    have hpop : s.pop = (some a, { s with hp := (s.hp.set 1 b).take (s.hp.length - 1) }) := by
      unfold Sv.pop
      rw [if_neg hl, ha, hbb]; rfl
    have hbn := hhp b (List.mem_of_getElem? hbb)
    have han := hhp a (List.mem_of_getElem? ha)
    rw [hpop]
    have SW := swap_in w A s h ob hob hhp 1 (s.hp.length - 1) a b ha hbb
    have hhp2 : ∀ v ∈ (s.hp.set 1 b).take (s.hp.length - 1), v ≤ s.n := fun v hv => by
      rcases List.mem_or_eq_of_mem_set (List.mem_of_mem_take hv) with hv | hv
      · exact hhp v hv
      · rw [hv]; exact hbn
    obtain ⟨last, hlast⟩ : ∃ last, s.hp.length = last + 1 := ⟨s.hp.length - 1, by omega⟩
    have hle : s.hp.length - 1 = last := by omega
    rw [hle] at SW hhp2 ⊢
    have SW : Calls Tryz.prog 245 #[.pointer (some ⟨ob, 0, none⟩), .int .i64 1, .int .i64 (last : Int)] w _ := SW
    rw [hlast] at e1
    have HHP : Hid _ := hhp2
    have dl : ((last : Int) == 0) = false := by rw [beq_eq_false_iff_ne]; omega
    have hsub : wrap64 (last : Int) = (last : Int) := by unfold wrap64; omega
    clear h e0 e2 hhp hhp2 hpop
    have hL : s.hp.length = last + 1 := hlast
    have HL : Hid _ := hL
    clear hL hlast hle hl hl2 hl3 h1
    go_enter Tryz.func219, Tryz.ntmps219
    go_wp2_with (first | (go_at_call 245; refine SW.mono ?_; rintro e w3 ⟨rfl, pl, S3⟩; refine Aside.out ?_))
    delta Aside
    have M3 := S3.mem
    have hhb3 : ({ A with pl := pl } : Ad).blk .heap = some hb := hhb
    have hob3 : ({ A with pl := pl } : Ad).blk .order = some ob := hob
    have hpb3 : ({ A with pl := pl } : Ad).blk .places = some pb := hpb
    obtain ⟨ob', hb', pb', cb', hob', hhb', hpb', hcb', e0', e1', e2'⟩ := M3.ord
    rw [hob3] at hob'
    rw [hhb3] at hhb'
    rw [hpb3] at hpb'
    cases hob'
    cases hhb'
    cases hpb'
    have x1 := M3.hcell hhb3 (i := last) (v := a) (by
      show ((s.hp.set 1 b).set last a)[last]? = _
      rw [List.getElem?_set_self (by rw [List.length_set, HL.out]; omega)])
    have f1 := M3.frozen hob3 1
    have hlen3 : ({ s with hp := (s.hp.set 1 b).set last a } : Sv).hp.length = last + 1 := by simp only [List.length_set]; exact HL.out
    rw [hlen3] at e1'
    have hsp3 : ({ A with pl := pl } : Ad).sp .heap = A.sp .heap := rfl
    rw [hsp3] at e1'
    have M4 := M3.cutHp hob3 hhb3 last (by rw [hlen3]; omega)
    rw [hlen3, hsp3] at M4
    have htk : ((s.hp.set 1 b).set last a).take last = (s.hp.set 1 b).take last := by rw [List.take_set_of_le (Nat.le_refl _)]
    have M4 : Mem (w3.setCell ⟨ob, 1, none⟩ (.slice (some ⟨hb, 0, none⟩) last (last + 1 + (A.sp .heap).length))) (({ A with pl := pl } : Ad).up .heap hb ((((s.hp.set 1 b).set last a).drop last).map i32 ++ A.sp .heap)) { s with hp := (s.hp.set 1 b).take last } := by
      rw [← htk]; exact M4
    obtain ⟨A4, hA4⟩ : ∃ A4, A4 = (({ A with pl := pl } : Ad).up .heap hb ((((s.hp.set 1 b).set last a).drop last).map i32 ++ A.sp .heap)) := ⟨_, rfl⟩
    have hblk4 : ∀ r, A4.blk r = A.blk r ∧ (r ≠ .heap → A4.sp r = A.sp r) := fun r => by
      rw [hA4]
      refine ⟨?_, fun hr => if_neg hr⟩
      show (if r = .heap then some hb else A.blk r) = _
      split
      · next e => rw [e, hhb]
      · rfl
    rw [← hA4] at M4
    have S4 : Step w _ A A4 _ := S3.trans ⟨M4, (Kept.refl _ _).setCell (p := ⟨ob, 1, none⟩) ⟨_, hob3⟩ _, fun q ⟨r, hr⟩ => Or.inl ⟨r, (hblk4 r).1.symm.trans hr⟩⟩
    have hpl := M4.lp
    have hpb4 : A4.blk .places = some pb := (hblk4 .places).1.trans hpb
    have hob4 : A4.blk .order = some ob := (hblk4 .order).1.trans hob
    have q1 : ∃ v, (w3.setCell ⟨ob, 1, none⟩ (.slice (some ⟨hb, 0, none⟩) last (last + 1 + (A.sp .heap).length))).cell? ⟨pb, a, none⟩ = some v := ⟨_, M4.cell hpb4 (List.getElem?_eq_getElem (by show a < A4.pl.length; rw [hpl]; show a < s.n + 1; omega))⟩
    obtain ⟨v1, q1⟩ := q1
    have q2 := M4.frozen hpb4 a
    have q3 : (w3.setCell ⟨ob, 1, none⟩ (.slice (some ⟨hb, 0, none⟩) last (last + 1 + (A.sp .heap).length))).cell? ⟨ob, 2, none⟩ = some (.slice (some ⟨pb, 0, none⟩) (s.n + 1) (s.n + 1)) := by
      have := M4.cell hob4 (i := 2) rfl
      simpa only [Ad.slv, hpb4, M4.flat.2.2.2.1, List.length_nil, Nat.zero_div, Nat.add_zero] using this
    have M5 := M4.setPl hpb4 a (.int .i64 (-1))
    have S5 : Step w _ A { A4 with pl := A4.pl.set a (.int .i64 (-1)) } _ := S4.trans ⟨M5, (Kept.refl _ _).setCell (p := ⟨pb, a, none⟩) ⟨_, hpb4⟩ _, fun _ hk => Or.inl hk⟩
    have DW := down_in _ _ _ M5 ob hob4 HHP.out (by show ((s.hp.set 1 b).take last).length ≤ 4000; simp only [List.length_take, List.length_set]; omega)
    have da : (a : Int) < (s.n : Int) + 1 := by omega
    have dla : (last : Int) < ((last + 1 : Nat) : Int) := by omega
    have HS5 : Hid _ := S5
    have HB4 : Hid _ := hblk4
    simp only at e1' e2'
    clear S3 M3 M4 M5 S4 S5 hA4 htk hlen3 hblk4 SW
    apply_assumption
    go_wp2_with (first | (go_at_call 246; refine DW.mono ?_; rintro e w7 ⟨rfl, m7, rfl⟩))
    exact ⟨rfl, .tuple #[.int .i32 (a : Int), .bool true], by simp [results, Tryz.results219], rfl, _, HS5.out.trans (Step.drew HS5.out.mem m7), fun r => HB4.out r⟩

end Go.Proofs.YtlehlgipbhfioaaGreat
