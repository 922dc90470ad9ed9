/- Package find: Class. -/
import Derived.Test.YtpipihllofpnaaaFindS
import Derived.Test.YtpipihllofpnaaaSortC
import Derived.Sort.OwnSortedInts
import Derived.Deep.RegionWith
import Derived.Deep.CutRange
import Derived.Maps.AppendAt
namespace Go.Proofs.Ytpipihllofpnaaa
open Go.RowKit Go.Sort

theorem intsC_map (l : List Nat) : intsC l = (l.map fun x : Nat => (x : Int)).map (Value.int .i64) := by simp [intsC]

theorem sorted_is (l T : List Nat) (hp : T.Perm l) (hs : T.Pairwise (· < ·)) : ((l.map fun x : Nat => (x : Int)).mergeSort fun x y => decide (x ≤ y)) = T.map fun x : Nat => (x : Int) := by
  refine List.Perm.eq_of_pairwise (le := fun a b : Int => decide (a ≤ b) = true) (fun a b _ _ h1 h2 => ?_) (List.pairwise_mergeSort (fun a b c h1 h2 => ?_) (fun a b => ?_) _) ?_ ((List.mergeSort_perm _ _).trans (hp.symm.map _))
  · simp only [decide_eq_true_eq] at h1 h2; omega
  · simp only [decide_eq_true_eq] at h1 h2 ⊢; omega
  · simp only [Bool.or_eq_true, decide_eq_true_eq]; omega
  · refine List.pairwise_map.2 (hs.imp ?_)
    intro a b hab
    simp only [decide_eq_true_eq]; omega

theorem Sort_row (w : World) (base : Nat) (v : Value) (l T : List Nat) (k : Nat) (hk : l.length = k + 1) (hsm : l.length ≤ 100000) (ho : w.ownsRow base 3 1 v l.length (intsC l)) (hp : T.Perm l) (hs : T.Pairwise (· < ·)) :
    Calls Try.prog 119 #[v] w fun e w' => e = .returned (.tuple #[]) ∧ w'.ownsRow base 3 1 v T.length (intsC T) ∧ w.grownBy w' v.ownBlock := by
  have hlen : T.length = l.length := hp.length_eq
  rcases ho.2 with ⟨_, h0⟩ | ⟨g, cap, cur, rfl, hb, hg, h1, h2, h3, h4⟩
  · omega
  · rw [intsC_map, Nat.mul_one] at h4
    have hH : Holds (Value.int .i64) w g 0 (l.map fun x : Nat => (x : Int)).toArray := holds_of_blockI hg (by rw [List.length_map]; exact h4)
    have hc := Try.slices_Sort_int g 0 cap (l.map fun x : Nat => (x : Int)) w hH (Array.getElem?_eq_some_iff.1 hg).1 (by rw [List.length_map]; omega)
    rw [sorted_is l T hp hs, List.length_map] at hc
    refine hc.mono ?_
    rintro e w' ⟨he, n, os, rfl⟩
    refine ⟨he, ?_, grownBy_sortedI _⟩
    rw [intsC_map, hlen]
    have := ownsRow_sortedI (n := n) (os := os) (ss := l.map fun x : Nat => (x : Int)) (ts := T.map fun x : Nat => (x : Int)) (by simp [hlen]) hb hg (by simpa using h1) h2 h3
    simpa using this

/-- The numbers of a class, rising. -/
def classL (n : Nat) (g : Uf.G) (a : Int) : List Nat := if inB n a then (List.range n).filter fun i => decide (g.rt i = g.rt a.toNat) else []

theorem class_perm {n : Nat} {g : Uf.G} {i : Nat} {l : List Nat} (hi : i < n) (hd : (i :: l).Nodup) (hm : ∀ j, j ∈ i :: l ↔ j < n ∧ g.rt j = g.rt i) : (classL n g (i : Int)).Perm (i :: l) := by
  unfold classL
  rw [if_pos (inB_nat hi), Int.toNat_natCast]
  refine (List.perm_ext_iff_of_nodup (List.nodup_range.filter _) hd).2 fun j => ?_
  rw [hm, List.mem_filter, List.mem_range, decide_eq_true_eq]

theorem class_rising (n : Nat) (g : Uf.G) (a : Int) : (classL n g a).Pairwise (· < ·) := by
  unfold classL
  split
  · exact List.pairwise_lt_range.filter _
  · exact List.Pairwise.nil

theorem class_length (n : Nat) (g : Uf.G) (a : Int) : (classL n g a).length ≤ n := by
  unfold classL
  split
  · have := List.length_filter_le (fun i => decide (g.rt i = g.rt a.toNat)) (List.range n)
    simpa using this
  · simp

theorem infoInt : (Try.prog.info? 3).map (fun i => (i.zero, i.size, i.bytes)) = some (some (.int .i64 0), 1, 8) := by kernel_rfl

/-- Where the walk round a ring stands: d has been met, x comes next. -/
def Round (N : Nat → Uf.Nd) (i : Nat) (l d : List Nat) (x : Nat) : Prop := (x = i ∧ d = l) ∨ ∃ r, l = d ++ x :: r ∧ Uf.Path N x i r

theorem round_start {N : Nat → Uf.Nd} {i : Nat} {l : List Nat} (h : Uf.Path N i i l) : Round N i l [] (N i).nxt := by
  cases l with
  | nil => exact Or.inl ⟨h, rfl⟩
  | cons y r => exact Or.inr ⟨r, by rw [h.1]; rfl, by rw [h.1]; exact h.2⟩

theorem round_next {N : Nat → Uf.Nd} {i x : Nat} {l d r : List Nat} (e : l = d ++ x :: r) (h : Uf.Path N x i r) : Round N i l (d ++ [x]) (N x).nxt := by
  cases r with
  | nil => exact Or.inl ⟨h, by rw [e]⟩
  | cons y r => exact Or.inr ⟨r, by rw [h.1, e]; simp, by rw [h.1]; exact h.2⟩

theorem intsC_snoc (l : List Nat) (x : Nat) : intsC (l ++ [x]) = intsC l ++ [.int .i64 (x : Int)] := by simp [intsC]

set_option maxRecDepth 100000 in
set_option maxHeartbeats 2000000 in
theorem Class_in (w : World) (base p nb : Nat) (jv : Value) (n : Nat) (s : GT) (h : St w base p nb jv n s.1 s.2) (hn60 : n ≤ 60) (a : Int) :
    Calls Try.prog 84 #[.pointer (some ⟨p, 0, none⟩), .int .i64 a] w fun e w' => ∃ v, e = .returned v ∧ Below w.heap.size w w' ∧ w'.ownsRow w.heap.size 3 1 v (classL n s.1 a).length (intsC (classL n s.1 a)) := by
  have HAS := has_in w base p nb n s.1 jv _ h.lies a
  cases hb : inB n a
  · have hcl : classL n s.1 a = [] := by unfold classL; rw [hb]; rfl
    rw [hcl]
    rw [hb] at HAS
    clear h
    go_enter Try.func84, Try.ntmps84
    go_wp2_with fail
    refine HAS.mono ?_
    rintro e w' ⟨rfl, rfl⟩
    go_wp2
    go_ret
    exact ⟨_, rfl, Below.refl _ _, World.ownsRow_nil _ _ _ _⟩
  · rw [hb] at HAS
    obtain ⟨b1, b2⟩ := inB_true hb
    obtain ⟨i, rfl⟩ := Int.eq_ofNat_of_zero_le b1
    have hi : i < n := by omega
    have hok := h.ok
    obtain ⟨l, hpath, hnd, hmem⟩ := Uf.ring_any hok (Uf.rings_hist n s.2 s.1 h.hist) i hi
    have hperm := class_perm hi hnd hmem
    have hris := class_rising n s.1 (i : Int)
    have hclen := class_length n s.1 (i : Int)
    have hll : (classL n s.1 (i : Int)).length = l.length + 1 := by rw [hperm.length_eq]; rfl
    have hrt := hok.rtlt i hi
    have ROOT := fun m => root_in (w.drewN m) base p nb n s.1 jv _ h.lies.drewN _ hok i hi
    have c0 := h.lies.c0
    have cs := h.lies.siz hrt
    have hsz : (s.1.N (s.1.rt i)).siz ≤ n := by
      rw [hok.siz _ hrt (hok.rtrt i hi)]; exact Uf.cnt_le _ _
    obtain ⟨i0, hi0, hz0, hz1, hz2⟩ := info_parts infoInt
    have MK : ∀ (W : World) (k : Nat), k ≤ 60 → ∃ C : Array Value, C.size = k ∧ (Instr.makeSlice 40 (.int .i64 0) (.int .i64 (k : Int))).run Try.prog W = .ok (.slice (some ⟨W.heap.size, 0, none⟩) 0 k) (W.alloc (.cells C 3)) := by
      intro W k hk
      have hmk := run_make (P := Try.prog) W 40 3 i0 _ Try.underlying40 hi0 hz0 .i64 .i64 (0 : Int) (k : Int) (by omega) (by omega) (by rw [hz2]; omega) (by omega)
      simp only [Int.toNat_natCast, Int.toNat_zero] at hmk
      exact ⟨_, by rw [size_madeCells, hz1, Nat.mul_one], hmk⟩
    generalize hsg : (s.1.N (s.1.rt i)).siz = sz at *
    have MK' : ∃ C : Array Value, C.size = sz ∧ ∀ W : World, (Instr.makeSlice 40 (.int .i64 0) (.int .i64 (sz : Int))).run Try.prog W = .ok (.slice (some ⟨W.heap.size, 0, none⟩) 0 sz) (W.alloc (.cells C 3)) := by
      refine ⟨madeCells (Value.int .i64 0).cells (sz * 1), by rw [size_madeCells, Nat.mul_one], fun W => ?_⟩
      have hmk := run_make (P := Try.prog) W 40 3 i0 _ Try.underlying40 hi0 hz0 .i64 .i64 (0 : Int) (sz : Int) (by omega) (by omega) (by rw [hz2]; omega) (by omega)
      simp only [Int.toNat_natCast, Int.toNat_zero, hz1] at hmk
      exact hmk
    obtain ⟨C, hC, hmk⟩ := MK'
    clear MK
    have HC : Hid (C.size = sz) := hC
    clear hC
    have hne := h.lies.ne
    have plt := h.lies.sets.lt
    have nlt := h.lies.nodes.lt
    go_enter Try.func84, Try.ntmps84
    go_wp2_with fail
    refine HAS.mono ?_
    rintro e w' ⟨rfl, rfl⟩
    clear HAS
    go_upto_region 3 with fail
    go_cut [5] from 11 to 21 (fun v wx => wx.ownsRow w.heap.size 3 1 v 0 [] ∧ Below w.heap.size w wx)
    case first =>
      go_region_with (go_at_call 76; refine (ROOT _).mono ?_; rintro e w3 ⟨rfl, rfl⟩)
      all_goals
        go_wp2_with fail
        go_meet
        case rel => exact ⟨World.ownsRow_made (w.drewN _) C sz (Nat.le_refl _) (by unfold maxLen; omega) (by rw [HC.out, Nat.mul_one]), (below_drewN (Below.refl _ w) _).alloc (Nat.le_refl _) _⟩
    case rest =>
      obtain ⟨hv, hbw⟩ := hcut
      have ci : ∀ W, Below w.heap.size w W → ∀ x, x < n → W.cell? ⟨nb, x * 4 + 1, none⟩ = some (.int .i64 ((s.1.N x).nxt : Int)) := fun W hB x hx => (hB.cell (p := ⟨nb, x * 4 + 1, none⟩) nlt).trans (h.lies.nxt hx)
      have cp : ∀ W, Below w.heap.size w W → W.cell? ⟨p, 0, none⟩ = some (.slice (some ⟨nb, 0, none⟩) n n) := fun W hB => (hB.cell (p := ⟨p, 0, none⟩) plt).trans c0
      have Hci : Hid (∀ W, Below w.heap.size w W → ∀ x, x < n → W.cell? ⟨nb, x * 4 + 1, none⟩ = some (.int .i64 ((s.1.N x).nxt : Int))) := ci
      have Hcp : Hid (∀ W, Below w.heap.size w W → W.cell? ⟨p, 0, none⟩ = some (.slice (some ⟨nb, 0, none⟩) n n)) := cp
      clear ci cp ROOT hmk HC c0 cs hsg hsz
      go_wp2_with (at_builtin; refine wpList_append_own _ rfl _ _ 40 rfl w.heap.size 3 i0 _ 1 8 Try.underlying40 hi0 hz0 hz1 hz2 rfl (by decide) _ _ _ rfl (hv.alloc _) ⟨wc.heap.size, 0, none⟩ 1 1 [.int .i64 (i : Int)] rfl rfl (cell_one_new _ _ _) (by simp [Value.oneCell']) (by unfold maxLen; omega) (by omega) (by have := hbw.size; simp; omega) ?_; intro v' w1 hown' hgrow _; have d0 := Hcp.out _ ((hbw.alloc hbw.size _).grown hgrow (by have := hbw.size; simp; omega) (fun k hk => (hv.lt k hk).1)); have d1 := Hci.out _ ((hbw.alloc hbw.size _).grown hgrow (by have := hbw.size; simp; omega) (fun k hk => (hv.lt k hk).1)) i hi)
      have hB1 : Below w.heap.size w w1 := (hbw.alloc hbw.size _).grown hgrow (by have := hbw.size; simp; omega) (fun k hk => (hv.lt k hk).1)
      clear hgrow hbw hv d0 d1
      have hR0 := round_start hpath
      have HM : Hid ((i :: l).Nodup ∧ (∀ j, j ∈ i :: l ↔ j < n ∧ s.1.rt j = s.1.rt i) ∧ (classL n s.1 (i : Int)).Perm (i :: l) ∧ List.Pairwise (· < ·) (classL n s.1 (i : Int)) ∧ (classL n s.1 (i : Int)).length = l.length + 1) := ⟨hnd, hmem, hperm, hris, hll⟩
      have hl59 : l.length + 1 ≤ n := by omega
      clear hnd hmem hperm hris hll hpath hclen
      go_loopg [5, 6] l.length (fun k v t W => ∃ (d : List Nat) (x : Nat), k + d.length = l.length ∧ t = .int .i64 (x : Int) ∧ Hid (Round s.1.N i l d x) ∧ W.ownsRow w.heap.size 3 1 v (d.length + 1) (intsC (i :: d)) ∧ Hid (Below w.heap.size w W))
      case atStart => exact ⟨[], _, rfl, rfl, hR0, hown', hB1⟩
      case round =>
        clear hown' hB1 hR0
        obtain ⟨d, x, hkd, rfl, hR, hown, hB⟩ := hrel
        rcases hR.out with ⟨hxi, hdl⟩ | ⟨r, hl, hp⟩
        · subst hxi hdl
          clear hR
          have e1 : Hid (Below w.heap.size w wr) := hB
          have hS := Sort_row wr w.heap.size _ (x :: d) (classL n s.1 (x : Int)) d.length rfl (by simp; omega) hown HM.out.2.2.1 HM.out.2.2.2.1
          have hvb : ∀ k, Value.ownBlock _ = some k → w.heap.size ≤ k := fun k hk => (hown.lt k hk).1
          have HV : Hid _ := hvb
          clear hvb hown
          go_wp2_with fail
          refine hS.mono ?_
          rintro e w5 ⟨rfl, ho5, hg5⟩
          go_wp2
          go_ret
          exact ⟨_, rfl, hB.out.grown hg5 hB.out.size (fun k hk => HV.out k hk), ho5⟩
        · have hxm : x ∈ i :: l := by rw [hl]; simp
          have hxn : x < n := ((HM.out.2.1 x).1 hxm).1
          have hxi : x ≠ i := by
            rintro rfl
            have := HM.out.1
            rw [hl] at this
            simp at this
          have hne2 : ((x : Int) != (i : Int)) = true := by rw [bne_iff_ne]; omega
          have hdl : d.length + 1 ≤ l.length := by rw [hl]; simp
          have HR : Hid (Round s.1.N i l (d ++ [x]) (s.1.N x).nxt) := round_next hl hp
          have hlt := hown.lt
          have HLT : Hid (∀ k, Value.ownBlock _ = some k → w.heap.size ≤ k) := fun k hk => (hlt k hk).1
          clear hlt hl hp hxm hxi hR
          go_wp2_with (at_builtin; refine wpList_append_own _ rfl _ _ 40 rfl w.heap.size 3 i0 _ 1 8 Try.underlying40 hi0 hz0 hz1 hz2 rfl (by decide) _ _ _ rfl (hown.alloc _) ⟨wr.heap.size, 0, none⟩ 1 1 [.int .i64 (x : Int)] rfl rfl (cell_one_new _ _ _) (by simp [Value.oneCell']) (by unfold maxLen; omega) (by omega) (by have := hB.out.size; simp; omega) ?_; intro v' w5 hown5 hgrow5 _; have hB5 := (hB.out.alloc hB.out.size _).grown hgrow5 (by have := hB.out.size; simp; omega) (fun k hk => HLT.out k hk); have d0 := Hcp.out _ hB5; have d1 := Hci.out _ hB5 x hxn)
          go_roundg (gk - 1)
          case measure => omega
          case rel => exact ⟨d ++ [x], _, by simp; omega, rfl, HR.out, by rw [List.length_append]; rw [show i :: (d ++ [x]) = (i :: d) ++ [x] from rfl, intsC_snoc]; exact hown5, hB5⟩

end Go.Proofs.Ytpipihllofpnaaa
