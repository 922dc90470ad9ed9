/- law04: WhyCloses' walk. -/
import Derived.Test.YtinphcnknionmaaG55
import Derived.Test.YtinphcnknionmaaSLwA
namespace Go.Proofs.Ytinphcnknionmaa
open Go.RowKit Go.Maps

set_option maxHeartbeats 4000000 in
set_option maxRecDepth 100000 in
theorem closes_in (w : World) (a1 a2 : Option Addr) (cp1 cp2 : Nat) (ss : List ByteArray) (ps : List (Int × Int)) (hT : Texts w a1 ss) (hm : ss.length ≤ maxLen) (hP : Prw w a2 ps) (hr : ps.length * 16 ≤ 140737488351232) (x y : Int) :
    Calls Try.prog 12 #[.slice a1 ss.length cp1, .slice a2 ps.length cp2, .int .i64 x, .int .i64 y] w fun e w' => e = .returned (.bool true) ∧ Below w.heap.size w w' := by
  have LD := load_in w a1 cp1 ss hT hm
  have hpb : ps.length ≤ 8796093022208 := by omega
  clear hr
  go_enter Try.func12, Try.ntmps12
  go_wp2_with (first | (go_at_call 37; refine LD.mono ?_; rintro e w1 ⟨p, ev, nb, fb, l, q, av, vs, rfl, D⟩; have N1 := kNew_in w1 w.heap.size p ev nb fb l D.b D.bd D.kl.len; obtain ⟨aa, ac, hav⟩ := D.r.ls.form; subst hav) | (go_at_call 38; refine N2.mono ?_; rintro e w3 ⟨d, rfl, D0, K3⟩) | (go_at_call 38; refine N1.mono ?_; rintro e w2 ⟨c, rfl, C0, K2⟩; have N2 := kNew_in w2 w.heap.size p ev nb fb l (D.b.kept0 K2) D.bd D.kl.len; clear N1))
  have CD0 : Cd w1 w3 l c d [] [] := ⟨C0.kept0 K3, D0.base K2.size, fun k hk hk2 => by have h1 := C0.all_lt hk; have h2 := D0.all_ge hk2; omega, (Kept.below (K2.trans K3) (Nat.le_refl _) (fun _ e => e.elim))⟩
  have HD : Hid (Duo w w1 p ev nb fb l q (.slice aa l.length ac) vs) := D
  have HP : Hid (∀ W, Kept0 w1 W → Prw W a2 ps) := fun W K => hP.kept0 ((below_kept0 D.bel).trans K)
  clear LD N2 C0 D0 K2 K3 D hT hm hP
  go_loopw [13] (fun t13 W => ∃ (k : Nat) (c' : Ks), k ≤ ps.length ∧ t13 = .int .i64 (k : Int) ∧ c'.pc = c.pc ∧ Cd w1 W l c' d (Wm.prs l.length ps (List.range k)) []) (fun t13 _ => ps.length - (intOf t13).toNat)
  case atStart => exact ⟨0, c, by omega, rfl, rfl, CD0⟩
  case round =>
    clear CD0
    obtain ⟨k, c', hk, rfl, hpc, CD⟩ := hrel
    by_cases hk2 : k < ps.length
    · have dk : decide ((k : Int) < (ps.length : Int)) = true := decide_eq_true (by omega)
      have hx : ps[k]? = some ps[k] := List.getElem?_eq_getElem hk2
      generalize hok : ps[k] = z at hx
      clear hok
      obtain ⟨b, off, rfl, hb, y1, y2⟩ := HP.out wr (below_kept0 CD.bel) k z hx
      have MG : ∀ m, Calls Try.prog 39 #[.pointer (some ⟨c.pc, 0, none⟩), .int .i64 z.1, .int .i64 z.2] (wr.drewN m) fun e W' => e = .returned (.int .i64 (mergeE l z.1 z.2)) ∧ ∃ c2 : Ks, c2.pc = c.pc ∧ Cd w1 W' l c2 d (Wm.prs l.length ps (List.range (k + 1))) [] := fun m => by
        have hpl := Wm.prs_len l.length ps (List.range k)
        rw [List.length_range] at hpl
        rw [← hpc, List.range_succ, ← prs_merge hx]
        exact ((CD.kept0 ((Kept.refl _ wr).drewN m)).merge z.1 z.2 (by omega)).mono fun _ _ ⟨h1, c2, h2, h3, _⟩ => ⟨h1, c2, h2, h3⟩
      clear CD hx hpc HD
      generalize mergeE l z.1 z.2 = me at *
      generalize z.1 = za at *
      generalize z.2 = zb at *
      go_wp2_with fail
      go_region_with (go_at_call 39; refine (MG 1).mono ?_; rintro e w5 ⟨rfl, c2, hc2, CD2⟩)
      all_goals
        go_wp2_with fail
        exact ⟨⟨k + 1, c2, hk2, by simp, hc2, CD2⟩, by simp [intOf]; omega⟩
    · have dk : decide ((k : Int) < (ps.length : Int)) = false := decide_eq_false (by omega)
      obtain rfl : k = ps.length := by omega
      have KR : Kept0 w1 wr := below_kept0 CD.bel
      have GV : Hid (∀ W, Kept0 wr W → Calls Try.prog 50 #[.slice a2 ps.length cp2] W fun e w' => ∃ b c, e = .returned (.slice b ps.length c) ∧ Prw w' b ps ∧ Kept0 W w') := fun W K =>
        (given_in W a2 cp2 ps (HP.out W (KR.trans K)) (by omega)).mono fun _ _ ⟨b, c, h1, _, h2, h3⟩ => ⟨b, c, h1, h2, h3⟩
      have WY : Hid (∀ W b c, Kept0 wr W → Prw W b ps → Calls Try.prog 52 #[.pointer (some ⟨p, 0, none⟩), .slice b ps.length c, .int .i64 x, .int .i64 y] W fun e w' => ∃ (ns : List Nat) (va : Option Addr) (vc : Nat), e = .returned (.tuple #[.slice va ns.length vc, .bool (cgB l (Wm.prs l.length ps (List.range ps.length)) x y)]) ∧
          w'.ownsRow W.heap.size 3 1 (.slice va ns.length vc) ns.length (natC ns) ∧ Kept0 W w' ∧ (∀ n, n ∈ ns → n < ps.length) ∧ (∀ i n, ns[i]? = some n → cgB l (Wm.prs l.length ps (ns.take i)) x y = false) ∧ cgB l (Wm.prs l.length ps ns) x y = cgB l (Wm.prs l.length ps (List.range ps.length)) x y ∧ ns.length ≤ ps.length) := fun W b c K hPb =>
        (why_in W w.heap.size p ev nb fb l (HD.out.b.kept0 (KR.trans K)) HD.out.bd HD.out.kl.len b c ps hPb (by omega) x y).mono fun _ _ h => h.told
      have FL : Hid (∀ W b c, Kept0 wr W → Prw W b ps → Calls Try.prog 51 #[.pointer (some ⟨p, 0, none⟩), .slice b ps.length c, .int .i64 x, .int .i64 y] W fun e w' => e = .returned (.bool (cgB l (Wm.prs l.length ps (List.range ps.length)) x y)) ∧ Kept0 W w') := fun W b c K hPb =>
        follows_in W w.heap.size p ev nb fb l (HD.out.b.kept0 (KR.trans K)) HD.out.bd HD.out.kl.len b c ps hPb (by omega) x y
      have SC : Hid (∀ W, Kept0 wr W → Calls Try.prog 47 #[.pointer (some ⟨c.pc, 0, none⟩), .int .i64 x, .int .i64 y] W fun e w' => e = .returned (.bool (cgB l (Wm.prs l.length ps (List.range ps.length)) x y)) ∧ Kept0 W w') := fun W K => by
        rw [← hpc]
        exact qSame_k W w1.heap.size l c' _ (CD.cl.kept0 K) x y
      have DL : Hid (Cl wr w1.heap.size l d (Wm.prs l.length ps []) ∧ Kept0 w1 wr) := ⟨CD.dl, KR⟩
      clear CD hpc KR
      have GV1 := GV.out wr (Kept.refl _ _)
      obtain ⟨B, hB⟩ : ∃ B, B = cgB l (Wm.prs l.length ps (List.range ps.length)) x y := ⟨_, rfl⟩
      rw [← hB] at WY FL SC
      clear hB
      go_wp2_with (first | (go_at_call 50; refine GV2.mono ?_; rintro e w8 ⟨b8, c8, rfl, P8, K8⟩; have KK8 := KK7.trans K8; have FL8 := FL.out w8 b8 c8 KK8 P8; clear GV2) | (go_at_call 50; refine GV1.mono ?_; rintro e w5 ⟨b5, c5, rfl, P5, K5⟩; have WY5 := WY.out w5 b5 c5 K5 P5; clear GV1) | (go_at_call 52; refine WY5.mono ?_; rintro e w6 ⟨ns, va, vc, rfl, R6, K6, N6, F6, G6, L6⟩; have KK6 := K5.trans K6; have SC6 := SC.out w6 KK6; replace R6 : Hid _ := R6; replace N6 : Hid _ := N6; replace F6 : Hid _ := F6; replace G6 : Hid _ := G6) | (go_at_call 47; refine SC6.mono ?_; rintro e w7 ⟨rfl, K7⟩; have KK7 := KK6.trans K7; have GV2 := GV.out w7 KK7; clear SC6) | (go_at_call 51; refine FL8.mono ?_; rintro e w9 ⟨rfl, K9⟩))
      have W0 : Wd w1 w9 l d (Wm.prs l.length ps (ns.take 0)) (.slice va ns.length vc) ns := by
        have R6' : w6.ownsRow w5.heap.size 3 1 (.slice va ns.length vc) ns.length (natC ns) := R6.out
        have KA := KK8.trans K9
        have K69 := (K7.trans K8).trans K9
        refine ⟨DL.out.1.kept0 KA, ownsRow_block (row_baseK R6' (DL.out.2.trans K5).size) (fun j hj => K69.block j (R6'.lt j hj).2 (fun e => e)), fun j hj hA => ?_, DL.out.2.trans KA⟩
        have h1 := (R6'.lt j hj).1
        have h2 := DL.out.1.all_lt hA
        have h3 := K5.size
        omega
      clear K5 K6 K7 K8 K9 KK6 KK7 KK8 P5 P8 WY5 FL8 GV WY FL SC DL R6
      go_loopw [16] (fun t16 W => ∃ (i : Nat) (d' : Ks), i ≤ ns.length ∧ t16 = .int .i64 (i : Int) ∧ d'.pc = d.pc ∧ Wd w1 W l d' (Wm.prs l.length ps (ns.take i)) (.slice va ns.length vc) ns) (fun t16 _ => ns.length - (intOf t16).toNat)
      case atStart => exact ⟨0, d, by omega, rfl, rfl, W0⟩
      case round =>
        clear W0
        obtain ⟨i, d', hi, rfl, hpd, WD⟩ := hrel
        have SD : Calls Try.prog 47 #[.pointer (some ⟨d.pc, 0, none⟩), .int .i64 x, .int .i64 y] wr fun e w' => e = .returned (.bool (cgB l (Wm.prs l.length ps (ns.take i)) x y)) ∧ Kept0 wr w' := by
          rw [← hpd]
          exact qSame_k wr w1.heap.size l d' _ WD.dl x y
        by_cases hi2 : i < ns.length
        · have di : decide ((i : Int) < (ns.length : Int)) = true := decide_eq_true (by omega)
          have hn : ns[i]? = some ns[i] := List.getElem?_eq_getElem hi2
          generalize hni : ns[i] = n at hn
          clear hni
          rw [F6.out i n hn] at SD
          have hnl : n < ps.length := N6.out n (List.mem_of_getElem? hn)
          have hz : ps[n]? = some ps[n] := List.getElem?_eq_getElem hnl
          generalize hzz : ps[n] = z at hz
          clear hzz
          obtain ⟨g, rfl⟩ : ∃ g, va = some ⟨g, 0, none⟩ := by
            rcases WD.row.2 with ⟨_, e2⟩ | ⟨g, c9, cur, e', _⟩
            · omega
            · simp only [Value.slice.injEq] at e'
              exact ⟨g, e'.1⟩
          have CI : Hid (∀ W, Kept0 wr W → W.cell? ⟨g, i, none⟩ = some (.int .i64 (n : Int))) := fun W K => by
            have hcell := (WD.kept0 K).row.cellAt i (by omega)
            rw [natC_get, hn] at hcell
            exact hcell
          obtain ⟨b, off, rfl, hbl, _, _⟩ := HP.out wr WD.bel n z hz
          have PC : Hid (∀ W, Kept0 wr W → W.cell? ⟨b, off + n * 2, none⟩ = some (.int .i64 z.1) ∧ W.cell? ⟨b, off + n * 2 + 1, none⟩ = some (.int .i64 z.2)) := fun W K => by
            obtain ⟨b', off', he, _, y1, y2⟩ := HP.out W (WD.kept0 K).bel n z hz
            cases he
            exact ⟨y1, y2⟩
          have MGX : Hid (∀ W m, Kept0 wr W → Calls Try.prog 39 #[.pointer (some ⟨d.pc, 0, none⟩), .int .i64 z.1, .int .i64 z.2] (W.drewN m) fun e W' => (∃ x, e = .returned (.int .i64 x)) ∧ ∃ d2 : Ks, d2.pc = d.pc ∧ Wd w1 W' l d2 (Wm.prs l.length ps (ns.take (i + 1))) (.slice (some ⟨g, 0, none⟩) ns.length vc) ns) := fun W m K => by
            have hlt : (ns.take i).length ≤ i := by rw [List.length_take]; omega
            rw [← hpd, List.take_add_one, hn, Option.toList_some]
            exact ((WD.kept0 K).kept0 ((Kept.refl _ W).drewN m)).tell hz (by omega)
          have dn1 : decide ((n : Int) < 0) = false := decide_eq_false (by omega)
          have dn2 : decide ((ps.length : Int) ≤ (n : Int)) = false := decide_eq_false (by omega)
          have dn3 : decide (ps.length ≤ n) = false := decide_eq_false (by omega)
          have hil : Hid (i < ns.length) := hi2
          have ci := CI.out wr (Kept.refl _ wr)
          clear WD hn hz hpd
          generalize z.1 = za at *
          generalize z.2 = zb at *
          go_wp2_with (go_at_call 47; refine SD.mono ?_; rintro e w10 ⟨rfl, K10⟩; have ci2 := CI.out w10 K10; obtain ⟨y1, y2⟩ := PC.out w10 K10; have MG := fun m => MGX.out w10 m K10)
          clear SD ci
          go_region_with (go_at_call 39; refine (MG 1).mono ?_; rintro e w11 ⟨⟨x11, rfl⟩, d2, hd2, WD2⟩)
          all_goals
            clear ci2 y1 y2 MG
            go_wp2_with fail
            exact ⟨⟨i + 1, d2, hil.out, by simp, hd2, WD2⟩, by simp [intOf]; omega⟩
        · have di : decide ((i : Int) < (ns.length : Int)) = false := decide_eq_false (by omega)
          obtain rfl : i = ns.length := by omega
          rw [List.take_length, G6.out] at SD
          have SZ : Hid (∀ W, Kept0 wr W → Calls Try.prog 21 #[.pointer (some ⟨p, 0, none⟩)] W fun e w' => e = .returned (.int .i64 (l.length : Int)) ∧ W = w') := fun W K => size_in W w.heap.size p ev nb fb l (HD.out.b.kept0 (WD.bel.trans K))
          have BEL : Hid (∀ W, Kept0 wr W → Below w.heap.size w W) := fun W K => HD.out.bel.trans (Kept.below (WD.bel.trans K) HD.out.bel.size (fun _ e => e.elim))
          have hl := HD.out.kl.len
          clear WD hpd
          go_wp2_with (first | (go_at_call 47; refine SD.mono ?_; rintro e w10 ⟨rfl, K10⟩; have SZ1 := SZ.out w10 K10; have AL := alive4_any w10) | (go_at_call 21; refine SZ1.mono ?_; rintro e w11 ⟨rfl, rfl⟩) | (go_at_call 56; refine AL.mono ?_; rintro e w12 ⟨rfl, B12⟩))
          go_ret
          have b10 := BEL.out w10 K10
          exact ⟨rfl, b10.trans (B12.mono b10.size)⟩

end Go.Proofs.Ytinphcnknionmaa
