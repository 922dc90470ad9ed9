/- Package close: unite. -/
import Derived.Test.YtpipihllofpnaaaCloG
import Derived.Test.YtpipihllofpnaaaRefE
import Derived.WalkSmall
namespace Go.Proofs.Ytpipihllofpnaaa
open Go.RowKit Go.Maps

theorem infoPair : (Try.prog.info? 86).map (fun i => (i.zero, i.size, i.bytes)) = some (some (.agg #[.int .i64 0, .int .i64 0]), 2, 16) := by kernel_rfl
theorem joinC_len (js : List (Nat × Nat)) : (joinC js).length = js.length * 2 := by
  induction js with
  | nil => rfl
  | cons x js ih => simp [joinC] at ih ⊢; omega
theorem joinC_app (a b : List (Nat × Nat)) : joinC (a ++ b) = joinC a ++ joinC b := by simp [joinC]

/-- What is to do, in memory. -/
structure Td (W : World) (B : Nat) (z : Zs) (v : Value) (todo : List (Nat × Nat)) : Prop where
  row : W.ownsRow B 86 2 v todo.length (joinC todo)
  far : ∀ k, v.ownBlock = some k → ¬ z.All k

theorem Td.went {l : List Tm} {W W' : World} {B : Nat} {z z' : Zs} {v : Value} {todo : List (Nat × Nat)} (h : Td W B z v todo) (g : Went l W W' z z') : Td W' B z' v todo := by
  refine ⟨ownsRow_block h.row (fun k hk => g.kept.block k (h.row.lt k hk).2 (fun e => h.far k hk (.inl e))), fun k hk hA => ?_⟩
  rcases g.grows.all hA with e | e
  · exact h.far k hk e
  · have := (h.row.lt k hk).2; omega
theorem Td.kept0 {W W' : World} {B : Nat} {z : Zs} {v : Value} {todo : List (Nat × Nat)} (h : Td W B z v todo) (K : Kept0 W W') : Td W' B z v todo :=
  ⟨h.row.kept K.grownBy (Decidable.em _), h.far⟩

/-- The last one of what is to do. -/
theorem Td.last {W : World} {B : Nat} {z : Zs} {v : Value} {rest : List (Nat × Nat)} {p : Nat × Nat} (h : Td W B z v (rest ++ [p])) :
    ∃ g cap, v = .slice (some ⟨g, 0, none⟩) (rest.length + 1) cap ∧ rest.length + 1 ≤ cap ∧ W.cell? ⟨g, rest.length * 2, none⟩ = some (.int .i64 (p.1 : Int)) ∧ W.cell? ⟨g, rest.length * 2 + 1, none⟩ = some (.int .i64 (p.2 : Int)) ∧ Td W B z (.slice (some ⟨g, 0, none⟩) rest.length cap) rest := by
  have hr := h.row
  rw [List.length_append, List.length_singleton, joinC_app] at hr
  obtain ⟨g, cap, hv⟩ := ownsRow_succ hr
  subst hv
  have hcap : rest.length + 1 ≤ cap := by
    rcases hr.2 with ⟨e, _⟩ | ⟨g', cap', cur, e, _, _, hnc, _⟩
    · cases e
    · cases e; exact hnc
  have c0 := hr.cellAt (rest.length * 2) (by omega)
  have c1 := hr.cellAt (rest.length * 2 + 1) (by omega)
  rw [List.getElem?_append_right (by rw [joinC_len]; omega), joinC_len] at c0 c1
  refine ⟨g, cap, rfl, hcap, by simpa [joinC] using c0, by simpa [joinC] using c1, ⟨ownsRow_pop (joinC_len rest) hr, fun k hk => h.far k (by simpa [Value.ownBlock] using hk)⟩⟩

theorem Chain.st {l : List Tm} {a b : Zs} (h : Chain l a b) : ∀ x ∈ a.st, x ∈ b.st := by
  induction h with
  | refl => exact fun x hx => hx
  | like n s bc bx v _ _ _ ih => exact fun x hx => List.mem_append_left _ (ih x hx)
  | join low high bc bm bo bl jv st2 v bv _ _ _ ih => exact fun x hx => List.mem_append_left _ (List.mem_append_left _ (ih x hx))
theorem Went.keep {l : List Tm} {w W W' : World} {z z' : Zs} (h : Went l w W z z') {S : Nat → Prop} (K : Kept S W W') (hS : ∀ k, S k → w.heap.size ≤ k) : Went l w W' z z' :=
  ⟨h.kept.into K (fun k hk => .inr (hS k hk)), h.grows, h.chain⟩

/-- One more is to do. -/
theorem Td.push {w W W' : World} {base : Nat} {l : List Tm} {z z' : Zs} {P td : List (Nat × Nat)} {pend : List Nat} {v v' : Value} {n m : Nat} (h : Td W w.heap.size z' v td) (U : Un W base l z' P (td ++ [(n, m)]) pend) (G : Went l w W z z') (O : Obj)
    (hown : W'.ownsRow w.heap.size 86 2 v' (td.length + 1) (joinC td ++ [.int .i64 (n : Int), .int .i64 (m : Int)])) (hgrow : (W.alloc O).grownBy W' v.ownBlock) (hloc : v'.ownBlock = v.ownBlock ∨ ∀ k, v'.ownBlock = some k → (W.alloc O).heap.size ≤ k) :
    Td W' w.heap.size z' v' (td ++ [(n, m)]) ∧ Un W' base l z' P (td ++ [(n, m)]) pend ∧ Went l w W' z z' := by
  have K : Kept (fun k => v.ownBlock = some k) W W' := Kept.grown ((Kept.refl _ W).alloc O) hgrow (fun _ e => e)
  refine ⟨⟨?_, fun k hk hA => ?_⟩, U.keep K (fun k hA e => h.far k e hA), G.keep K (fun k hk => (h.row.lt k hk).1)⟩
  · rw [joinC_snoc, List.length_append]
    exact hown
  · rcases hloc with e | e
    · exact h.far k (e ▸ hk) hA
    · have h1 := e k hk
      have h2 := U.cz.all_lt hA
      simp at h1
      omega

set_option maxHeartbeats 4000000 in
set_option maxRecDepth 100000 in
theorem unite_in (w : World) (base : Nat) (l : List Tm) (z : Zs) (P : List (Nat × Nat)) (a b : Nat) (h : Un w base l z P [(a, b)] []) :
    Calls Try.prog 90 #[.pointer (some ⟨z.pk, 0, none⟩), .agg #[.int .i64 (a : Int), .int .i64 (b : Int)]] w fun e w' => e = .returned (.tuple #[]) ∧ ∃ z' : Zs, Un w' base l z' P [] [] ∧ Went l w w' z z' := by
  have K1 : Kept0 w ((w.alloc (.cells #[.int .i64 (a : Int), .int .i64 (b : Int)] 86)).alloc (.cells #[.int .i64 (a : Int), .int .i64 (b : Int)] 86)) := Kept.alloc (Kept.alloc (Kept.refl _ w) _) _
  have hs1 : (w.alloc (.cells #[.int .i64 (a : Int), .int .i64 (b : Int)] 86)).heap.size = w.heap.size + 1 := by simp
  have T1 : Td ((w.alloc (.cells #[.int .i64 (a : Int), .int .i64 (b : Int)] 86)).alloc (.cells #[.int .i64 (a : Int), .int .i64 (b : Int)] 86)) w.heap.size z (.slice (some ⟨w.heap.size + 1, 0, none⟩) 1 1) [(a, b)] := by
    refine ⟨?_, fun k hk hA => ?_⟩
    · rw [← hs1]
      exact World.ownsRow_lit _ #[.int .i64 (a : Int), .int .i64 (b : Int)] 1 (by rw [hs1]; omega) (by decide) rfl
    · simp [Value.ownBlock] at hk
      have := h.cz.all_lt hA
      omega
  have hlen := h.cz.len
  go_enter Try.func90, Try.ntmps90
  go_wp2_with fail
  generalize (w.alloc (.cells #[.int .i64 (a : Int), .int .i64 (b : Int)] 86)).alloc (.cells #[.int .i64 (a : Int), .int .i64 (b : Int)] 86) = w1 at *
  have U1 := h.kept0 K1
  have W1 : Went l w w1 z z := Went.refl l z K1
  go_loopg [4] ((l.length - z.t.length) * (4 * l.length + 1) + 1) (fun k v W => ∃ (z' : Zs) (todo : List (Nat × Nat)), Hid (k = (l.length - z'.t.length) * (4 * l.length + 1) + todo.length) ∧ Td W w.heap.size z' v todo ∧ Un W base l z' P todo [] ∧ Went l w W z z')
  case atStart => exact ⟨z, [(a, b)], rfl, T1, U1, W1⟩
  case round =>
    clear T1 U1 W1 K1
    obtain ⟨z', todo, hk, T, U, G⟩ := hrel
    rcases List.eq_nil_or_concat todo with rfl | ⟨rest, p, rfl⟩
    · obtain ⟨va, vc, hv⟩ := row_form' T.row
      subst hv
      go_wp2_with fail
      go_end0
      exact ⟨rfl, z', U, G⟩
    · rw [List.concat_eq_append] at hk T U
      obtain ⟨g, cap, hv, hcap, c0, c1, T2⟩ := T.last
      subst hv
      have hpk : z'.pk = z.pk := G.grows.pk
      have hin := U.inv.inr p (by simp)
      have htd := U.td
      obtain ⟨b1, b2⟩ := U.bound
      simp only [List.length_append, List.length_cons, List.length_nil] at htd
      have dk : decide ((0 : Int) < (rest.length : Int) + 1) = true := decide_eq_true (by omega)
      have K2 : Kept0 wr (wr.alloc (.cells #[.int .i64 (p.1 : Int), .int .i64 (p.2 : Int)] 86)) := Kept.alloc (Kept.refl _ wr) _
      have R2 := made_row wr #[.int .i64 (p.1 : Int), .int .i64 (p.2 : Int)] 86
      go_wp2_with fail
      clear c0 c1 T
      have T3 := T2.kept0 K2
      have U3 := U.kept0 K2
      have G3 := G.trans (Went.refl l z' K2)
      clear T2 U G
      generalize wr.alloc (.cells #[.int .i64 (p.1 : Int), .int .i64 (p.2 : Int)] 86) = w3 at *
      generalize wr.heap.size = b6 at *
      have x0 : w3.cell? ⟨b6, 0, none⟩ = some (.int .i64 (p.1 : Int)) := R2.cell (i := 0) (by simp)
      have x1 : w3.cell? ⟨b6, 1, none⟩ = some (.int .i64 (p.2 : Int)) := R2.cell (i := 1) (by simp)
      have k0 := U3.cz.k0
      rw [hpk] at k0
      have LX := fun (m : Nat) (x : Nat) (hx : x < l.length) => (U3.cz.drewN m).least hx
      go_quiet ((go_at_call 27; exact Calls.quiet_of (LX _ _ (by first | exact hin.1 | exact hin.2))))
      have K4 : Kept0 w3 (w3.drewN nq) := (Kept.refl _ w3).drewN nq
      have T4 := T3.kept0 K4
      have U4 := U3.kept0 K4
      have G4 := G3.trans (Went.refl l z' K4)
      clear T3 U3 G3 LX x0 x1 k0 R2 K2 K4
      generalize w3.drewN nq = w4 at *
      by_cases hs : z'.g.lo p.1 = z'.g.lo p.2
      · have ds : ((z'.g.lo p.1 : Int) == (z'.g.lo p.2 : Int)) = true := by rw [hs]; simp
        have U5 : Un w4 base l z' P rest [] := by
          have hI : Cc.Inv l P z'.g.lo z'.us z'.kn (rest ++ [(p.1, p.2)]) [] := U4.inv
          exact ⟨U4.cz, hI.drop hs, U4.ms, U4.bs, by simp only [List.length_nil]; omega, U4.low⟩
        clear U4 hs
        go_wp2_with fail
        go_roundg ((l.length - z'.t.length) * (4 * l.length + 1) + rest.length)
        case measure => rw [hk.out]; simp
        case rel => exact ⟨z', rest, rfl, T4, U5, G4⟩
      · have ds : ((z'.g.lo p.1 : Int) == (z'.g.lo p.2 : Int)) = false := beq_eq_false_iff_ne.2 (by omega)
        by_cases hgt : z'.g.lo p.2 < z'.g.lo p.1
        · have dg : decide ((z'.g.lo p.2 : Int) < (z'.g.lo p.1 : Int)) = true := decide_eq_true (by omega)
          have JN := join_un w4 base l z' P rest p U4 p.2 p.1 _ _ (.inr rfl) rfl rfl hgt
          have hlh : z'.g.lo p.1 < l.length := by have := U4.inv.le p.1 hin.1; omega
          rw [hpk] at JN
          go_wp2_with (go_at_call 122; refine JN.mono ?_; rintro e w5 ⟨rfl, z5, U5, G5, ht5, huv5, hus5⟩; have k25 := U5.cz.k2; rw [G5.grows.pk, hpk] at k25; have uh5 := U5.cz.u hlh; obtain ⟨ua, uc, hua⟩ := UseIs.form (U5.cz.usesAt _ hlh); rw [hua] at uh5)
          have X5 : UseIs z5.st (.slice ua (z'.us (z'.g.lo p.1)).length uc) (z'.us (z'.g.lo p.1)) := by
            have := U5.cz.usesAt _ hlh
            rw [hua, hus5] at this
            exact this
          have T5 := T4.went G5
          have G6 := G4.trans G5
          have hmeas : Hid ((l.length - z5.t.length) * (4 * l.length + 1) + (4 * l.length + 1) = (l.length - z'.t.length) * (4 * l.length + 1)) := by
            have h1 := U5.tle
            have h2 : l.length - z'.t.length = (l.length - z5.t.length) + 1 := by omega
            show _ = _
            rw [h2, Nat.add_mul, Nat.one_mul]
          have hxl : (z'.us (z'.g.lo p.1)).length ≤ 4 * l.length := by
            have := U4.inv.ulen U4.cz.bd hlh (U4.inv.idem _ hin.1)
            exact this
          have hpk5 : z5.pk = z.pk := G5.grows.pk.trans hpk
          have htd5 := U5.td
          have hHk : Hid (_ = _) := hk.out
          clear JN k25 uh5 U4 T4 G4 G5 ds dg hs hgt hk hua huv5 hus5 htd dk hin hcap
          generalize z'.us (z'.g.lo p.1) = xs at *
          go_loopw [4, 60] (fun v t60 W => ∃ (j : Nat) (z6 : Zs) (td : List (Nat × Nat)), j ≤ xs.length ∧ t60 = .int .i64 (j : Int) ∧ Td W w.heap.size z6 v td ∧ Un W base l z6 P td (xs.drop j) ∧ Went l w W z z6 ∧ Hid (z6.t.length = z5.t.length) ∧ Hid (td.length = rest.length + j) ∧ UseIs z6.st (.slice ua xs.length uc) xs) (fun _ t60 _ => xs.length - (intOf t60).toNat)
          case atStart => exact ⟨0, z5, rest, by omega, rfl, T5, by simpa using U5, G6, rfl, rfl, X5⟩
          case round =>
            clear T5 U5 G6 X5
            obtain ⟨j, z6, td, hj, rfl, T6, U6, G6, ht6, hl6, X6⟩ := hrel
            obtain ⟨va, vc, hv⟩ := row_form' T6.row
            subst hv
            by_cases hj2 : j < xs.length
            · have dj : decide ((j : Int) < (xs.length : Int)) = true := decide_eq_true (by omega)
              have hxj : xs[j]? = some xs[j] := List.getElem?_eq_getElem hj2
              obtain ⟨bb, off, cap6, hv6, _, hc6⟩ := X6.cell U6.cz.sat hxj
              injection hv6 with e1 _ e3
              subst e1 e3
              have cj := hc6 j _ hxj
              clear hc6
              have hpk6 : z6.pk = z.pk := G6.grows.pk
              rw [List.drop_eq_getElem_cons hj2] at U6
              have LK := like_un wr base l z6 P td xs[j] (xs.drop (j + 1)) U6
              rw [hpk6] at LK
              have b6' := U6.bound
              have htd6 := U6.td
              obtain ⟨i0, hi0, hz0, hz1, hz2⟩ := info_parts infoPair
              generalize hxn : xs[j] = xn at *
              go_wp2_with (first | (go_at_call 123; refine LK.mono ?_; rintro e w7 ⟨m7, z7, rfl, U7, G7, ht7, huv7, hus7⟩; have T7 := T6.went G7; have hB7 : w.heap.size ≤ w7.heap.size := Nat.le_trans G6.kept.size G7.kept.size) | (at_builtin; refine wpList_append_here rfl _ _ 77 rfl w.heap.size 86 i0 _ 2 16 Try.underlying77 hi0 hz0 hz1 hz2 rfl (by decide) _ td.length (joinC td) rfl (T7.row.alloc _) ⟨w7.heap.size, 0, none⟩ 1 1 [.int .i64 (xn : Int), .int .i64 (m7 : Int)] rfl rfl (cell_two_news w7 0 _ _ _) (by simp [Value.oneCell']) (by unfold maxLen; omega) (by omega) (by simp; omega) ?_; intro v8 w8 hown8 hgrow8 hloc8; obtain ⟨ga, gc, hg8⟩ := row_form' hown8; subst hg8))
              obtain ⟨T8, U8, G8⟩ := T7.push U7 (G6.trans G7) _ hown8 hgrow8 hloc8
              refine ⟨⟨j + 1, z7, td ++ [(xn, m7)], by omega, by simp, T8, U8, G8, ?_, ?_, X6.mono G7.chain.st⟩, by simp [intOf]; omega⟩
              · show z7.t.length = z5.t.length
                rw [ht7]; exact ht6.out
              · show (td ++ [(xn, m7)]).length = rest.length + (j + 1)
                have := hl6.out
                simp; omega
            · have dj : decide ((j : Int) < (xs.length : Int)) = false := decide_eq_false (by omega)
              obtain rfl : j = xs.length := by omega
              rw [List.drop_length] at U6
              go_wp2_with fail
              go_roundg ((l.length - z6.t.length) * (4 * l.length + 1) + td.length)
              case measure =>
                have h1 := hHk.out
                have h2 := hmeas.out
                have h3 := hl6.out
                have h4 := ht6.out
                rw [h1, h4, h3, ← h2]
                simp
                omega
              case rel => exact ⟨z6, td, rfl, T6, U6, G6⟩
        · have dg : decide ((z'.g.lo p.2 : Int) < (z'.g.lo p.1 : Int)) = false := decide_eq_false (by omega)
          have JN := join_un w4 base l z' P rest p U4 p.1 p.2 _ _ (.inl rfl) rfl rfl (by omega)
          have hlh : z'.g.lo p.2 < l.length := by have := U4.inv.le p.2 hin.2; omega
          rw [hpk] at JN
          go_wp2_with (go_at_call 122; refine JN.mono ?_; rintro e w5 ⟨rfl, z5, U5, G5, ht5, huv5, hus5⟩; have k25 := U5.cz.k2; rw [G5.grows.pk, hpk] at k25; have uh5 := U5.cz.u hlh; obtain ⟨ua, uc, hua⟩ := UseIs.form (U5.cz.usesAt _ hlh); rw [hua] at uh5)
          have X5 : UseIs z5.st (.slice ua (z'.us (z'.g.lo p.2)).length uc) (z'.us (z'.g.lo p.2)) := by
            have := U5.cz.usesAt _ hlh
            rw [hua, hus5] at this
            exact this
          have T5 := T4.went G5
          have G6 := G4.trans G5
          have hmeas : Hid ((l.length - z5.t.length) * (4 * l.length + 1) + (4 * l.length + 1) = (l.length - z'.t.length) * (4 * l.length + 1)) := by
            have h1 := U5.tle
            have h2 : l.length - z'.t.length = (l.length - z5.t.length) + 1 := by omega
            show _ = _
            rw [h2, Nat.add_mul, Nat.one_mul]
          have hxl : (z'.us (z'.g.lo p.2)).length ≤ 4 * l.length := by
            have := U4.inv.ulen U4.cz.bd hlh (U4.inv.idem _ hin.2)
            exact this
          have hpk5 : z5.pk = z.pk := G5.grows.pk.trans hpk
          have htd5 := U5.td
          have hHk : Hid (_ = _) := hk.out
          clear JN k25 uh5 U4 T4 G4 G5 ds dg hs hgt hk hua huv5 hus5 htd dk hin hcap
          generalize z'.us (z'.g.lo p.2) = xs at *
          go_loopw [4, 60] (fun v t60 W => ∃ (j : Nat) (z6 : Zs) (td : List (Nat × Nat)), j ≤ xs.length ∧ t60 = .int .i64 (j : Int) ∧ Td W w.heap.size z6 v td ∧ Un W base l z6 P td (xs.drop j) ∧ Went l w W z z6 ∧ Hid (z6.t.length = z5.t.length) ∧ Hid (td.length = rest.length + j) ∧ UseIs z6.st (.slice ua xs.length uc) xs) (fun _ t60 _ => xs.length - (intOf t60).toNat)
          case atStart => exact ⟨0, z5, rest, by omega, rfl, T5, by simpa using U5, G6, rfl, rfl, X5⟩
          case round =>
            clear T5 U5 G6 X5
            obtain ⟨j, z6, td, hj, rfl, T6, U6, G6, ht6, hl6, X6⟩ := hrel
            obtain ⟨va, vc, hv⟩ := row_form' T6.row
            subst hv
            by_cases hj2 : j < xs.length
            · have dj : decide ((j : Int) < (xs.length : Int)) = true := decide_eq_true (by omega)
              have hxj : xs[j]? = some xs[j] := List.getElem?_eq_getElem hj2
              obtain ⟨bb, off, cap6, hv6, _, hc6⟩ := X6.cell U6.cz.sat hxj
              injection hv6 with e1 _ e3
              subst e1 e3
              have cj := hc6 j _ hxj
              clear hc6
              have hpk6 : z6.pk = z.pk := G6.grows.pk
              rw [List.drop_eq_getElem_cons hj2] at U6
              have LK := like_un wr base l z6 P td xs[j] (xs.drop (j + 1)) U6
              rw [hpk6] at LK
              have b6' := U6.bound
              have htd6 := U6.td
              obtain ⟨i0, hi0, hz0, hz1, hz2⟩ := info_parts infoPair
              generalize hxn : xs[j] = xn at *
              go_wp2_with (first | (go_at_call 123; refine LK.mono ?_; rintro e w7 ⟨m7, z7, rfl, U7, G7, ht7, huv7, hus7⟩; have T7 := T6.went G7; have hB7 : w.heap.size ≤ w7.heap.size := Nat.le_trans G6.kept.size G7.kept.size) | (at_builtin; refine wpList_append_here rfl _ _ 77 rfl w.heap.size 86 i0 _ 2 16 Try.underlying77 hi0 hz0 hz1 hz2 rfl (by decide) _ td.length (joinC td) rfl (T7.row.alloc _) ⟨w7.heap.size, 0, none⟩ 1 1 [.int .i64 (xn : Int), .int .i64 (m7 : Int)] rfl rfl (cell_two_news w7 0 _ _ _) (by simp [Value.oneCell']) (by unfold maxLen; omega) (by omega) (by simp; omega) ?_; intro v8 w8 hown8 hgrow8 hloc8; obtain ⟨ga, gc, hg8⟩ := row_form' hown8; subst hg8))
              obtain ⟨T8, U8, G8⟩ := T7.push U7 (G6.trans G7) _ hown8 hgrow8 hloc8
              refine ⟨⟨j + 1, z7, td ++ [(xn, m7)], by omega, by simp, T8, U8, G8, ?_, ?_, X6.mono G7.chain.st⟩, by simp [intOf]; omega⟩
              · show z7.t.length = z5.t.length
                rw [ht7]; exact ht6.out
              · show (td ++ [(xn, m7)]).length = rest.length + (j + 1)
                have := hl6.out
                simp; omega
            · have dj : decide ((j : Int) < (xs.length : Int)) = false := decide_eq_false (by omega)
              obtain rfl : j = xs.length := by omega
              rw [List.drop_length] at U6
              go_wp2_with fail
              go_roundg ((l.length - z6.t.length) * (4 * l.length + 1) + td.length)
              case measure =>
                have h1 := hHk.out
                have h2 := hmeas.out
                have h3 := hl6.out
                have h4 := ht6.out
                rw [h1, h4, h3, ← h2]
                simp
                omega
              case rel => exact ⟨z6, td, rfl, T6, U6, G6⟩
