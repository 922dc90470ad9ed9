/- The document's own Sets (equateref02): New, Join, Class. -/
import Derived.Test.YtpipihllofpnaaaFindT
namespace Go.Proofs.Ytpipihllofpnaaa
open Go.RowKit

theorem los_g0 (n : Nat) : Uf.los n Uf.g0 = List.range n := by
  unfold Uf.los
  conv => rhs; rw [← List.map_id (List.range n)]
  rfl

theorem range_snoc (k : Nat) : intsC (List.range (k + 1)) = intsC (List.range k) ++ [.int .i64 (k : Int)] := by rw [List.range_succ, intsC_snoc]

theorem rNew_fin {w wr : World} {k : Nat} {v : Value} (hB : Below w.heap.size w wr) (ho : wr.ownsRow w.heap.size 3 1 v k (intsC (List.range k))) (hk : k ≤ 60) :
    RefS ((wr.alloc (.cells #[v] 40)).alloc (.cells #[.int .i64 (k : Int), .slice (some ⟨wr.heap.size, 0, none⟩) 1 1] 133)) w.heap.size (wr.heap.size + 1) k (.slice (some ⟨wr.heap.size, 0, none⟩) 1 1) (Uf.g0, []) ∧
      Below w.heap.size w ((wr.alloc (.cells #[v] 40)).alloc (.cells #[.int .i64 (k : Int), .slice (some ⟨wr.heap.size, 0, none⟩) 1 1] 133)) := by
  have hs := hB.size
  refine ⟨⟨?_, by omega, ⟨[v], rfl, ?_, ?_⟩, hk⟩, (hB.alloc hs _).alloc (by simp; omega) _⟩
  · have := box_row (wr.alloc (.cells #[v] 40)) (.int .i64 (k : Int)) (.slice (some ⟨wr.heap.size, 0, none⟩) 1 1) 133
    rw [World.size_alloc] at this
    exact this
  · exact (World.ownsRow_lit wr #[v] 1 hs (by unfold maxLen; omega) rfl).alloc _
  · intro j l hj
    match j, hj with
    | 0, hj =>
      simp only [Uf.logOf, List.getElem?_cons_zero, Option.some.injEq] at hj
      subst hj
      refine ⟨v, rfl, ?_⟩
      rw [los_g0, List.length_range]
      exact (ho.alloc _).alloc _
    | j + 1, hj => simp [Uf.logOf] at hj

set_option maxRecDepth 100000 in
set_option maxHeartbeats 1000000 in
theorem rNew_in (w : World) (n : Nat) (hn : n ≤ 60) :
    Calls Try.prog 28 #[.int .i64 n] w fun e w' => ∃ rp lv, e = .returned (.pointer (some ⟨rp, 0, none⟩)) ∧ RefS w' w.heap.size rp n lv (Uf.g0, []) ∧ Below w.heap.size w w' := by
  obtain ⟨i0, hi0, hz0, hz1, hz2⟩ := info_parts infoInt
  go_enter Try.func28, Try.ntmps28
  go_wp2_with fail
  go_loopw [3, 4] (fun v t W => ∃ k : Nat, k ≤ n ∧ t = .int .i64 k ∧ W.ownsRow w.heap.size 3 1 v k (intsC (List.range k)) ∧ Hid (Below w.heap.size w W)) (fun _ t _ => n - (intOf t).toNat)
  case atStart => exact ⟨0, Nat.zero_le _, rfl, World.ownsRow_nil _ _ _ _, Below.refl _ _⟩
  case round =>
    obtain ⟨k, hk, rfl, hown, hB⟩ := hrel
    by_cases hlt : k < n
    · have hl := hown.lt
      have HLT : Hid (∀ k, Value.ownBlock _ = some k → w.heap.size ≤ k) := fun k hk => (hl k hk).1
      clear hl
      go_wp2_with (at_builtin; refine wpList_append_own _ rfl _ _ 40 rfl w.heap.size 3 i0 _ 1 8 Try.underlying40 hi0 hz0 hz1 hz2 rfl (by decide) _ _ _ rfl (hown.alloc _) ⟨wr.heap.size, 0, none⟩ 1 1 [.int .i64 (k : Int)] rfl rfl (cell_one_new _ _ _) (by simp [Value.oneCell']) (by unfold maxLen; omega) (by omega) (by have := hB.out.size; simp; omega) ?_; intro v' w5 hown5 hgrow5 _; have hB5 : Hid (Below w.heap.size w w5) := (hB.out.alloc hB.out.size _).grown hgrow5 (by have := hB.out.size; simp; omega) (fun k hk => HLT.out k hk))
      go_roundw
      case rel => exact ⟨k + 1, by omega, by go_num, by rw [range_snoc]; exact hown5, hB5⟩
      case measure => simp [intOf]; omega
    · obtain rfl : k = n := by omega
      obtain ⟨av, lv2, cv, hvf⟩ : ∃ a l c, _ = Value.slice a l c := by
        rcases hown.2 with ⟨e, _⟩ | ⟨b, cap, cur, e, _⟩
        · exact ⟨_, _, _, e⟩
        · exact ⟨_, _, _, e⟩
      subst hvf
      have HO : Hid (wr.ownsRow w.heap.size 3 1 (.slice av lv2 cv) k (intsC (List.range k))) := hown
      clear hown
      have fin := rNew_fin (w := w) hB.out HO.out hn
      have HF : Hid (_ ∧ _) := fin
      clear fin HO
      go_wp2
      go_ret
      exact ⟨wr.heap.size + 1, .slice (some ⟨wr.heap.size, 0, none⟩) 1 1, rfl, HF.out.1, HF.out.2⟩

end Go.Proofs.Ytpipihllofpnaaa
