/- Layer 17: the example, places, what may be. Conditions: none. -/
import Derived.Test.YtnkleniifdkpmaaLP
import Derived.Test.YtnkleniifdkpmaaA2
namespace Go.Proofs.Ytnkleniifdkpmaa
set_option linter.unusedVariables false
set_option linter.unusedSimpArgs false
open Go Go.RowKit
abbrev Lk := Int × Int × Int × Int × Int × Int
abbrev Tp := Int × List Lk × List (Int × Int)
/-! ### The chapter's example -/
abbrev t0 : Tp := (2, [(0, 0, 1, 1, 1, 4)], [(0, 2)])
theorem t0_peer : topo_Peer t0 0 0 = some (1, 1, 0, true) := by
  unfold topo_Peer
  rw [loopW_iff.2 (⟨2, by kernel_rfl⟩ : ∃ n, loopN (topo_Peer_l1 t0 0 0) n 0 = some (.inr (1, 1, 0, true)))]; rfl
theorem t0_places : topo_places t0 = some [(0, 0), (1, 1), (0, 2)] := by
  unfold topo_places
  rw [loopW_iff.2 (⟨3, by kernel_rfl⟩ : ∃ n, loopN (topo_places_l1 t0) n ([], 0) = some [(0, 0), (1, 1)]), Option.bind_some, loopW_iff.2 (⟨3, by kernel_rfl⟩ : ∃ n, loopN (topo_places_l2 t0) n ([(0, 0), (1, 1)], 0) = some [(0, 0), (1, 1), (0, 2)])]; rfl
theorem t0_right : topo_Right t0 = some true := by
  unfold topo_Right
  rw [if_neg (by decide), t0_places, Option.bind_some, loopW_iff.2 (⟨5, by kernel_rfl⟩ : ∃ n, loopN (topo_Right_l1 t0 [(0, 0), (1, 1), (0, 2)]) n (0, []) = some (.inl [((0, 0), ()), ((1, 1), ()), ((0, 2), ())]))]
  show (slices_ContainsFunc_api_Link_api_Link t0.2.1).bind _ = _
  unfold slices_ContainsFunc_api_Link_api_Link slices_IndexFunc_api_Link_api_Link
  rw [loopW_iff.2 (⟨3, by kernel_rfl⟩ : ∃ n, loopN (slices_IndexFunc_api_Link_api_Link_l1 t0.2.1) n 0 = some (.inl ()))]; rfl
theorem t0_host1 : topo_HostAt t0 0 2 = some 0 := by
  unfold topo_HostAt slices_Index_api_Host_api_Host
  rw [loopW_iff.2 (⟨3, by kernel_rfl⟩ : ∃ n, loopN (slices_Index_api_Host_api_Host_l1 t0.2.2 (0, 2)) n 0 = some (.inr 0))]; rfl
theorem t0_host2 : topo_HostAt t0 1 1 = some (-1) := by
  unfold topo_HostAt slices_Index_api_Host_api_Host
  rw [loopW_iff.2 (⟨3, by kernel_rfl⟩ : ∃ n, loopN (slices_Index_api_Host_api_Host_l1 t0.2.2 (1, 1)) n 0 = some (.inl ()))]; rfl
theorem t0_sort (x : Int × Int × Int) : slices_SortFunc_topo_Side_topo_Side [x] = some [x] := by
  have h1 : math_bits_Len (IntKind.u64.wrap (([x] : List (Int × Int × Int)).length : Int)) = some 1 := by
    show math_bits_Len (IntKind.u64.wrap 1) = some 1
    kernel_rfl
  have h3 : slices_insertionSortCmpFunc_topo_Side [x] 0 1 = some [x] := by
    unfold slices_insertionSortCmpFunc_topo_Side
    exact loopW_iff.2 ⟨1, rfl⟩
  have h2 : slices_pdqsortCmpFunc_topo_Side [x] 0 (([x] : List (Int × Int × Int)).length : Int) 1 = some [x] := by
    show slices_pdqsortCmpFunc_topo_Side [x] 0 1 1 = some [x]
    unfold slices_pdqsortCmpFunc_topo_Side
    refine loopW_end ?_
    rw [slices_pdqsortCmpFunc_topo_Side_l1, if_pos (by decide), h3]; rfl
  unfold slices_SortFunc_topo_Side_topo_Side
  rw [h1, Option.bind_some, h2]; rfl
theorem t0_near0 : topo_Near t0 0 = some [(0, 1, 0)] := by
  unfold topo_Near
  rw [loopW_iff.2 (⟨3, by kernel_rfl⟩ : ∃ n, loopN (topo_Near_l1 t0 0) n ([], 0) = some [(0, 1, 0)]), Option.bind_some, t0_sort]; rfl
theorem t0_near1 : topo_Near t0 1 = some [(1, 0, 0)] := by
  unfold topo_Near
  rw [loopW_iff.2 (⟨3, by kernel_rfl⟩ : ∃ n, loopN (topo_Near_l1 t0 1) n ([], 0) = some [(1, 0, 0)]), Option.bind_some, t0_sort]; rfl
theorem t0_repeat : slices_Repeat_int_int [-1] 2 = some [-1, -1] := by
  unfold slices_Repeat_int_int
  rw [if_neg (by decide), if_neg (by decide)]
  show (mk (w64 2) (0 : Int)).bind _ = _
  rw [mk_is (by decide), Option.bind_some]
  show (loopW slices_Repeat_int_int_l1 ([-1, 0], 1)).bind _ = _
  rw [loopW_iff.2 (⟨3, by kernel_rfl⟩ : ∃ n, loopN slices_Repeat_int_int_l1 n ([-1, 0], 1) = some [-1, -1])]; rfl
theorem t0_hops : topo_Hops t0 0 = some [0, 1] := by
  have s1 : topo_Hops_l1 t0 ([0, -1], [0]) = some (.inl ([0, 1], [1])) := by
    rw [topo_Hops_l1, if_pos (by decide)]
    show (some (0 : Int)).bind _ = _
    rw [Option.bind_some]
    show (some ([] : List Int)).bind _ = _
    rw [Option.bind_some, t0_near0, Option.bind_some]
    exact loopW_iff.2 ⟨3, by kernel_rfl⟩
  have s2 : topo_Hops_l1 t0 ([0, 1], [1]) = some (.inl ([0, 1], [])) := by
    rw [topo_Hops_l1, if_pos (by decide)]
    show (some (1 : Int)).bind _ = _
    rw [Option.bind_some]
    show (some ([] : List Int)).bind _ = _
    rw [Option.bind_some, t0_near1, Option.bind_some]
    exact loopW_iff.2 ⟨3, by kernel_rfl⟩
  have s3 : topo_Hops_l1 t0 ([0, 1], []) = some (.inr [0, 1]) := by
    rw [topo_Hops_l1, if_neg (by decide)]
  unfold topo_Hops
  rw [t0_right, Option.bind_some, if_neg (by decide)]
  show (slices_Repeat_int_int [-1] 2).bind _ = _
  rw [t0_repeat, Option.bind_some, if_neg (by decide)]
  show (some (-1 : Int)).bind _ = _
  rw [Option.bind_some]
  show (loopW (topo_Hops_l1 t0) ([0, -1], [0])).bind _ = _
  rw [loopW_go s1, loopW_go s2, loopW_end s3]; rfl
theorem t0_whole : topo_Whole t0 = some true := by
  unfold topo_Whole
  rw [t0_hops, Option.bind_some, if_pos (by decide)]
  unfold slices_Contains_int_int slices_Index_int_int
  rw [loopW_iff.2 (⟨4, by kernel_rfl⟩ : ∃ n, loopN (slices_Index_int_int_l1 [0, 1] (-1)) n 0 = some (.inl ()))]; rfl
theorem awake17 : L17_awake = some true := by
  unfold L17_awake
  rw [show topo_Peer (2, [(0, 0, 1, 1, 1, 4)], [(0, 2)]) 0 0 = _ from t0_peer, Option.bind_some, show topo_Right (2, [(0, 0, 1, 1, 1, 4)], [(0, 2)]) = _ from t0_right, show topo_HostAt (2, [(0, 0, 1, 1, 1, 4)], [(0, 2)]) 0 2 = _ from t0_host1, show topo_HostAt (2, [(0, 0, 1, 1, 1, 4)], [(0, 2)]) 1 1 = _ from t0_host2, show topo_Whole (2, [(0, 0, 1, 1, 1, 4)], [(0, 2)]) = _ from t0_whole]
  rfl
/-! ### Places -/
abbrev ends2 (l : Lk) : List (Int × Int) := [(l.1, l.2.1), (l.2.2.1, l.2.2.2.1)]
def pl (t : Tp) : List (Int × Int) := t.2.1.flatMap ends2 ++ t.2.2
abbrev PortOk (t : Tp) (q : Int × Int) : Prop := 0 ≤ q.1 ∧ q.1 < t.1 ∧ 0 ≤ q.2 ∧ q.2 ≤ 7 ∧ (pl t).count q = 1
abbrev LinkOk (t : Tp) (l : Lk) : Prop := l.1 ≠ l.2.2.1 ∧ 1 ≤ l.2.2.2.2.1 ∧ l.2.2.2.2.1 ≤ l.2.2.2.2.2 ∧ l.2.2.2.2.2 ≤ 1000 ∧ PortOk t (l.1, l.2.1) ∧ PortOk t (l.2.2.1, l.2.2.2.1)
abbrev OkT (t : Tp) : Prop := (1 ≤ t.1 ∧ t.1 ≤ 8 ∧ t.2.1.length ≤ 24 ∧ t.2.2.length ≤ 8) ∧ (∀ l ∈ t.2.1, LinkOk t l) ∧ ∀ h ∈ t.2.2, PortOk t h
theorem flat_cnt (q : Int × Int) : ∀ l : List Lk, (l.flatMap ends2).count q ≤ 2 * l.length
  | [] => by simp
  | x :: l => by
    have h := flat_cnt q l
    have h2 : (ends2 x).count q ≤ 2 := List.count_le_length
    rw [List.flatMap_cons, List.count_append, List.length_cons]; omega
theorem port_eq {t : Tp} (hl : t.2.1.length ≤ 24) (hh : t.2.2.length ≤ 8) (a p : Int) : r17_port t a p = some (decide (PortOk t (a, p))) := by
  obtain ⟨s, h1, h2⟩ := loop_cnt t.2.1.length (fun (s : Int) (k : Nat) => (s, (k : Int))) (r17_port_l1 t a p) id (fun s k => s = (((t.2.1.take k).flatMap ends2).count (a, p) : Nat))
    (fun s k hk hI => by
      have hb := flat_cnt (a, p) (t.2.1.take k)
      rw [List.length_take] at hb
      have hx : ∀ c : Prop, [Decidable c] → ∀ s : Int, 0 ≤ s ∧ s ≤ 100 → (if c then some (w64 (s + 1)) else some s) = some (s + (if c then 1 else 0)) := fun c _ s hs => by
        by_cases h : c
        · rw [if_pos h, if_pos h, w64_id (by omega)]
        · rw [if_neg h, if_neg h]; simp
      refine ⟨s + (if (decide (t.2.1[k].1 = a) && decide (t.2.1[k].2.1 = p)) = true then 1 else 0) + (if (decide (t.2.1[k].2.2.1 = a) && decide (t.2.1[k].2.2.2.1 = p)) = true then 1 else 0), ?_, ?_⟩
      · rw [r17_port_l1, if_pos (by omega), ix_nat (List.getElem?_eq_getElem hk), Option.bind_some, hx _ s (by omega), Option.bind_some, hx _ _ (by split <;> omega), Option.bind_some, w64_id (by omega)]; rfl
      · rw [hI, List.take_succ_eq_append_getElem hk, List.flatMap_append, List.count_append, List.flatMap_cons, List.flatMap_nil, List.append_nil]
        have hc : ∀ (x : Lk), (((ends2 x).count (a, p) : Nat) : Int) = (if (decide (x.1 = a) && decide (x.2.1 = p)) = true then 1 else 0) + (if (decide (x.2.2.1 = a) && decide (x.2.2.2.1 = p)) = true then 1 else 0) := fun x => by
          simp only [ends2, List.count_cons, List.count_nil, beq_iff_eq, Prod.mk.injEq, Bool.and_eq_true, decide_eq_true_eq]
          split <;> split <;> rfl
        rw [Int.natCast_add, hc]; omega)
    (fun s _ => by rw [r17_port_l1, if_neg (by omega)]; rfl) 0 (by simp)
  have e1 : loopW (r17_port_l1 t a p) (0, 0) = some s := h2
  rw [List.take_length] at h1
  have hb := flat_cnt (a, p) t.2.1
  obtain ⟨s2, g1, g2⟩ := loop_cnt t.2.2.length (fun (s : Int) (k : Nat) => (s, (k : Int))) (r17_port_l2 t a p) id (fun s2 k => s2 = s + ((t.2.2.take k).count (a, p) : Nat))
    (fun s2 k hk hI => by
      have hb2 : (t.2.2.take k).count (a, p) ≤ k := Nat.le_trans List.count_le_length (by rw [List.length_take]; omega)
      refine ⟨s2 + (if t.2.2[k] = (a, p) then 1 else 0), ?_, ?_⟩
      · rw [r17_port_l2, if_pos (by omega), ix_nat (List.getElem?_eq_getElem hk), Option.bind_some, Option.bind_some]
        have hd : (if t.2.2[k].1 = a then some (decide (t.2.2[k].2 = p)) else some false) = some (decide (t.2.2[k] = (a, p))) := by
          by_cases c : t.2.2[k].1 = a
          · rw [if_pos c]; congr 1; exact decide_eq_decide.2 ⟨fun h => Prod.ext c h, fun h => by rw [h]⟩
          · rw [if_neg c, decide_eq_false (fun h => c (by rw [h]))]
        rw [hd, Option.bind_some]
        by_cases c : t.2.2[k] = (a, p)
        · rw [decide_eq_true c, if_pos rfl, if_pos c, Option.bind_some, w64_id (by omega), w64_id (by omega)]; rfl
        · rw [decide_eq_false c, if_neg (by decide), if_neg c, Option.bind_some, w64_id (by omega), Int.add_zero]; rfl
      · rw [hI, List.take_succ_eq_append_getElem hk, List.count_append]
        by_cases c : t.2.2[k] = (a, p)
        · rw [if_pos c, c]; simp; omega
        · rw [if_neg c, List.count_eq_zero_of_not_mem (a := (a, p)) (l := [t.2.2[k]]) (by simp; exact fun h => c h.symm)]; omega)
    (fun s _ => by rw [r17_port_l2, if_neg (by omega)]; rfl) s (by simp)
  have e2 : loopW (r17_port_l2 t a p) (s, 0) = some s2 := g2
  rw [List.take_length] at g1
  have hcount : ((pl t).count (a, p) : Int) = s2 := by
    unfold pl
    rw [List.count_append, Int.natCast_add, g1, h1]
  unfold r17_port
  rw [e1, Option.bind_some, e2, Option.bind_some]
  congr 1
  rw [Bool.eq_iff_iff]
  simp only [Bool.and_eq_true, decide_eq_true_eq]
  have : s2 = 1 ↔ (pl t).count (a, p) = 1 := by omega
  rw [this]
theorem rright17 {t : Tp} : r17_Right t = some (decide (OkT t)) := by
  unfold r17_Right
  by_cases c : t.1 < 1 ∨ 8 < t.1 ∨ 24 < (t.2.1.length : Int) ∨ 8 < (t.2.2.length : Int)
  · rw [if_pos (by simpa using c), decide_eq_false (fun h => by have := h.1; omega)]
  · rw [if_neg (by simpa using c)]
    have hl : t.2.1.length ≤ 24 := by omega
    have hh : t.2.2.length ≤ 8 := by omega
    rw [search_in t.2.1 (by omega) (r17_Right_l1 t) (fun l => ¬ LinkOk t l) false (fun k hk => by
      rw [r17_Right_l1, if_pos (by omega), ix_nat (List.getElem?_eq_getElem hk), Option.bind_some, port_eq hl hh, port_eq hl hh]
      generalize t.2.1[k] = x
      by_cases c1 : x.1 = x.2.2.1
      · rw [if_pos c1, Option.bind_some, if_pos rfl, if_pos (fun h => h.1 c1)]
      rw [if_neg c1]
      by_cases c2 : x.2.2.2.2.1 < 1
      · rw [if_pos c2, Option.bind_some, if_pos rfl, if_pos (fun h => by have := h.2.1; omega)]
      rw [if_neg c2]
      by_cases c3 : x.2.2.2.2.2 < x.2.2.2.2.1
      · rw [if_pos c3, Option.bind_some, if_pos rfl, if_pos (fun h => by have := h.2.2.1; omega)]
      rw [if_neg c3]
      by_cases c4 : 1000 < x.2.2.2.2.2
      · rw [if_pos c4, Option.bind_some, if_pos rfl, if_pos (fun h => by have := h.2.2.2.1; omega)]
      rw [if_neg c4, Option.bind_some]
      by_cases c5 : PortOk t (x.1, x.2.1)
      · rw [decide_eq_true c5, if_neg (by decide), Option.bind_some]
        by_cases c6 : PortOk t (x.2.2.1, x.2.2.2.1)
        · rw [decide_eq_true c6, Option.bind_some, if_neg (by decide), if_neg (fun h => h ⟨c1, by omega, by omega, by omega, c5, c6⟩)]
        · rw [decide_eq_false c6, Option.bind_some, if_pos (by decide), if_pos (fun h => c6 h.2.2.2.2.2)]
      · rw [decide_eq_false c5, if_pos (by decide), Option.bind_some, if_pos rfl, if_pos (fun h => c5 h.2.2.2.2.1)]) (by rw [r17_Right_l1, if_neg (by omega)]),
      search_in t.2.2 (by omega) (r17_Right_l2 t) (fun h => ¬ PortOk t h) false (fun k hk => by
      rw [r17_Right_l2, if_pos (by omega), ix_nat (List.getElem?_eq_getElem hk), Option.bind_some, Option.bind_some, port_eq hl hh, Option.bind_some]
      by_cases c5 : PortOk t t.2.2[k]
      · rw [decide_eq_true (show PortOk t (t.2.2[k].1, t.2.2[k].2) from c5), if_neg (by decide), if_neg (fun h => h c5)]
      · rw [decide_eq_false (show ¬ PortOk t (t.2.2[k].1, t.2.2[k].2) from c5), if_pos (by decide), if_pos c5]) (by rw [r17_Right_l2, if_neg (by omega)])]
    by_cases d1 : ∃ l ∈ t.2.1, ¬ LinkOk t l
    · rw [if_pos d1]
      show some false = _
      rw [decide_eq_false (fun h => by obtain ⟨l, hl, hn⟩ := d1; exact hn (h.2.1 l hl))]
    · rw [if_neg d1]
      by_cases d2 : ∃ h ∈ t.2.2, ¬ PortOk t h
      · rw [if_pos d2]
        show some false = _
        rw [decide_eq_false (fun h => by obtain ⟨l, hl, hn⟩ := d2; exact hn (h.2.2 l hl))]
      · rw [if_neg d2]
        show some true = _
        rw [decide_eq_true (⟨by omega, fun l hl => Decidable.not_not.1 fun hn => d1 ⟨l, hl, hn⟩, fun l hl => Decidable.not_not.1 fun hn => d2 ⟨l, hl, hn⟩⟩ : OkT t)]
end Go.Proofs.Ytnkleniifdkpmaa
