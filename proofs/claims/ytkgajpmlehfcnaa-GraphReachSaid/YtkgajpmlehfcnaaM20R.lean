/- Layer 20: what one reaches. Conditions: none. -/
import Derived.Test.YtkgajpmlehfcnaaM20O
namespace Go.Proofs.Ytkgajpmlehfcnaa
set_option linter.unusedVariables false
set_option linter.unusedSimpArgs false
open Go Go.RowKit
theorem reach_spec {n : Nat} {l : Es} (ok : Ok (n : Int) l) (hl : l.length ≤ 1000000000) {f : Nat} (hf : f < n) : ∃ q : Nat → Bool, graph_Reach (n : Int) l (f : Int) = some (filt q 16) ∧ (∀ k, k < 16 → (q k = true ↔ Rch l f k)) := by
  have hn := ok.2.1
  obtain ⟨t, h1, h2⟩ := succ_eq l n ok hl
  obtain ⟨s, h3, h4, h5⟩ := reached_eq ok h2 hf
  refine ⟨s.testBit, ?_, fun k _ => h5 k⟩
  unfold graph_Reach
  rw [right_eq _ _ hl, decide_eq_true ok, Option.bind_some, if_neg (by decide), if_neg (by omega), decide_eq_false (by omega), Option.bind_some, if_neg (by decide), h1, Option.bind_some, h4, Option.bind_some, nodes_eq h3]; rfl
theorem filt_mem {q : Nat → Bool} {m : Nat} {x : Int} : x ∈ filt q m ↔ ∃ k : Nat, x = (k : Int) ∧ k < m ∧ q k = true := by
  unfold filt
  rw [List.mem_map]
  constructor
  · rintro ⟨k, h, rfl⟩
    rw [List.mem_filter, List.mem_range] at h
    exact ⟨k, rfl, h⟩
  · rintro ⟨k, rfl, h⟩
    exact ⟨k, by rw [List.mem_filter, List.mem_range]; exact h, rfl⟩
theorem filt_asc (q : Nat → Bool) (m : Nat) : (filt q m).Pairwise (· < ·) := by
  unfold filt
  rw [List.pairwise_map]
  refine List.Pairwise.imp (fun h => by omega) (List.Pairwise.filter _ List.pairwise_lt_range)
theorem rch_lt {n : Nat} {l : Es} (ok : Ok (n : Int) l) {f k : Nat} (hf : f < n) (h : Rch l f k) : k < n := by
  cases h with
  | refl => exact hf
  | step _ hj => exact (J_lt ok hj).2
theorem rch_trans {l : Es} {a b c : Nat} (h1 : Rch l a b) (h2 : Rch l b c) : Rch l a c := by
  induction h2 with
  | refl => exact h1
  | step _ hj ih => exact ih.step hj
theorem rch_more {l m : Es} (h : ∀ e ∈ l, e ∈ m) {a b : Nat} (h1 : Rch l a b) : Rch m a b := by
  induction h1 with
  | refl => exact .refl
  | step _ hj ih => exact ih.step (h _ hj)
theorem place_in {l : List Int} (hl : l.length ≤ 1000000000) (x : Int) : ∃ r, L20_place l x = some r ∧ (r < 0 ↔ x ∉ l) := by
  obtain ⟨r, h1, h2⟩ := place_eq l x hl
  refine ⟨r, h1, ?_⟩
  rcases h2 with ⟨rfl, h2⟩ | ⟨j, rfl, h2⟩
  · exact ⟨fun _ => h2, fun _ => by omega⟩
  · have := List.mem_of_getElem? h2
    exact ⟨fun h => by omega, fun h => absurd this h⟩
theorem GraphReach_true (p0 : Int) (ok0 : (Lit.int .i64 p0).wf = true) (p1 : List (Int × Int)) (ok1 : okL (okP (fun n => (Lit.int .i64 n).wf = true) (fun n => (Lit.int .i64 n).wf = true)) p1) (p2 : Int) (ok2 : (Lit.int .i64 p2).wf = true) (p3 : Int) (ok3 : (Lit.int .i64 p3).wf = true) (p4 : Int × Int) (ok4 : okP (fun n => (Lit.int .i64 n).wf = true) (fun n => (Lit.int .i64 n).wf = true) p4) : L20_GraphReach p0 p1 p2 p3 p4 = some true := by
  unfold L20_GraphReach
  rw [awake20]
  by_cases h : 60 < (p1.length : Int)
  · rw [if_pos h]; rfl
  have hl : p1.length ≤ 60 := by omega
  rw [if_neg h, rright_eq _ _ (by omega), rright_eq _ [p4] (by simp)]
  simp only [Option.bind_some]
  by_cases ok : Ok p0 p1
  · rw [decide_eq_true ok, if_neg (by decide)]
    by_cases c1 : p2 < 0
    · rw [if_pos c1]; rfl
    rw [if_neg c1]
    by_cases c2 : p0 ≤ p2
    · rw [if_pos c2]; rfl
    rw [if_neg c2]
    by_cases okm : Ok p0 [p4]
    · rw [decide_eq_true okm, Option.bind_some]
      simp only [Bool.not_true, Bool.false_eq_true, if_false]
      obtain ⟨n, rfl⟩ : ∃ n : Nat, p0 = (n : Int) := ⟨p0.toNat, by have := ok.1; omega⟩
      obtain ⟨f, rfl⟩ : ∃ f : Nat, p2 = (f : Int) := ⟨p2.toNat, by omega⟩
      have hn := ok.2.1
      have hf : f < n := by omega
      have ok2' : Ok (n : Int) (p1 ++ [p4]) := ⟨ok.1, ok.2.1, fun e he => by
        rcases List.mem_append.1 he with he | he
        · exact ok.2.2 e he
        · exact okm.2.2 e he⟩
      obtain ⟨q, a1, a2⟩ := reach_spec ok (by omega) hf
      obtain ⟨q', b1, b2⟩ := reach_spec ok2' (by simp; omega) hf
      have la := filt_len q 16
      have lb := filt_len q' 16
      have ma : ∀ x : Int, x ∈ filt q 16 ↔ ∃ k : Nat, x = (k : Int) ∧ Rch p1 f k := fun x => by
        rw [filt_mem]
        constructor
        · rintro ⟨k, rfl, h1, h2⟩; exact ⟨k, rfl, (a2 k h1).1 h2⟩
        · rintro ⟨k, rfl, h1⟩
          have := rch_lt ok hf h1
          exact ⟨k, rfl, by omega, (a2 k (by omega)).2 h1⟩
      have mb : ∀ x : Int, x ∈ filt q' 16 ↔ ∃ k : Nat, x = (k : Int) ∧ Rch (p1 ++ [p4]) f k := fun x => by
        rw [filt_mem]
        constructor
        · rintro ⟨k, rfl, h1, h2⟩; exact ⟨k, rfl, (b2 k h1).1 h2⟩
        · rintro ⟨k, rfl, h1⟩
          have := rch_lt ok2' hf h1
          exact ⟨k, rfl, by omega, (b2 k (by omega)).2 h1⟩
      rw [mine_eq (by omega)]
      simp only [Option.bind_some]
      rw [a1, app_is (by simp; omega)]
      simp only [Option.bind_some]
      rw [b1, Option.bind_some]
      rw [search_any (filt q 16).length _ (fun _ => False) false (fun k hk => by
        unfold L20_GraphReach_l1
        have hm : (filt q 16)[k] ∈ filt q 16 := List.getElem_mem hk
        obtain ⟨r, r1, r2⟩ := place_in (l := filt q' 16) (by omega) (filt q 16)[k]
        have hr : ¬ r < 0 := fun h => r2.1 h (by
          obtain ⟨k', e, h2⟩ := (ma _).1 hm
          exact (mb _).2 ⟨k', e, rch_more (fun e he => List.mem_append_left _ he) h2⟩)
        rw [if_pos (by omega), ix_nat (List.getElem?_eq_getElem hk)]
        simp only [Option.bind_some]
        rw [r1, Option.bind_some, if_neg hr]
        by_cases hk0 : 0 < (k : Int)
        · have hasc := List.pairwise_iff_getElem.1 (filt_asc q 16) (k - 1) k (by omega) hk (by omega)
          rw [if_pos hk0, w64_id (by omega), show (k : Int) - 1 = ((k - 1 : Nat) : Int) by omega, ix_nat (List.getElem?_eq_getElem (show k - 1 < (filt q 16).length by omega))]
          simp only [Option.bind_some]
          rw [decide_eq_false (by omega), if_neg (by decide), if_neg (by simp), w64_id (by omega)]; rfl
        · rw [if_neg hk0]
          simp only [Option.bind_some]
          rw [if_neg (by decide), if_neg (by simp), w64_id (by omega)]; rfl) (by unfold L20_GraphReach_l1; rw [if_neg (by omega)]), if_neg (by simp)]
      simp only [orR, Option.bind_some]
      rw [search_any p1.length _ (fun _ => False) false (fun k hk => by
        unfold L20_GraphReach_l2
        have hm : p1[k] ∈ p1 := List.getElem_mem hk
        obtain ⟨r, r1, r2⟩ := place_in (l := filt q 16) (by omega) p1[k].1
        obtain ⟨r', r1', r2'⟩ := place_in (l := filt q 16) (by omega) p1[k].2
        rw [if_pos (by omega), ix_nat (List.getElem?_eq_getElem hk)]
        simp only [Option.bind_some]
        rw [r1, r1']
        simp only [Option.bind_some]
        by_cases h0 : 0 ≤ r
        · have hin : p1[k].1 ∈ filt q 16 := Classical.byContradiction fun h => by have := r2.2 h; omega
          obtain ⟨b, e1, h2⟩ := (ma _).1 hin
          have hrg := ok.2.2 _ hm
          have hin2 : p1[k].2 ∈ filt q 16 := (ma _).2 ⟨p1[k].2.toNat, by omega, h2.step (by
            show ((b : Int), ((p1[k].2.toNat : Nat) : Int)) ∈ p1
            rw [← e1, show ((p1[k].2.toNat : Nat) : Int) = p1[k].2 by omega]; exact hm)⟩
          have hr' : ¬ r' < 0 := fun h => r2'.1 h hin2
          rw [if_pos h0, decide_eq_false hr', Option.bind_some, if_neg (by decide), if_neg (by simp), w64_id (by omega)]; rfl
        · rw [if_neg h0, Option.bind_some, if_neg (by decide), if_neg (by simp), w64_id (by omega)]; rfl) (by unfold L20_GraphReach_l2; rw [if_neg (by omega)]), if_neg (by simp)]
      simp only [Option.bind_some]
      obtain ⟨r, r1, r2⟩ := place_in (l := filt q 16) (by omega) (f : Int)
      have hr : ¬ r < 0 := fun h => r2.1 h ((ma _).2 ⟨f, rfl, .refl⟩)
      rw [r1]
      simp only [Option.bind_some]
      rw [if_neg hr]
      obtain ⟨s, s1, s2⟩ := place_in (l := filt q 16) (by omega) p3
      rw [s1]
      simp only [Option.bind_some]
      by_cases hs : s < 0
      · rw [decide_eq_true hs, if_pos rfl, if_pos (by omega)]; rfl
      · rw [decide_eq_false hs, if_neg (by decide)]
        have hin : p3 ∈ filt q 16 := Classical.byContradiction fun h => hs (s2.2 h)
        obtain ⟨t, rfl, ht⟩ := (ma _).1 hin
        have htn := rch_lt ok hf ht
        obtain ⟨q2, c1', c2'⟩ := reach_spec ok (by omega) htn
        have lc := filt_len q2 16
        rw [c1', Option.bind_some, search_any (filt q2 16).length _ (fun _ => False) false (fun k hk => by
          unfold L20_GraphReach_l3
          have hm : (filt q2 16)[k] ∈ filt q2 16 := List.getElem_mem hk
          obtain ⟨k', e, h1, h2⟩ := filt_mem.1 hm
          obtain ⟨u, u1, u2⟩ := place_in (l := filt q 16) (by omega) (filt q2 16)[k]
          have hu : ¬ u < 0 := fun h => u2.1 h (by
            rw [e]
            exact (ma _).2 ⟨k', rfl, rch_trans ht ((c2' k' h1).1 h2)⟩)
          rw [if_pos (by omega), ix_nat (List.getElem?_eq_getElem hk), Option.bind_some, u1, Option.bind_some, if_neg hu, if_neg (by simp), w64_id (by omega)]; rfl) (by unfold L20_GraphReach_l3; rw [if_neg (by omega)]), if_neg (by simp)]
        rfl
    · rw [decide_eq_false okm]; rfl
  · rw [decide_eq_false ok]; rfl
end Go.Proofs.Ytkgajpmlehfcnaa
