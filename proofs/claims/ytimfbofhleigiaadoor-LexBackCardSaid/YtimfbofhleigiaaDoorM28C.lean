/- Layer 28: the text of tokens has the same tokens. Conditions: none. -/
import Derived.Test.YtimfbofhleigiaaDoorM28B
namespace Go.Proofs.YtimfbofhleigiaaDoor
set_option linter.unusedVariables false
set_option linter.unusedSimpArgs false
open Go Go.RowKit
/-! ### The texts of tokens -/
def txs (l : List Tok) : List (List UInt8) := l.flatMap fun t => if t.1 = 4 then [] else [tx t]
theorem d3_itoa {n : Int} (h : 0 ≤ n ∧ n < 1000) : itoaP n = some (d3 n.toNat) := by
  obtain ⟨u, rfl⟩ : ∃ u : Nat, n = (u : Int) := ⟨n.toNat, by omega⟩
  rw [itoaP_is (by omega), Lib.itoa_nonneg, dec_d3 (by omega), Int.toNat_natCast]
theorem text_loop {l : List Tok} (hl : l.length ≤ 2000) (hg : ∀ t ∈ l, Good t ∨ t.1 = 4) : loopW (lex_Text_l1 l) ([], 0) = some (txs l) := by
  have hlen : ∀ l : List Tok, (txs l).length ≤ l.length := by
    intro l
    induction l with
    | nil => simp [txs]
    | cons t r ih =>
      have : txs (t :: r) = (if t.1 = 4 then [] else [tx t]) ++ txs r := rfl
      rw [this, List.length_append, List.length_cons]
      split <;> simp <;> omega
  have key : ∀ (d k : Nat), k + d = l.length → loopW (lex_Text_l1 l) (txs (l.take k), (k : Int)) = some (txs l) := by
    intro d
    induction d with
    | zero =>
      intro k hk
      rw [loopW_end (by rw [lex_Text_l1, if_neg (by omega)]), List.take_of_length_le (by omega)]
    | succ d ih =>
      intro k hk
      have hkl : k < l.length := by omega
      have hle := hlen (l.take k)
      rw [List.length_take] at hle
      have hs : txs (l.take (k + 1)) = txs (l.take k) ++ (if l[k].1 = 4 then [] else [tx l[k]]) := by
        unfold txs
        rw [List.take_succ_eq_append_getElem hkl, List.flatMap_append]; simp only [List.flatMap_cons, List.flatMap_nil, List.append_nil]
      rw [loopW_go (s' := (txs (l.take (k + 1)), ((k + 1 : Nat) : Int))) ?_]
      · exact ih (k + 1) (by omega)
      · rw [lex_Text_l1, if_pos (by omega), ix_nat (List.getElem?_eq_getElem hkl), hs]
        simp only [Option.bind_some]
        rcases hg l[k] (List.getElem_mem hkl) with g | g
        · rcases g.kind with c | c | c
          · have ht : tx l[k] = l[k].2.2.1 := by unfold tx; rw [if_neg (by omega)]
            rw [if_pos c, Option.bind_some, if_pos rfl, app_is (by simp; omega), Option.bind_some, Option.bind_some, w64_id (by omega), if_neg (show ¬ l[k].1 = 4 by omega), ht]; rfl
          · have ht : tx l[k] = d3 l[k].2.1.toNat := by unfold tx; rw [if_pos c]
            rw [if_neg (show ¬ l[k].1 = 1 by omega), decide_eq_false (show ¬ l[k].1 = 3 by omega), Option.bind_some, if_neg (by decide), if_pos c, d3_itoa (g.num c), Option.bind_some, app_is (by simp; omega), Option.bind_some, Option.bind_some, w64_id (by omega), if_neg (show ¬ l[k].1 = 4 by omega), ht]; rfl
          · have ht : tx l[k] = l[k].2.2.1 := by unfold tx; rw [if_neg (by omega)]
            rw [if_neg (show ¬ l[k].1 = 1 by omega), decide_eq_true c, Option.bind_some, if_pos rfl, app_is (by simp; omega), Option.bind_some, Option.bind_some, w64_id (by omega), if_neg (show ¬ l[k].1 = 4 by omega), ht]; rfl
        · rw [if_neg (show ¬ l[k].1 = 1 by omega), decide_eq_false (show ¬ l[k].1 = 3 by omega), Option.bind_some, if_neg (by decide), if_neg (show ¬ l[k].1 = 2 by omega), Option.bind_some, w64_id (by omega), if_pos g, List.append_nil]; rfl
  exact key l.length 0 (by omega)
theorem text_eq {l : List Tok} (hl : l.length ≤ 2000) (hg : ∀ t ∈ l, Good t ∨ t.1 = 4) (hj : (Lib.join (txs l) [32]).length ≤ 1000000) : lex_Text l = some (Lib.join (txs l) [32]) := by
  have hlen : (txs l).length ≤ 2000 := by
    have : ∀ l : List Tok, (txs l).length ≤ l.length := by
      intro l
      induction l with
      | nil => simp [txs]
      | cons t r ih =>
        have : txs (t :: r) = (if t.1 = 4 then [] else [tx t]) ++ txs r := rfl
        rw [this, List.length_append, List.length_cons]
        split <;> simp <;> omega
    have := this l; omega
  unfold lex_Text
  rw [text_loop hl hg, Option.bind_some]
  unfold joinP
  rw [if_pos ⟨by omega, by omega⟩]; rfl
theorem text_one {t : Tok} (h : Good t) (hl : (tx t).length ≤ 4900) : lex_Text [t] = some (tx t) := by
  have hne : ¬ t.1 = 4 := by have := h.kind; omega
  have e : txs [t] = [tx t] := by simp [txs, hne]
  have e2 : Lib.join (txs [t]) [32] = tx t := by rw [e, Lib.join_cons]; simp [Lib.joinTail]
  rw [text_eq (by simp) (fun x hx => by rw [List.mem_singleton] at hx; subst hx; exact .inl h) (by rw [e2]; omega), e2]
theorem text_end (s : List UInt8) : lex_Text [endT s] = some [] := by
  have e : txs [endT s] = [] := rfl
  rw [text_eq (by simp) (fun x hx => by rw [List.mem_singleton] at hx; subst hx; exact .inr rfl) (by rw [e]; decide), e]; rfl
theorem txs_good {ts : List Tok} (hg : ∀ t ∈ ts, Good t) : txs ts = ts.map tx := by
  induction ts with
  | nil => rfl
  | cons t r ih =>
    have hne : ¬ t.1 = 4 := by have := (hg t (List.mem_cons_self ..)).kind; omega
    have : txs (t :: r) = (if t.1 = 4 then [] else [tx t]) ++ txs r := rfl
    rw [this, if_neg hne, ih fun x hx => hg x (List.mem_cons_of_mem _ hx)]; rfl
theorem check_loop {s : List UInt8} (hs : s.length ≤ 1000) {l : List Tok} (hl : l.length ≤ 600) {a : Nat} {ts : List Tok} (h : Run s a ts) : ∀ (pre : List Tok) (at_ : Nat), at_ ≤ a → at_ ≤ s.length → l = pre ++ (ts ++ [endT s]) → loopW (L28_LexBack_l1 s (l, 0, 0)) ((at_ : Int), (pre.length : Int)) = some (.inl ()) := by
  induction h with
  | nil ha =>
    rename_i a
    intro pre at_ h1 h2 he
    rw [List.nil_append] at he
    have hlen : l.length = pre.length + 1 := by rw [he]; simp
    have hget : l[pre.length]? = some (endT s) := by rw [he]; simp
    rw [loopW_go (s' := ((s.length : Int), ((pre.length + 1 : Nat) : Int))) ?_]
    · exact loopW_end (by rw [L28_LexBack_l1, if_neg (by simp only; omega)])
    · rw [L28_LexBack_l1, if_pos (by simp only; omega), ix_nat hget]
      simp only [Option.bind_some]
      rw [if_neg (by simp; omega), text_end, Option.bind_some, if_neg (by rw [w64_id (by omega)]; simp), w64_id (x := (s.length : Int) + (([] : List UInt8).length : Int)) (by simp; omega), subl_is (by simp)]
      simp only [Option.bind_some]
      rw [if_neg (by simp), w64_id (by omega)]
      simp
  | cons h0 h1 hz hle hr ih =>
    rename_i a k n w z ts
    intro pre at_ ha1 ha2 he
    obtain ⟨g1, g2⟩ := good_of (u := s.drop a) (by rw [List.length_drop]; omega) h1 hz (by rw [List.length_drop]; omega) (a : Int)
    have hzl : (tx (k, n, w, (a : Int))).length = z := by rw [g2, List.length_take, List.length_drop]; omega
    have hlen : pre.length < l.length := by rw [he]; simp
    have hget : l[pre.length]? = some (k, n, w, (a : Int)) := by rw [he]; simp
    have hnext := ih (pre ++ [(k, n, w, (a : Int))]) (a + z) (by omega) (by omega) (by rw [he]; simp)
    rw [loopW_go (s' := (((a + z : Nat) : Int), (((pre ++ [(k, n, w, (a : Int))]).length : Nat) : Int))) ?_]
    · exact hnext
    · rw [L28_LexBack_l1, if_pos (by simp only; omega), ix_nat hget]
      simp only [Option.bind_some]
      rw [if_neg (by simp; omega), text_one g1 (by omega), Option.bind_some, if_neg (by rw [w64_id (by omega), hzl]; omega), hzl, w64_id (x := (a : Int) + (z : Int)) (by omega), subl_is (by omega)]
      simp only [Option.bind_some]
      have e1 : (s.take ((a : Int) + (z : Int)).toNat).drop (a : Int).toNat = tx (k, n, w, (a : Int)) := by
        rw [g2, show ((a : Int) + (z : Int)).toNat = a + z by omega, Int.toNat_natCast, List.drop_take, Nat.add_sub_cancel_left]
      rw [e1, if_neg (by simp), w64_id (by omega)]
      simp
theorem LexBack_core (s : List UInt8) : L28_LexBack s = some true := by
  unfold L28_LexBack
  rw [awake28]
  by_cases c0 : s.length ≤ 1000
  · rw [if_neg (by omega)]
    rcases lex_some (s := s) (by omega) with ⟨ts, g1, g2, g3⟩ | ⟨p, e, g1, g2⟩
    · rw [g1, Option.bind_some]
      simp only
      rw [if_neg (by simp)]
      obtain ⟨r1, r2, r3⟩ := run_good (by omega) g2
      have hsk := skipN_le false s
      have hlens : Lib.lens (ts.map tx) ≤ 1000 := by omega
      have hg : ∀ t ∈ ts ++ [endT s], Good t ∨ t.1 = 4 := fun t ht => by
        rcases List.mem_append.1 ht with h | h
        · exact .inl (r1 t h)
        · rw [List.mem_singleton] at h; subst h; exact .inr rfl
      have htx : txs (ts ++ [endT s]) = ts.map tx := by
        have : txs (ts ++ [endT s]) = txs ts ++ txs [endT s] := by simp [txs]
        rw [this, txs_good r1]
        show ts.map tx ++ [] = _
        rw [List.append_nil]
      have hJ : ∃ J ts', lex_Text (ts ++ [endT s]) = some J ∧ lex_Lex J = some (ts' ++ [endT J], 0, 0) ∧ ts'.map bare = ts.map bare := by
        cases ts with
        | nil =>
          refine ⟨[], [], text_end s, ?_, rfl⟩
          exact lex_run' (by decide) (.nil (by decide)) (by decide)
        | cons t r =>
          have hlj : (Lib.join ((t :: r).map tx) [32]).length ≤ 2100 := by
            rw [List.map_cons, Lib.join_cons, List.length_append, Lib.joinTail_length]
            have : Lib.lens ((t :: r).map tx) = (tx t).length + Lib.lens (r.map tx) := by simp [Lib.lens]
            simp only [List.length_map, List.length_cons] at g3 ⊢
            simp; omega
          have e : Lib.join ((t :: r).map tx) [32] = [] ++ (tx t ++ Lib.joinTail [32] (r.map tx)) := by rw [List.map_cons, Lib.join_cons]; rfl
          obtain ⟨ts', q1, q2⟩ := run_join r (fun x hx => r1 x (List.mem_cons_of_mem _ hx)) t (r1 t (List.mem_cons_self ..)) [] (by rw [← e]; omega)
          have hl5 : ts'.length = (t :: r).length := by
            have := congrArg List.length q2
            simpa using this
          refine ⟨_, ts', by rw [text_eq (by simp at g3 ⊢; omega) hg (by rw [htx]; omega), htx, e], lex_run' (by rw [← e]; omega) ?_ (by omega), q2⟩
          have hl0 : (tx t).length ≤ 4900 := by
            have : Lib.lens ((t :: r).map tx) = (tx t).length + Lib.lens (r.map tx) := by simp [Lib.lens]
            omega
          have e0 : skipN false ([] ++ (tx t ++ Lib.joinTail [32] (r.map tx))) = ([] : List UInt8).length := good_skip (r1 t (List.mem_cons_self ..)) hl0 _
          rw [e0]; exact q1
      obtain ⟨J, ts', j1, j2, j3⟩ := hJ
      have hl5 : ts'.length = ts.length := by
        have := congrArg List.length j3
        simpa using this
      rw [j1, Option.bind_some, j2, Option.bind_some]
      simp only
      rw [if_neg (by simp), moved_eq (by simp; omega) (by simp [j3]), Option.bind_some, if_neg (by decide), decide_eq_false (by simp; omega)]
      simp only [Option.bind_some]
      rw [if_neg (by decide)]
      have hc := check_loop (l := ts ++ [endT s]) (s := s) c0 (by simp; omega) g2 [] 0 (Nat.zero_le _) (Nat.zero_le _) rfl
      have hc' : loopW (L28_LexBack_l1 s (ts ++ [endT s], 0, 0)) (0, 0) = some (.inl ()) := hc
      rw [hc']
      have hw : w64 (((ts ++ [endT s]).length : Int) - 1) = ((ts.length : Nat) : Int) := by rw [w64_id (by simp; omega)]; simp
      have hget : (ts ++ [endT s])[ts.length]? = some (endT s) := by simp
      show (Option.bind (Option.bind (ix (ts ++ [endT s]) (w64 (((ts ++ [endT s]).length : Int) - 1))) _) _) = _
      rw [hw, ix_nat hget]
      simp
    · rw [g1, Option.bind_some]
      simp only
      rw [if_pos g2]; rfl
  · rw [if_pos (by omega)]; rfl
theorem LexBack_true (p0 : List UInt8) {A : Prop} (_ : A) : L28_LexBack p0 = some true := LexBack_core p0
end Go.Proofs.YtimfbofhleigiaaDoor
