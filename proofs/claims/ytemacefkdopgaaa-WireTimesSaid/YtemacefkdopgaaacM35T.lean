/- Layer 35: when packets come. Conditions: none. -/
import Derived.Test.YtemacefkdopgaaacM35P
namespace Go.Proofs.Ytemacefkdopgaaa
set_option linter.unusedVariables false
set_option linter.unusedSimpArgs false
open Go Go.RowKit
theorem IP {t : Tp} (h : JD t) {i : Nat} {x : Lk} {a p : Int} {R : Pr} (hx : t.2.1[i]? = some x) (hs : H0 i x a p R) : Cu t R.1 R.2.1 = some (a, p, (i : Int), true) := by
  have hm := List.mem_of_getElem? hx
  have hk := h.2.1 x hm
  have hsm := HE hs
  obtain ⟨R', h1, h2⟩ := GX h.1.2.2.1 R.1 R.2.1
  rw [h1]
  rcases h2 with ⟨_, h2⟩ | ⟨j, y, hy, hs'⟩
  · exact absurd hsm.2 (h2 x hm)
  · have hc : (pl t).count (R.1, R.2.1) = 1 := by
      rcases List.mem_cons.1 hsm.2 with e | e
      · rw [e]; exact hk.2.2.2.2.1.2.2.2.2
      · rw [List.mem_singleton.1 e]; exact hk.2.2.2.2.2.2.2.2.2
    have e := IG hx hy hsm.2 (HE hs').1 hc
    subst e
    obtain rfl : x = y := Option.some.inj (hx.symm.trans hy)
    rcases hs with ⟨rfl, rfl, rfl⟩ | ⟨_, rfl, rfl, rfl⟩
    · rcases hs' with ⟨h3, _, _⟩ | ⟨_, _, _, rfl⟩
      · exact absurd h3.symm hk.1
      · rfl
    · rcases hs' with ⟨_, _, rfl⟩ | ⟨h3, _, _, _⟩
      · rfl
      · exact absurd ⟨rfl, rfl⟩ h3
def Gd (t : Tp) (sent from_ : List Int) (w : Wy) : Prop :=
  ∃ (j i : Nat) (x : Lk) (s f q : Int), w.1 = (j : Int) ∧ sent[j]? = some s ∧ from_[j]? = some f ∧ t.2.1[i]? = some x ∧ Cu t w.2.1 w.2.2.1 = some (f, q, (i : Int), true) ∧ w.2.2.2.2.1 = s + x.2.2.2.2.1 ∧ kl w = s + x.2.2.2.2.2 ∧ 0 ≤ s ∧ s ≤ 1000
theorem JS {t : Tp} {w : Wy} {i : Nat} {x : Lk} {s f q to : Int} (hx : t.2.1[i]? = some x) (hp : Cu t w.2.1 w.2.2.1 = some (f, q, (i : Int), true)) (h1 : s + x.2.2.2.2.1 ≤ to) (h2 : to ≤ s + x.2.2.2.2.2) : ED t w f (to - s) = some true := by
  unfold ED
  rw [Kc rfl, hp, Option.bind_some, if_pos rfl, if_pos rfl, show ix t.2.1 ((f, q, (i : Int), true) : Int × Int × Int × Bool).2.2.1 = some x from BO hx, Option.bind_some, if_pos (by omega), Option.bind_some, Option.bind_some]
  simp only [Option.some.injEq, decide_eq_true_iff]
  omega
theorem JI {t : Tp} {sent from_ : List Int} {to : Int} {O Lr : List Wy} {come : List Bool} (hO : O.length ≤ 100000)
    (hg : ∀ w ∈ O, ∃ (j : Nat) (s f : Int), w.1 = (j : Int) ∧ sent[j]? = some s ∧ from_[j]? = some f ∧ ED t w f (Ay (to - s)) = some true)
    (hn : ((O ++ Lr).map (·.1)).Nodup) (hge : ∀ w ∈ Lr, 0 ≤ w.1) (hc : ∀ w ∈ O ++ Lr, come[w.1.toNat]? = some false) :
    ∃ c', AM (Cy t sent from_ to O) (come, 0) = some (.inl c') ∧ c'.length = come.length ∧ ∀ w ∈ Lr, c'[w.1.toNat]? = some false := by
  obtain ⟨e, h1, c', rfl, h2, h3⟩ := EC (step := Cy t sent from_ to O) (fun s => ∃ k : Nat, k ≤ O.length ∧ s.2 = (k : Int) ∧ s.1.length = come.length ∧ ∀ w ∈ O.drop k ++ Lr, s.1[w.1.toNat]? = some false) (fun s => O.length - s.2.toNat)
    (fun e => ∃ c', e = .inl c' ∧ c'.length = come.length ∧ ∀ w ∈ Lr, c'[w.1.toNat]? = some false) (fun s hs => by
      obtain ⟨c, i⟩ := s
      obtain ⟨k, hk, hi, hl, hf⟩ := hs
      simp only at hi hl hf
      subst hi
      rw [Cy]
      by_cases ck : k < O.length
      · have hd : O.drop k = O[k] :: O.drop (k + 1) := List.drop_eq_getElem_cons ck
        obtain ⟨j, s, f, e1, e2, e3, e4⟩ := hg O[k] (List.getElem_mem ck)
        have hcj : c[j]? = some false := by
          have := hf O[k] (List.mem_append_left _ (by rw [hd]; exact List.mem_cons_self))
          rwa [e1, Int.toNat_natCast] at this
        have hj : j < sent.length := (List.getElem?_eq_some_iff.1 e2).1
        rw [if_pos (by omega), BO (List.getElem?_eq_getElem ck), Option.bind_some, if_neg (by omega), if_neg (by omega), e1, BO hcj, Option.bind_some, if_neg (by decide), Option.bind_some, BO e3, Option.bind_some, BO e2, Option.bind_some, e4, Option.bind_some, Option.bind_some, if_neg (by decide), Option.bind_some, AJ (by omega)]
        refine .inl ⟨_, rfl, ⟨k + 1, by omega, rfl, ?_, fun w hw => ?_⟩, by simp; omega⟩
        · unfold Cq; rw [List.length_set]; exact hl
        · have h6 := hf w (by rw [hd]; exact List.mem_cons_of_mem _ hw)
          have h7 : ((O.drop k ++ Lr).map (·.1)).Nodup := by
            have h8 : (O ++ Lr) = O.take k ++ (O.drop k ++ Lr) := by rw [← List.append_assoc, List.take_append_drop]
            rw [h8, List.map_append] at hn
            exact (List.nodup_append.1 hn).2.1
          rw [hd] at h7
          simp only [List.cons_append, List.map_cons, List.nodup_cons] at h7
          have h9 : w.1 ≠ O[k].1 := fun e => h7.1 (e ▸ List.mem_map_of_mem hw)
          have h10 : 0 ≤ w.1 := by
            rcases List.mem_append.1 hw with h | h
            · obtain ⟨j', _, _, e', _⟩ := hg w (List.mem_of_mem_drop h); omega
            · exact hge w h
          show (Cq c (j : Int) true)[w.1.toNat]? = _
          unfold Cq
          rw [Int.toNat_natCast, List.getElem?_set_ne (by omega)]
          exact h6
      · rw [if_neg (by omega)]
        obtain rfl : k = O.length := by omega
        refine .inr ⟨_, rfl, c, rfl, hl, fun w hw => hf w (List.mem_append_right _ hw)⟩) (come, 0) ⟨0, by omega, rfl, rfl, by rw [List.drop_zero]; exact hc⟩
  exact ⟨c', h1, h2, h3⟩
theorem Je (now : Int) (L : List Wy) : (Hr now L ++ Ch now L).Perm L := List.filter_append_perm _ _
theorem Gz (t : Tp) (l : List (Int × Int × Int × Int × Int × Int × (Int × Int × Int × Int))) : C8 t l = some true := by
  unfold C8
  have hr : (if 30 < (t.2.1.length : Int) then some true else (if 12 < (t.2.2.length : Int) then some true else (D2 t).bind fun x2 => some (!x2))) = some (if JD t then false else true) := by
    by_cases hT : JD t
    · have h1 := hT.1.2.2.1
      have h2 := hT.1.2.2.2
      rw [if_pos hT, if_neg (by omega), if_neg (by omega), HC, decide_eq_true hT]; rfl
    · rw [if_neg hT]
      by_cases c : 30 < (t.2.1.length : Int)
      · rw [if_pos c]
      rw [if_neg c]
      by_cases c : 12 < (t.2.2.length : Int)
      · rw [if_pos c]
      rw [if_neg c, HC, decide_eq_false hT]; rfl
  rw [hr, Option.bind_some]
  by_cases hT : JD t
  · rw [if_pos hT, if_neg (by decide), Kx, if_pos hT, Option.bind_some]
    show F3 (AM (CA t l) (0, [], [], [], 0, t.1, t.2.1, [], [])) _ = _
    obtain ⟨e, h1, h2⟩ := EC (step := CA t l) (fun s => ∃ (k : Nat) (now : Int) (sent from_ : List Int) (come : List Bool) (L : List Wy), s = (now, sent, from_, come, (k : Int), t.1, t.2.1, [], L) ∧ k ≤ 60 ∧ 0 ≤ now ∧ now ≤ 8 * k ∧ sent.length ≤ k ∧ from_.length = sent.length ∧ come.length = sent.length ∧ L.length ≤ k ∧ (L.map (·.1)).Nodup ∧ (∀ w ∈ L, Gd t sent from_ w) ∧ (∀ w ∈ L, come[w.1.toNat]? = some false) ∧ ∀ w ∈ L, now ≤ kl w) (fun s => 60 - s.2.2.2.2.1.toNat) (fun e => e = .inr true ∨ ∃ q, e = .inl q) (fun s hs => by
      obtain ⟨k, now, sent, from_, come, L, rfl, hk, hn0, hn8, hsl, hfl, hcl, hLl, hnd, hgd, hcf, hkl⟩ := hs
      rw [CA]
      by_cases c : ¬ ((k : Int) < (l.length : Int) ∧ (k : Int) < 60)
      · rw [if_neg (by simpa using c)]
        exact .inr ⟨_, rfl, .inr ⟨_, rfl⟩⟩
      have c := Decidable.not_not.1 c
      rw [if_pos (by simpa using c)]
      have hkk : k < l.length := by omega
      obtain ⟨d, hd⟩ : ∃ d, d = l[k] := ⟨_, rfl⟩
      have e1 : ix l (k : Int) = some d := by rw [hd]; exact BO (List.getElem?_eq_getElem hkk)
      rw [e1]
      simp only [Option.bind_some]
      by_cases c1 : d.2.1 < 0
      · rw [if_pos c1, Option.bind_some, if_pos rfl, Gj]
        exact .inr ⟨_, rfl, .inl rfl⟩
      rw [if_neg c1, Option.bind_some]
      by_cases c2 : 10000 < d.2.1
      · rw [if_pos (decide_eq_true c2), Gj]
        exact .inr ⟨_, rfl, .inl rfl⟩
      rw [if_neg (by simpa using c2)]
      obtain ⟨r, n1, _, n3⟩ := JG (t.1, t.2.1, []) t (L := L) (by omega)
      rw [n1, Option.bind_some]
      have hm0 : 0 ≤ Int.tmod d.2.1 8 ∧ Int.tmod d.2.1 8 ≤ 7 := by
        rw [Int.tmod_eq_emod_of_nonneg (by omega)]; omega
      rw [AJ (x := now + Int.tmod d.2.1 8) (by omega)]
      have hto : ∃ to, (if (decide (0 ≤ r) && decide (r < now + Int.tmod d.2.1 8)) = true then some r else some (now + Int.tmod d.2.1 8)) = some to ∧ 0 ≤ to ∧ to ≤ now + 7 ∧ ∀ w ∈ L, to ≤ kl w := by
        by_cases c3 : 0 ≤ r ∧ r < now + Int.tmod d.2.1 8
        · refine ⟨r, by rw [if_pos (by simpa using c3)], c3.1, by omega, fun w hw => ?_⟩
          rcases n3 with ⟨rfl, _⟩ | n3
          · cases hw
          · exact n3.2 w hw
        · refine ⟨_, by rw [if_neg (by simpa using c3)], by omega, by omega, fun w hw => ?_⟩
          rcases n3 with ⟨rfl, _⟩ | n3
          · cases hw
          · obtain ⟨⟨v, hv, hvr⟩, h5⟩ := n3
            have := h5 w hw
            have := hkl v hv
            omega
      obtain ⟨to, t1, t2, t3, t4⟩ := hto
      rw [t1, Option.bind_some]
      obtain ⟨R, d1, _, d3⟩ := Kq (t.1, t.2.1, []) t (L := L) (by omega) to
      rw [d1, Option.bind_some]
      have hrl : (Ch to L).length ≤ L.length := List.length_filter_le _ _
      have hRl : R.length ≤ L.length := by rw [d3.length_eq]; exact List.length_filter_le _ _
      have hRm : ∀ w ∈ R, w ∈ L ∧ kl w = to := fun w hw => by
        have h5 := List.mem_filter.1 (d3.mem_iff.1 hw)
        have := t4 w h5.1
        have h6 : kl w ≤ to := by simpa using h5.2
        exact ⟨h5.1, by omega⟩
      -- what comes, and what stays
      have hout : ∃ (O Lr : List Wy), (if d.1 = 3 then (Bv ((t.1, t.2.1, []), Ch to L) to d.2.2.2.2.2.1).bind fun x43 => (if x43.2.1 = 0 then (app R ([x43.1] : List Wy)).bind fun x44 => some (x44, x43.2.2.1.1, x43.2.2.1.2.1, x43.2.2.1.2.2, x43.2.2.2) else some (R, x43.2.2.1.1, x43.2.2.1.2.1, x43.2.2.1.2.2, x43.2.2.2)) else some (R, t.1, t.2.1, [], Ch to L)) = some (O, t.1, t.2.1, [], Lr) ∧ (O ++ Lr).Perm L ∧ (∀ w ∈ O, w ∈ L ∧ w.2.2.2.2.1 ≤ to ∨ w ∈ L ∧ kl w = to) ∧ ∀ w ∈ Lr, w ∈ L := by
        have hp0 : (R ++ Ch to L).Perm L := (d3.append_right _).trans (Je to L)
        by_cases c3 : d.1 = 3
        · rw [if_pos c3]
          obtain ⟨x, q, L', k1, _, k3⟩ := JF (t.1, t.2.1, []) t (L := Ch to L) (by omega) to d.2.2.2.2.2.1
          rw [k1, Option.bind_some]
          rcases k3 with ⟨hq, rfl⟩ | ⟨rfl, n, hx, rfl, he⟩
          · rw [if_neg hq]
            exact ⟨R, _, rfl, hp0, fun w hw => .inr (hRm w hw), fun w hw => (List.mem_filter.1 hw).1⟩
          · rw [if_pos rfl, DK (by simp only [List.length_singleton]; omega)]
            obtain ⟨hn, hxe⟩ := List.getElem?_eq_some_iff.1 hx
            have hpx : (x :: (Ch to L).eraseIdx n).Perm (Ch to L) := by
              rw [← hxe, List.eraseIdx_eq_take_drop_succ]
              have h8 : (Ch to L).take n ++ (Ch to L)[n] :: (Ch to L).drop (n + 1) = Ch to L := by rw [← List.drop_eq_getElem_cons hn, List.take_append_drop]
              conv => rhs; rw [← h8]
              exact List.perm_middle.symm
            refine ⟨R ++ [x], _, rfl, ?_, fun w hw => ?_, fun w hw => (List.mem_filter.1 (List.mem_of_mem_eraseIdx hw)).1⟩
            · rw [List.append_assoc]
              exact (hpx.append_left R).trans hp0
            · rcases List.mem_append.1 hw with h | h
              · exact .inr (hRm w h)
              · rw [List.mem_singleton.1 h]
                exact .inl ⟨(List.mem_filter.1 (List.mem_of_getElem? hx)).1, he⟩
        · rw [if_neg c3]
          exact ⟨R, _, rfl, hp0, fun w hw => .inr (hRm w hw), fun w hw => (List.mem_filter.1 hw).1⟩
      obtain ⟨O, Lr, o1, o2, o3, o4⟩ := hout
      rw [o1, Option.bind_some]
      have hol := o2.length_eq
      rw [List.length_append] at hol
      obtain ⟨c', l1, l2, l3⟩ := JI (t := t) (sent := sent) (from_ := from_) (to := to) (O := O) (Lr := Lr) (come := come) (by omega) (fun w hw => by
        have hwL : w ∈ L := by rcases o3 w hw with h | h <;> exact h.1
        obtain ⟨j, i, x, s, f, q, g1, g2, g3, g4, g5, g6, g7, g8, g9⟩ := hgd w hwL
        refine ⟨j, s, f, g1, g2, g3, ?_⟩
        have hx := hT.2.1 x (List.mem_of_getElem? g4)
        have h9 := t4 w hwL
        rw [AJ (by omega)]
        refine JS g4 g5 ?_ (by omega)
        rcases o3 w hw with h | h
        · omega
        · have := hx.2.2.1; omega) (((o2.map _).nodup_iff).2 hnd) (fun w hw => by
          obtain ⟨j, _, _, _, _, _, g1, _⟩ := hgd w (o4 w hw); omega) (fun w hw => hcf w (o2.mem_iff.1 hw))
      dsimp only
      rw [l1]
      -- what is sent
      have hput : ∃ (b : Bool) (L2 : List Wy), (if d.1 < 3 then (B5 ((t.1, t.2.1, []), Lr) to d.2.2.1 d.2.2.2.1 (sent.length : Int) d.2.2.2.2.2.2).bind fun x65 => some (decide (x65.1 = 0), x65.2.1.1, x65.2.1.2.1, x65.2.1.2.2, x65.2.2) else some (false, t.1, t.2.1, [], Lr)) = some (b, t.1, t.2.1, [], L2) ∧ ((b = false ∧ L2 = Lr) ∨ (b = true ∧ ∃ w, L2 = Lr ++ [w] ∧ w.1 = (sent.length : Int) ∧ Gd t (sent ++ [to]) (from_ ++ [d.2.2.1]) w ∧ to ≤ kl w)) := by
        by_cases c3 : d.1 < 3
        · rw [if_pos c3]
          obtain ⟨q, L', p1, _, _, p4⟩ := Ku (t := (t.1, t.2.1, [])) (t' := t) rfl hT.1.2.2.1 (L := Lr) (by omega) to d.2.2.1 d.2.2.2.1 (sent.length : Int) d.2.2.2.2.2.2
          rw [p1, Option.bind_some]
          rcases p4 with ⟨hq, rfl⟩ | ⟨rfl, i, x, R', hx, hs, rfl⟩
          · exact ⟨false, _, by show some (decide (q = 0), t.1, t.2.1, ([] : List (Int × Int)), _) = _; rw [decide_eq_false hq], .inl ⟨rfl, rfl⟩⟩
          · have hxo := hT.2.1 x (List.mem_of_getElem? hx)
            have hb := IP hT hx hs
            have hx1 := hxo.2.1
            have hx2 := hxo.2.2.1
            have hx3 := hxo.2.2.2.1
            refine ⟨true, _, rfl, .inr ⟨rfl, _, rfl, rfl, ⟨sent.length, i, x, to, d.2.2.1, d.2.2.2.1, rfl, by simp, by rw [← hfl]; simp, hx, hb, ?_, ?_, t2, by omega⟩, ?_⟩⟩
            · show Ay _ = _; rw [AJ (by omega)]
            · show Ay _ = _; rw [AJ (by omega)]
            · show to ≤ Ay _; rw [AJ (by omega)]; omega
        · rw [if_neg c3]; exact ⟨false, Lr, rfl, .inl ⟨rfl, rfl⟩⟩
      obtain ⟨b, L2, b1, b2⟩ := hput
      have hgr : ∀ w ∈ Lr, Gd t sent from_ w := fun w hw => hgd w (o4 w hw)
      have hnr : (Lr.map (·.1)).Nodup := by
        have h5 := ((o2.map (fun w : Wy => w.1)).nodup_iff).2 hnd
        rw [List.map_append] at h5
        exact (List.nodup_append.1 h5).2.1
      have hid : ∀ w ∈ Lr, w.1 < (sent.length : Int) := fun w hw => by
        obtain ⟨j, _, _, _, _, _, g1, g2, _⟩ := hgr w hw
        have := (List.getElem?_eq_some_iff.1 g2).1
        omega
      show (∃ s', F3 (F3 (some (Sum.inl c')) fun x45 => _) _ = some (Sum.inl s') ∧ _) ∨ _
      refine .inl ?_
      simp only [F3, Option.bind_some]
      rw [b1]
      simp only [Option.bind_some]
      rcases b2 with ⟨rfl, rfl⟩ | ⟨rfl, w, rfl, w1, w2, w3⟩
      · rw [if_neg (by decide)]
        simp only [Option.bind_some]
        rw [AJ (by omega)]
        exact ⟨_, rfl, ⟨k + 1, to, sent, from_, c', L2, rfl, by omega, t2, by omega, by omega, hfl, by omega, by omega, hnr, hgr, l3, fun w hw => t4 w (o4 w hw)⟩, by simp; omega⟩
      · rw [if_pos rfl, DK (by simp only [List.length_singleton]; omega), Option.bind_some, DK (by simp only [List.length_singleton]; omega), Option.bind_some, DK (by simp only [List.length_singleton]; omega)]
        simp only [Option.bind_some]
        rw [AJ (by omega)]
        refine ⟨_, rfl, ⟨k + 1, to, sent ++ [to], from_ ++ [d.2.2.1], c' ++ [false], Lr ++ [w], rfl, by omega, t2, by omega, by simp; omega, by simp; omega, by simp; omega, by simp; omega, ?_, fun v hv => ?_, fun v hv => ?_, fun v hv => ?_⟩, by simp; omega⟩
        · rw [List.map_append]
          refine List.nodup_append.2 ⟨hnr, by simp, fun a ha b hb e => ?_⟩
          obtain ⟨v, hv, rfl⟩ := List.mem_map.1 ha
          simp only [List.map_cons, List.map_nil, List.mem_singleton] at hb
          have := hid v hv
          omega
        · rcases List.mem_append.1 hv with h | h
          · obtain ⟨j, i, x, s, f, q, g1, g2, g3, g4⟩ := hgr v h
            refine ⟨j, i, x, s, f, q, g1, ?_, ?_, g4⟩
            · rw [List.getElem?_append_left (List.getElem?_eq_some_iff.1 g2).1]; exact g2
            · rw [List.getElem?_append_left (List.getElem?_eq_some_iff.1 g3).1]; exact g3
          · rw [List.mem_singleton.1 h]; exact w2
        · rcases List.mem_append.1 hv with h | h
          · have h5 := l3 v h
            rw [List.getElem?_append_left (List.getElem?_eq_some_iff.1 h5).1]; exact h5
          · rw [List.mem_singleton.1 h, w1, Int.toNat_natCast, show sent.length = c'.length by omega]; simp
        · rcases List.mem_append.1 hv with h | h
          · exact t4 v (o4 v h)
          · rw [List.mem_singleton.1 h]; exact w3) (0, [], [], [], 0, t.1, t.2.1, [], []) ⟨0, 0, [], [], [], [], rfl, by omega, by omega, by omega, by simp, rfl, rfl, by simp, by simp, (fun _ h => nomatch h), (fun _ h => nomatch h), (fun _ h => nomatch h)⟩
    rw [h1]
    rcases h2 with rfl | ⟨q, rfl⟩
    · rfl
    · show (C5).bind _ = _
      rw [Gj]; rfl
  · rw [if_neg hT, if_pos rfl, Gj]; rfl
theorem GD (p0 : Tp) {A : Prop} (_ : A) (p1 : List (Int × Int × Int × Int × Int × Int × (Int × Int × Int × Int))) {B : Prop} (_ : B) : C8 p0 p1 = some true := Gz p0 p1
end Go.Proofs.Ytemacefkdopgaaa
