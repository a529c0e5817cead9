/- Layer 19: the statements. Conditions: none. -/
import Derived.Test.YtbogijdfacoccaabM19T
import Derived.Test.YtbogijdfacoccaabEV
namespace Go.Proofs.Ytbogijdfacoccaa
set_option linter.unusedVariables false
set_option linter.unusedSimpArgs false
open Go Go.RowKit
def Pt (t : Tp) : Int → List Int → Int → Prop
  | u, [], v => u = v
  | u, k :: l, v => ∃ w, E t u w k ∧ Pt t w l v
section
variable {t : Tp} {L c : List Nat} {s : Int}
theorem Pt.snoc : ∀ {l : List Int} {u v w k : Int}, Pt t u l v → E t v w k → Pt t u (l ++ [k]) w
  | [], u, v, w, k, h, he => by have : u = v := h; subst this; exact ⟨w, he, rfl⟩
  | _ :: l, u, v, w, k, ⟨x, hx, h⟩, he => ⟨x, hx, Pt.snoc h he⟩
theorem Pt.inL (hok : D5 t) (hw : G9 t L) : ∀ {l : List Int} {u v : Int}, Pt t u l v → ∀ i ∈ l, In L i
  | [], _, _, _ => by simp
  | k :: l, u, v, ⟨x, hx, h⟩ => fun i hi => by
    rcases List.mem_cons.1 hi with rfl | hi
    · exact (hw.cost hok hx).1
    · exact Pt.inL hok hw h i hi
theorem Pt.le (hok : D5 t) (hw : G9 t L) (H : Sol t L s c) : ∀ {l : List Int} {u : Int}, Pt t u l s → wg c u ≤ NF L l ∧ NF L l ≤ CU
  | [], u, h => by
    have : u = s := h
    subst this
    rw [H.src]; exact ⟨Nat.zero_le _, Nat.zero_le _⟩
  | k :: l, u, ⟨x, hx, h⟩ => by
    obtain ⟨h1, h2⟩ := Pt.le hok hw H h
    obtain ⟨_, hcost⟩ := hw.cost hok hx
    exact ⟨Nat.le_trans (H.edge u x k hx) (Hw hcost h1 h2), L9 hcost h2⟩
theorem Pt.val (hok : D5 t) (hw : G9 t L) {l : List Int} {u v : Int} (h : Pt t u l v) : Qh L l = NF L l := if_pos (Pt.inL hok hw h)
def Om (L : List Nat) (l : List Int) (x : Nat) : Nat := l.foldr (fun i c => Fu (wg L i) c) x
theorem NR (l : List Int) (k : Int) (x : Nat) : Om L (l ++ [k]) x = Om L l (Fu (wg L k) x) := by unfold Om; rw [List.foldr_append]; rfl
end
theorem PY {t : Tp} (hok : D5 t) {u : Int} {x : Sd} (hx : FP t u x) : ∃ b, D0 t u x.1 = some (x.2.1, b, x.2.2, true) := by
  obtain ⟨R, r1, _, r3⟩ := MH hok u x.1
  obtain ⟨e1, e2⟩ := r3 x hx rfl
  have a : x.2.1 = R.1 := by rw [e2]
  have b : x.2.2 = R.2.2.1 := by rw [e2]
  exact ⟨R.2.1, by rw [r1, a, b, ← e1]⟩
theorem Jb (t : Tp) (L : List Nat) (hL : ∀ x ∈ L, Gi x) (hi fr : Int) : DK t (nz L) hi fr = some true := by
  unfold DK
  by_cases sm : EG t (nz L) = true
  · rw [sm, if_neg (by decide)]
    have hsm : t.2.1.length ≤ 30 ∧ t.2.2.length ≤ 12 ∧ L.length ≤ 30 := by
      unfold EG at sm
      rw [G0] at sm
      simp only [Bool.and_eq_true, decide_eq_true_eq] at sm
      omega
    have hll : L.length ≤ 1000000 := by omega
    rw [LA hll, Option.bind_some]
    by_cases ok : D5 t ∧ G9 t L
    · rw [decide_eq_true ok, if_neg (by decide)]
      by_cases a1 : hi < 0
      · rw [if_pos a1, Option.bind_some, if_pos rfl, Fs]; rfl
      rw [if_neg a1]
      by_cases a2 : (t.2.2.length : Int) ≤ hi
      · rw [if_pos a2, Option.bind_some, if_pos rfl, Fs]; rfl
      rw [if_neg a2]
      by_cases a3 : fr < 0
      · rw [if_pos a3, Option.bind_some, if_pos rfl, Fs]; rfl
      rw [if_neg a3]
      by_cases a4 : t.1 ≤ fr
      · rw [decide_eq_true a4, Option.bind_some, if_pos rfl, Fs]; rfl
      rw [decide_eq_false a4, Option.bind_some, if_neg (by decide)]
      obtain ⟨hok, hw⟩ := ok
      obtain ⟨i, rfl⟩ : ∃ i : Nat, hi = (i : Int) := ⟨hi.toNat, by omega⟩
      have hi' : i < t.2.2.length := by omega
      have hpo := hok.2.2 _ (List.getElem_mem hi')
      have hg := Bl (List.getElem?_eq_getElem hi')
      have hgV : VV t t.2.2[i].1 := ⟨hpo.1, hpo.2.1⟩
      obtain ⟨c, r, h, H⟩ := Q4 (L := L) (g := t.2.2[i]) hok hw hgV
      have hf : VV t fr := ⟨by omega, by omega⟩
      have hpl := Px (L := L) (c := c) (h := h) (g := t.2.2[i]) hok
      have hcl := H.best.len
      have h8 := hok.1.2.1
      have ip : ∀ u, VV t u → ix (Ge t L c h t.2.2[i]) u = some (FW t L c h t.2.2[i] u) := fun u hu => by
        rw [GK hu.1 (by rw [hpl]; exact hu.2), QI hu]
      have icf : In c fr := ⟨hf.1, by rw [hcl]; exact hf.2⟩
      rw [PE hll, Option.bind_some, My hw, (Pb hok hw hi' H).1, Option.bind_some, hg, Option.bind_some, H.pc, Option.bind_some, if_neg (by simp; omega), ip fr hf, Option.bind_some]
      rcases H.port hok hpo.2.2.1 hf with ⟨e1, e2, e3⟩ | ⟨e1, e2⟩
      · have hinf : wg c fr = CU := Classical.byContradiction fun q => e3 (H.far hok hw _ fr rfl hf q)
        rw [if_pos e1, MJ, decide_eq_true icf, hinf, MP (Nat.le_refl _), Option.bind_some]
        rw [if_pos (by decide), Fs]; rfl
      · rw [if_neg (by omega)]
        have key : ∀ (m : Nat) (u : Int) (way : List Int), VV t u → hv h u = m → (way.length : Int) + m = hv h fr → Pt t fr way u → wg c fr = Om L way (wg c u) →
            ∃ W : List Int, AF (B6 t L (Ge t L c h t.2.2[i], 0) t.2.2[i]) (u, way, (way.length : Int)) = some (.inl W) ∧ (W.length : Int) = hv h fr ∧ Pt t fr W t.2.2[i].1 ∧ wg c fr = Om L W 0 := by
          intro m
          induction m with
          | zero =>
            intro u way hu hm hl hp hs
            have hu0 := H.sp.zero u hu (by omega)
            subst hu0
            refine ⟨way, Bd ?_, by omega, hp, by rw [hs, H.best.src]⟩
            rw [B6, if_neg (by simp)]
          | succ m ih =>
            intro u way hu hm hl hp hs
            have hne : u ≠ t.2.2[i].1 := fun e => by
              have := H.sp.src hgV
              rw [e] at hm; omega
            obtain ⟨x, hx, q1, q2, q3, q4⟩ := H.next hok hu hne (by omega)
            obtain ⟨b, hb⟩ := PY hok hx
            have he : E t u x.2.1 x.2.2 := ⟨x.1, hx⟩
            have hxV := (he.V hok).2.1
            have hlt := H.sp.toBs17.lt hok (fun h => h.V hok) hf
            have hst : B6 t L (Ge t L c h t.2.2[i], 0) t.2.2[i] (u, way, (way.length : Int)) = some (.inl (x.2.1, way ++ [x.2.2], (((way ++ [x.2.2]).length : Nat) : Int))) := by
              rw [B6, if_pos hne, if_neg (by omega), ip u hu, Option.bind_some, q3, hb, Option.bind_some, if_neg (show ¬ (!true) = true by decide), MJ, decide_eq_true (hw.cost hok he).1, Bool.true_and, q2.1, Option.bind_some, Option.bind_some, if_neg (show ¬ (!true) = true by decide), DH (by simp; omega), Option.bind_some, AY (by omega)]
              simp
            rw [CQ hst]
            refine ih x.2.1 (way ++ [x.2.2]) hxV (by omega) (by simp; omega) (hp.snoc he) ?_
            rw [NR, q2.2.2]; exact hs
        obtain ⟨W, w1, w2, w3, w4⟩ := key (hv h fr).toNat fr [] hf (by omega) (by simp; omega) rfl rfl
        have hlt := H.sp.toBs17.lt hok (fun h => h.V hok) hf
        have w1' : AF (B6 t L (Ge t L c h t.2.2[i], 0) t.2.2[i]) (fr, [], 0) = some (.inl W) := w1
        have hwk : DX L W = some (wg c fr) := by
          rw [PC L (by omega), w3.val hok hw]; exact congrArg some w4.symm
        rw [w1']
        show Option.bind (Option.bind (DX L W) _) _ = _
        rw [hwk, Option.bind_some, Gd icf, Option.bind_some, KZ (H.best.bd fr hf) (H.best.bd fr hf), if_pos (decide_eq_true rfl), if_pos (by omega), ip _ hgV, Option.bind_some, Option.bind_some, if_pos (show FW t L c h t.2.2[i] t.2.2[i].1 = t.2.2[i].2 from if_pos rfl), Fs]; rfl
    · rw [decide_eq_false ok, if_pos (by decide), Option.bind_some, if_pos rfl, Fs]; rfl
  · rw [if_pos (by simpa using sm), Option.bind_some, if_pos rfl, Fs]; rfl
theorem Jl (p0 : Tp) {A : Prop} (_ : A) (p1 : List Int) (ok1 : Qc (fun n => (Lit.int .u64 n).wf = true) p1) (p2 : Int) {B : Prop} (_ : B) (p3 : Int) {C : Prop} (_ : C) : DK p0 p1 p2 p3 = some true := by
  obtain ⟨L, rfl, hL⟩ := Ry ok1
  exact Jb p0 L hL p2 p3
end Go.Proofs.Ytbogijdfacoccaa
