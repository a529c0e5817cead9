/- Layer 19: how far. Conditions: none. -/
import Derived.Test.YtieebnllkjmjiaabM19C
namespace Go.Proofs.Ytieebnllkjmjiaa
set_option linter.unusedVariables false
set_option linter.unusedSimpArgs false
open Go Go.RowKit
structure Bs17 (t : Tp) (A : Int → Int → Prop) (s : Int) (h : List Int) : Prop where
  len : (h.length : Int) = t.1
  src : VV t s → hv h s = 0
  lo : ∀ v, VV t v → -1 ≤ hv h v
  zero : ∀ v, VV t v → hv h v = 0 → v = s
  dn : ∀ v, VV t v → 0 < hv h v → ∃ u, A u v ∧ hv h u = hv h v - 1
structure Sp (t : Tp) (A : Int → Int → Prop) (s : Int) (h : List Int) : Prop extends Bs17 t A s h where
  up : ∀ u v, A u v → 0 ≤ hv h u → 0 ≤ hv h v ∧ hv h v ≤ hv h u + 1
theorem Bs17.set {t : Tp} (hok : C6 t) {A : Int → Int → Prop} (hA : ∀ {u v : Int}, A u v → VV t u ∧ VV t v) {s : Int} {h : List Int} (H : Bs17 t A s h) {u v : Int} (ha : A u v) (hu : 0 ≤ hv h u) (hv0 : hv h v < 0) : Bs17 t A s (AE h v (hv h u + 1)) := by
  obtain ⟨Vu, Vv⟩ := hA ha
  have hl := H.len
  have g : ∀ w, VV t w → hv (AE h v (hv h u + 1)) w = if w = v then hv h u + 1 else hv h w := fun w hw => Hc Vv.1 (by omega) hw.1
  refine ⟨by rw [Ig]; exact hl, fun hs => ?_, fun w hw => ?_, fun w hw hz => ?_, fun w hw hp => ?_⟩
  · have := H.src hs
    rw [g s hs, if_neg (fun e => by subst e; omega)]; exact this
  · rw [g w hw]
    have := H.lo w hw
    split <;> omega
  · rw [g w hw] at hz
    by_cases c : w = v
    · rw [if_pos c] at hz; omega
    · rw [if_neg c] at hz; exact H.zero w hw hz
  · rw [g w hw] at hp ⊢
    by_cases c : w = v
    · subst c
      rw [if_pos rfl]
      exact ⟨u, ha, by rw [g u Vu, if_neg (fun e => by subst e; omega)]; omega⟩
    · rw [if_neg c] at hp ⊢
      obtain ⟨z, hz, e⟩ := H.dn w hw hp
      exact ⟨z, hz, by rw [g z (hA hz).1, if_neg (fun e2 => by subst e2; omega)]; exact e⟩
theorem Sp.le {t : Tp} (hok : C6 t) {A : Int → Int → Prop} (hA : ∀ {u v : Int}, A u v → VV t u ∧ VV t v) {s : Int} {h g : List Int} (H : Bs17 t A s h) (G : Sp t A s g) : ∀ (m : Nat) (v : Int), VV t v → hv h v = m → 0 ≤ hv g v ∧ hv g v ≤ m
  | 0, v, hV, e => by
    have := H.zero v hV (by simpa using e)
    subst this
    have := G.src hV
    omega
  | m + 1, v, hV, e => by
    obtain ⟨u, hu, e2⟩ := H.dn v hV (by omega)
    have h1 := Sp.le hok hA H G m u (hA hu).1 (by omega)
    have := G.up u v hu h1.1
    omega
theorem Sp.uniq {t : Tp} (hok : C6 t) {A : Int → Int → Prop} (hA : ∀ {u v : Int}, A u v → VV t u ∧ VV t v) {s : Int} {h g : List Int} (H : Sp t A s h) (G : Sp t A s g) : h = g := by
  have hl := H.len
  have gl := G.len
  refine P3 (by omega) (fun v h0 h1 => ?_)
  have hV : VV t v := ⟨h0, by omega⟩
  have a := H.lo v hV
  have b := G.lo v hV
  by_cases c : 0 ≤ hv h v
  · have h2 := Sp.le hok hA H.toBs17 G (hv h v).toNat v hV (by omega)
    have h3 := Sp.le hok hA G.toBs17 H (hv g v).toNat v hV (by omega)
    omega
  · by_cases c2 : 0 ≤ hv g v
    · have h3 := Sp.le hok hA G.toBs17 H (hv g v).toNat v hV (by omega)
      omega
    · omega
theorem Bs17.chain {t : Tp} (hok : C6 t) {A : Int → Int → Prop} (hA : ∀ {u v : Int}, A u v → VV t u ∧ VV t v) {s : Int} {h : List Int} (H : Bs17 t A s h) : ∀ (m : Nat) (v : Int), VV t v → hv h v = m → ∃ l : List Int, l.length = m + 1 ∧ l.Nodup ∧ ∀ x ∈ l, VV t x ∧ hv h x ≤ m
  | 0, v, hV, e => ⟨[v], rfl, by simp, fun x hx => by rw [List.mem_singleton.1 hx]; exact ⟨hV, by omega⟩⟩
  | m + 1, v, hV, e => by
    obtain ⟨u, hu, e2⟩ := H.dn v hV (by omega)
    obtain ⟨l, l1, l2, l3⟩ := H.chain hok hA m u (hA hu).1 (by omega)
    refine ⟨v :: l, by simp [l1], List.nodup_cons.2 ⟨fun hm => by have := (l3 v hm).2; omega, l2⟩, fun x hx => ?_⟩
    rcases List.mem_cons.1 hx with rfl | hx
    · exact ⟨hV, by omega⟩
    · have := l3 x hx
      exact ⟨this.1, by omega⟩
theorem Bs17.lt {t : Tp} (hok : C6 t) {A : Int → Int → Prop} (hA : ∀ {u v : Int}, A u v → VV t u ∧ VV t v) {s : Int} {h : List Int} (H : Bs17 t A s h) {v : Int} (hV : VV t v) : hv h v < t.1 := by
  by_cases c : 0 ≤ hv h v
  · obtain ⟨l, l1, l2, l3⟩ := H.chain hok hA (hv h v).toNat v hV (by omega)
    have := Cy t.1.toNat l l2 (fun x hx => by have := (l3 x hx).1; omega)
    have := hok.1.1
    omega
  · have := hok.1.1
    omega
structure Q17 (t : Tp) (A : Int → Int → Prop) (s a d : Int) (P : List Int) (h : List Int) (Q : List Int) : Prop extends Bs17 t A s h where
  qV : ∀ q ∈ P ++ Q, VV t q ∧ 0 ≤ hv h q
  nd : (P ++ Q).Nodup
  mono : Q.Pairwise fun x y => hv h x ≤ hv h y
  hd : ∀ q ∈ Q, d ≤ hv h q
  top : ∀ v, VV t v → hv h v ≤ d + 1
  nn : 0 ≤ d
  up : ∀ u v, A u v → 0 ≤ hv h u → u ∉ Q → u ≠ a → 0 ≤ hv h v ∧ hv h v ≤ hv h u + 1
theorem Q17.push {t : Tp} (hok : C6 t) {A : Int → Int → Prop} (hA : ∀ {u v : Int}, A u v → VV t u ∧ VV t v) {s a d : Int} {P h Q : List Int} (H : Q17 t A s a d P h Q) {v : Int} (ha : A a v) (hd : hv h a = d) (hv0 : hv h v < 0) : Q17 t A s a d P (AE h v (d + 1)) (Q ++ [v]) ∧ hv (AE h v (d + 1)) a = d ∧ ∀ w, VV t w → 0 ≤ hv h w → 0 ≤ hv (AE h v (d + 1)) w := by
  obtain ⟨Va, Vv⟩ := hA ha
  have hl := H.len
  have hnn := H.nn
  have g : ∀ w, VV t w → hv (AE h v (d + 1)) w = if w = v then d + 1 else hv h w := fun w hw => Hc Vv.1 (by omega) hw.1
  have hB : Bs17 t A s (AE h v (d + 1)) := by
    have := H.toBs17.set hok hA ha (by omega) hv0
    rwa [hd] at this
  have hq : ∀ q ∈ P ++ Q, hv (AE h v (d + 1)) q = hv h q := fun q hq => by
    have := H.qV q hq
    rw [g q this.1, if_neg (fun e => by subst e; omega)]
  have hvn : v ∉ P ++ Q := fun hm => by have := H.qV v hm; omega
  refine ⟨{ toBs17 := hB, qV := fun q hm => ?_, nd := ?_, mono := ?_, hd := fun q hm => ?_, top := fun w hw => ?_, nn := hnn, up := fun u w hu h0 hn hne => ?_ }, by rw [g a Va, if_neg (fun e => by subst e; omega)]; exact hd, fun w hw h0 => ?_⟩
  · rw [← List.append_assoc] at hm
    rcases List.mem_append.1 hm with hm | hm
    · rw [hq q hm]; exact H.qV q hm
    · rw [List.mem_singleton.1 hm, g v Vv, if_pos rfl]; exact ⟨Vv, by omega⟩
  · rw [← List.append_assoc, List.nodup_append]
    exact ⟨H.nd, by simp, fun x hx y hy => by rw [List.mem_singleton.1 hy]; intro e; subst e; exact hvn hx⟩
  · rw [List.pairwise_append]
    refine ⟨H.mono.imp_of_mem fun {x y} hx hy hxy => by rw [hq x (List.mem_append_right _ hx), hq y (List.mem_append_right _ hy)]; exact hxy, by simp, fun x hx y hy => ?_⟩
    rw [List.mem_singleton.1 hy, hq x (List.mem_append_right _ hx), g v Vv, if_pos rfl]
    exact H.top x (H.qV x (List.mem_append_right _ hx)).1
  · rcases List.mem_append.1 hm with hm | hm
    · rw [hq q (List.mem_append_right _ hm)]; exact H.hd q hm
    · rw [List.mem_singleton.1 hm, g v Vv, if_pos rfl]; omega
  · rw [g w hw]
    have := H.top w hw
    split <;> omega
  · obtain ⟨Vu, Vw⟩ := hA hu
    have hnu : u ≠ v := fun e => hn (by rw [e]; simp)
    rw [g u Vu, if_neg hnu] at h0 ⊢
    have := H.up u w hu h0 (fun hm => hn (List.mem_append_left _ hm)) hne
    rw [g w Vw, if_neg (fun e => by subst e; omega)]
    exact this
  · rw [g w hw]
    split <;> omega
structure R17 (t : Tp) (A : Int → Int → Prop) (s k : Int) (h : List Int) : Prop extends Bs17 t A s h where
  top : ∀ v, VV t v → hv h v ≤ k
  up : ∀ u v, A u v → 0 ≤ hv h u → hv h u < k → 0 ≤ hv h v ∧ hv h v ≤ hv h u + 1
structure I17 (t : Tp) (A : Int → Int → Prop) (s k : Int) (done : List (Int × Int)) (h : List Int) : Prop extends Bs17 t A s h where
  top : ∀ v, VV t v → hv h v ≤ k + 1
  nn : 0 ≤ k
  up : ∀ u v, A u v → 0 ≤ hv h u → hv h u < k → 0 ≤ hv h v ∧ hv h v ≤ hv h u + 1
  dd : ∀ q ∈ done, A q.1 q.2 ∧ (hv h q.1 = k → 0 ≤ hv h q.2)
theorem I17.put {t : Tp} (hok : C6 t) {A : Int → Int → Prop} (hA : ∀ {u v : Int}, A u v → VV t u ∧ VV t v) {s k : Int} {done : List (Int × Int)} {h : List Int} (H : I17 t A s k done h) {u v : Int} (ha : A u v) (hu : hv h u = k) (hv0 : hv h v < 0) : I17 t A s k done (AE h v (k + 1)) := by
  obtain ⟨Vu, Vv⟩ := hA ha
  have hl := H.len
  have hnn := H.nn
  have g : ∀ w, VV t w → hv (AE h v (k + 1)) w = if w = v then k + 1 else hv h w := fun w hw => Hc Vv.1 (by omega) hw.1
  have hB : Bs17 t A s (AE h v (k + 1)) := by
    have := H.toBs17.set hok hA ha (by omega) hv0
    rwa [hu] at this
  have hd2 : ∀ a b, VV t a → VV t b → (hv h a = k → 0 ≤ hv h b) → hv (AE h v (k + 1)) a = k → 0 ≤ hv (AE h v (k + 1)) b := fun a b Va Vb hab he => by
    rw [g a Va] at he
    rw [g b Vb]
    by_cases c : a = v
    · rw [if_pos c] at he; omega
    · rw [if_neg c] at he
      have := hab he
      split <;> omega
  refine { toBs17 := hB, top := fun w hw => ?_, nn := hnn, up := fun a b hab h0 hlt => ?_, dd := fun x hx => ?_ }
  · rw [g w hw]
    have := H.top w hw
    split <;> omega
  · obtain ⟨Va, Vb⟩ := hA hab
    rw [g a Va] at h0 hlt ⊢
    by_cases c : a = v
    · rw [if_pos c] at hlt; omega
    · rw [if_neg c] at h0 hlt ⊢
      have := H.up a b hab h0 hlt
      rw [g b Vb, if_neg (fun e => by subst e; omega)]
      exact this
  · obtain ⟨hadj, hx2⟩ := H.dd x hx
    obtain ⟨Va, Vb⟩ := hA hadj
    exact ⟨hadj, hd2 _ _ Va Vb hx2⟩
end Go.Proofs.Ytieebnllkjmjiaa
