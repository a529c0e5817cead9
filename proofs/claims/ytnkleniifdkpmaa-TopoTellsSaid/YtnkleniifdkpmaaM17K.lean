/- Layer 17: hops both ways. Conditions: none. -/
import Derived.Test.YtnkleniifdkpmaaM17H
import Derived.Test.YtnkleniifdkpmaaC0
namespace Go.Proofs.Ytnkleniifdkpmaa
set_option linter.unusedVariables false
set_option linter.unusedSimpArgs false
open Go Go.RowKit
/-! ### Hops: both ways, and over a third one -/
theorem Sp.tri {t : Tp} (hok : OkT t) {s r : Int} {h g : List Int} (H : Sp t s h) (G : Bs17 t r g) (h0 : 0 ≤ hv h r) : ∀ (m : Nat) (v : Int), VV t v → hv g v = m → 0 ≤ hv h v ∧ hv h v ≤ hv h r + m
  | 0, v, hV, e => by
    have := G.zero v hV (by simpa using e)
    subst this
    omega
  | m + 1, v, hV, e => by
    obtain ⟨u, hu, e2⟩ := G.dn v hV (by omega)
    have h1 := Sp.tri hok H G h0 m u (hu.V hok).1 (by omega)
    have := H.up u v hu h1.1
    omega
theorem Sp.back {t : Tp} (hok : OkT t) {s r : Int} {h g : List Int} (H : Bs17 t s h) (G : Sp t r g) : ∀ (m : Nat) (v : Int), VV t v → hv h v = m → 0 ≤ hv g v → 0 ≤ hv g s ∧ hv g s ≤ hv g v + m
  | 0, v, hV, e, h0 => by
    have := H.zero v hV (by simpa using e)
    subst this
    omega
  | m + 1, v, hV, e, h0 => by
    obtain ⟨u, hu, e2⟩ := H.dn v hV (by omega)
    have h1 := G.up v u hu.symm h0
    have := Sp.back hok H G m u (hu.V hok).1 (by omega) h1.1
    omega
theorem Sp.swap_le {t : Tp} (hok : OkT t) {s r : Int} {h g : List Int} (H : Sp t s h) (G : Sp t r g) (hs : VV t s) (hr : VV t r) (h0 : 0 ≤ hv h r) : 0 ≤ hv g s ∧ hv g s ≤ hv h r := by
  have hz := G.src hr
  have := Sp.back hok H.toBs17 G (hv h r).toNat r hr (by omega) (by omega)
  omega
theorem Sp.swap {t : Tp} (hok : OkT t) {s r : Int} {h g : List Int} (H : Sp t s h) (G : Sp t r g) (hs : VV t s) (hr : VV t r) : hv h r = hv g s := by
  have a := H.lo r hr
  have b := G.lo s hs
  by_cases c : 0 ≤ hv h r
  · have h1 := Sp.swap_le hok H G hs hr c
    have h2 := Sp.swap_le hok G H hr hs h1.1
    omega
  · by_cases c2 : 0 ≤ hv g s
    · have h2 := Sp.swap_le hok G H hr hs c2
      omega
    · omega
theorem TopoHops_core (p0 : Tp) (p1 p2 p3 : Int) : L17_TopoHops p0 p1 p2 p3 = some true := by
  unfold L17_TopoHops
  rw [awake17, rright17]
  by_cases c0 : L17_small p0 = true
  · rw [c0, if_neg (by decide), Option.bind_some]
    by_cases hok : OkT p0
    · rw [decide_eq_true hok, if_neg (by decide)]
      by_cases d1 : p1 < 0
      · rw [if_pos d1]; rfl
      rw [if_neg d1]
      by_cases d2 : p0.1 ≤ p1
      · rw [if_pos d2]; rfl
      rw [if_neg d2]
      by_cases d3 : p2 < 0
      · rw [if_pos d3]; rfl
      rw [if_neg d3]
      by_cases d4 : p0.1 ≤ p2
      · rw [decide_eq_true d4]; rfl
      rw [decide_eq_false d4, Option.bind_some, if_neg (by decide)]
      have V1 : VV p0 p1 := ⟨by omega, by omega⟩
      have V2 : VV p0 p2 := ⟨by omega, by omega⟩
      obtain ⟨A, eA, HA⟩ := hops_spec hok p1
      obtain ⟨B, eB, HB⟩ := hops_spec hok p2
      have lA := HA.len
      have lB := HB.len
      have hsw := Sp.swap hok HA HB V1 V2
      have hA0 := HA.src V1
      have hB0 := HB.src V2
      have h8 := hok.1.2.1
      rw [eA, Option.bind_some, eB, Option.bind_some, if_neg (by omega), if_neg (by omega), ix_hv V2.1 (by omega), Option.bind_some, ix_hv V1.1 (by omega), Option.bind_some, if_neg (by omega), ix_hv V1.1 (by omega), Option.bind_some, decide_eq_false (by omega), Option.bind_some, if_neg (by decide)]
      have hlp : loopW (L17_TopoHops_l1 p1 p2 A B) 0 = some (.inl ()) := by
        have key : ∀ (d k : Nat), k + d = A.length → loopW (L17_TopoHops_l1 p1 p2 A B) (k : Int) = some (.inl ()) := by
          intro d
          induction d with
          | zero => intro k hk; exact loopW_end (by rw [L17_TopoHops_l1, if_neg (by omega)])
          | succ d ih =>
            intro k hk
            have Vk : VV p0 (k : Int) := ⟨by omega, by omega⟩
            have iA := ix_hv (h := A) Vk.1 (by omega)
            have iB := ix_hv (h := B) Vk.1 (by omega)
            have i2 := ix_hv (h := A) V2.1 (by omega)
            have loA := HA.lo _ Vk
            have loB := HB.lo _ Vk
            have ltA := HA.toBs17.lt hok Vk
            have ltB := HB.toBs17.lt hok Vk
            have lt2 := HA.toBs17.lt hok V2
            have hz : (decide (hv A (k : Int) = 0)) = decide ((k : Int) = p1) := decide_eq_decide.2 ⟨fun e => HA.zero _ Vk e, fun e => by rw [e]; exact hA0⟩
            have hst : L17_TopoHops_l1 p1 p2 A B (k : Int) = some (.inl ((k + 1 : Nat) : Int)) := by
              rw [L17_TopoHops_l1, if_pos (by omega), iA, Option.bind_some, hz, if_neg (fun hh => hh rfl), Option.bind_some, if_neg (by omega), i2, Option.bind_some]
              by_cases c2 : 0 ≤ hv A p2
              · have c3 : 0 ≤ hv B (k : Int) → 0 ≤ hv A (k : Int) ∧ hv A (k : Int) ≤ hv A p2 + hv B (k : Int) := fun hb => by
                  have := Sp.tri hok HA HB.toBs17 c2 (hv B (k : Int)).toNat (k : Int) Vk (by omega)
                  omega
                have c4 : 0 ≤ hv A (k : Int) → 0 ≤ hv B (k : Int) := fun hb => (Sp.tri hok HB HA.toBs17 (by omega) (hv A (k : Int)).toNat (k : Int) Vk (by omega)).1
                have hd : (decide (hv A (k : Int) < 0)) = decide (hv B (k : Int) < 0) := decide_eq_decide.2 ⟨fun e => by
                  by_cases hb : 0 ≤ hv B (k : Int)
                  · have := c3 hb; omega
                  · omega, fun e => by
                  by_cases hb : 0 ≤ hv A (k : Int)
                  · have := c4 hb; omega
                  · omega⟩
                have hle : ¬ w64 (hv A p2 + hv B (k : Int)) < hv A (k : Int) := by
                  rw [w64_id (by omega)]
                  by_cases hb : 0 ≤ hv B (k : Int)
                  · have := c3 hb; omega
                  · by_cases ha : 0 ≤ hv A (k : Int)
                    · have := c4 ha; omega
                    · omega
                rw [if_pos c2, Option.bind_some, iB, Option.bind_some, hd, if_neg (fun hh => hh rfl), Option.bind_some, if_pos c2, Option.bind_some, Option.bind_some, Option.bind_some, decide_eq_false hle, Option.bind_some, if_neg (by decide), w64_id (by omega)]; rfl
              · rw [if_neg c2, Option.bind_some, if_neg c2, Option.bind_some, if_neg (by decide), w64_id (by omega)]; rfl
            rw [loopW_go hst]
            exact ih (k + 1) (by omega)
        exact key A.length 0 (by omega)
      rw [hlp]
      show (if (decide (p3 < 0) || decide ((p0.2.1.length : Int) ≤ p3)) = true then _ else _) = _
      by_cases d5 : p3 < 0 ∨ (p0.2.1.length : Int) ≤ p3
      · rw [if_pos (by simpa using d5)]; rfl
      rw [if_neg (by simpa using d5)]
      obtain ⟨k, rfl⟩ : ∃ k : Nat, p3 = k := ⟨p3.toNat, by omega⟩
      have hk : k < p0.2.1.length := by omega
      have hadj : Adj p0 p0.2.1[k].1 p0.2.1[k].2.2.1 := ⟨_, List.getElem_mem hk, .inl ⟨rfl, rfl⟩⟩
      obtain ⟨Vx, Vy⟩ := hadj.V hok
      rw [ix_nat (List.getElem?_eq_getElem hk), Option.bind_some, ix_hv Vx.1 (by omega), Option.bind_some, Option.bind_some, ix_hv Vy.1 (by omega), Option.bind_some]
      generalize p0.2.1[k] = x at hadj Vx Vy
      have u1 := HA.up _ _ hadj
      have u2 := HA.up _ _ hadj.symm
      have l1 := HA.lo _ Vx
      have l2 := HA.lo _ Vy
      have t1 := HA.toBs17.lt hok Vx
      have t2 := HA.toBs17.lt hok Vy
      have e1 : w64 (hv A x.1 - hv A x.2.2.1) ≤ 1 := by
        rw [w64_id (by omega)]
        by_cases q : 0 ≤ hv A x.2.2.1
        · have := u2 q; omega
        · by_cases q2 : 0 ≤ hv A x.1
          · have := u1 q2; omega
          · omega
      have e2 : w64 (hv A x.2.2.1 - hv A x.1) ≤ 1 := by
        rw [w64_id (by omega)]
        by_cases q : 0 ≤ hv A x.1
        · have := u1 q; omega
        · by_cases q2 : 0 ≤ hv A x.2.2.1
          · have := u2 q2; omega
          · omega
      have e3 : (decide (hv A x.1 < 0)) = decide (hv A x.2.2.1 < 0) := decide_eq_decide.2 ⟨fun e => by
        by_cases q2 : 0 ≤ hv A x.2.2.1
        · have := u2 q2; omega
        · omega, fun e => by
        by_cases q : 0 ≤ hv A x.1
        · have := u1 q; omega
        · omega⟩
      rw [if_pos e1, if_pos e2, if_pos e3]; rfl
    · rw [decide_eq_false hok]; rfl
  · rw [if_pos (by simpa using c0)]; rfl
theorem TopoHops_true (p0 : Tp) {A : Prop} (_ : A) (p1 : Int) {B : Prop} (_ : B) (p2 : Int) {C : Prop} (_ : C) (p3 : Int) {D : Prop} (_ : D) : L17_TopoHops p0 p1 p2 p3 = some true := TopoHops_core p0 p1 p2 p3
end Go.Proofs.Ytnkleniifdkpmaa
