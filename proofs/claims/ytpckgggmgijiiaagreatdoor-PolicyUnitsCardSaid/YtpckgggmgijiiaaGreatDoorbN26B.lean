/- Layer 27: how great, how deep, which may be. Conditions: none. -/
import Derived.Test.YtpckgggmgijiiaaGreatDoorbN26
namespace Go.Proofs.YtpckgggmgijiiaaGreatDoor
set_option linter.unusedVariables false
set_option linter.unusedSimpArgs false
open Go Go.RowKit
def th : Tr34 → Tr24
  | .mk k f v l => .mk k f v (l.map th)
theorem V0 (t : Tr34) : (th t).un = (t.un.1, t.un.2.1, t.un.2.2.1, t.un.2.2.2.map th) := by cases t; rw [th]; rfl
theorem UG (t : Tr34) : th t = Tr24.of (t.un.1, t.un.2.1, t.un.2.2.1, t.un.2.2.2.map th) := by cases t; rw [th]; rfl
theorem QR : ∀ (n : Nat) (t : Tr34), SizeOf.sizeOf t < n → t.cnt ≤ 2097152 → CE n t = some (th t)
  | 0, t, h, _ => absurd h (Nat.not_lt_zero _)
  | n + 1, t, h, hc => by
    have hl := Y3 t
    show Dh (CE n) t = _
    unfold Dh
    obtain ⟨o, h1, h2⟩ := I0 t.un.2.2.2.length (fun (o : List Tr24) (i : Nat) => ((i : Int), o)) (Cv (CE n) t) id (fun o i => o = (t.un.2.2.2.take i).map th)
      (fun o i hi ho => by
        have hm := List.getElem_mem hi
        have hx := QR n t.un.2.2.2[i] (by have := TP hm; omega) (Nat.le_trans (YG hm) hc)
        refine ⟨o ++ [th t.un.2.2.2[i]], ?_, by rw [ho, List.take_succ_eq_append_getElem hi, List.map_append]; rfl⟩
        rw [Cv, if_pos (by omega), Dv (List.getElem?_eq_getElem hi), Option.bind_some, hx, Option.bind_some, Ni (by rw [ho]; simp; omega), Option.bind_some, AF (by omega)]; rfl)
      (fun o _ => by rw [Cv, if_neg (by omega)]; rfl) [] rfl
    rw [List.take_length] at h1
    have h2' : AW (Cv (CE n) t) (0, []) = some o := h2
    rw [h2', h1, Option.bind_some, ← UG]
theorem SA {t : Tr34} (hc : t.cnt ≤ 2097152) : Jb t = some (th t) := Dd (g := fun n => CE n t) (fun n r h => Hp n t r h) (QR (SizeOf.sizeOf t + 1) t (by omega) hc)
theorem Vp (f : Int) : 0 ≤ DQ f ∧ DQ f ≤ 255 := by
  unfold DQ Lk
  split
  · omega
  · split
    · omega
    · split <;> omega
abbrev KZ (k f v : Int) (n : Nat) : Prop := 1 ≤ k ∧ k ≤ 6 ∧ (k ≠ 3 → f = 0 ∧ v = 0) ∧ (k = 3 → 0 ≤ f ∧ f ≤ 5 ∧ 0 ≤ v ∧ v ≤ DQ f) ∧ (k ≤ 3 → n = 0) ∧ (k = 4 → n = 1) ∧ (5 ≤ k → 2 ≤ n ∧ n ≤ 8)
def Ij : Tr34 → Bool
  | .mk k f v l => decide (KZ k f v l.length) && (l.map Ij).all id
theorem QU (t : Tr34) : Ij t = true ↔ KZ t.un.1 t.un.2.1 t.un.2.2.1 t.un.2.2.2.length ∧ ∀ x ∈ t.un.2.2.2, Ij x = true := by
  cases t with
  | mk k f v l =>
    rw [Ij, Bool.and_eq_true, decide_eq_true_eq, List.all_map, List.all_eq_true]; rfl
theorem Rk (t : Tr24) : Ij (mi t) = true ↔ KZ t.un.1 t.un.2.1 t.un.2.2.1 t.un.2.2.2.length ∧ ∀ x ∈ t.un.2.2.2, Ij (mi x) = true := by
  rw [QU, Qm]
  show KZ _ _ _ (t.un.2.2.2.map mi).length ∧ _ ↔ _
  rw [List.length_map]
  refine and_congr_right fun _ => ⟨fun h x hx => h _ (List.mem_map.2 ⟨x, hx, rfl⟩), fun h x hx => ?_⟩
  obtain ⟨y, hy, rfl⟩ := List.mem_map.1 hx
  exact h y hy
end Go.Proofs.YtpckgggmgijiiaaGreatDoor
