/- Methods over memory that is lent; more operations. Conditions: none. -/
import Derived.Test.YtcnhmbjkippnnaaO8
namespace Go.Proofs.Ytcnhmbjkippnnaa
open Go Go.RowKit

section
variable {P : Program} {X : List Nat} {w0 : World} {M M' : List (Nat × List Value)} {Z Z' Z1 : List RowE} {n : Nat} {ds : List Deferred} {F F' : List (Nat × Value)} {a : Act} {w w' : World}
variable {ops : Array Oper} {Q : Exit → Act → World → Prop} {rest : List Oper} {o : Oper}
variable {dst : Option Tmp} {ty : TypeId} {pos : String} {aft : Array Edge} {g : Option (Nat × Bool)} {v : Value}

theorem y_nilCheck {x : Operand} {ad : Addr} (hF : Fr n ds F a) (hx : opv F x = some (.pointer (some ad))) : Yq P X w0 M Z a ⟨dst, .nilCheck x, ty, pos, aft, g⟩ (.pointer (some ad)) :=
  yl_of fun w _ => by simp [execOp, hF.eval hx]

theorem Stw.one {i : Nat} {r : RowE} (h : Stw X w0 M Z w) (hZ : Z[i]? = some r) : r.v.oneCell' = true := by
  rcases (h.row hZ).2 with ⟨h, _⟩ | ⟨g, cap, cur, h, _⟩ <;> rw [h] <;> rfl
theorem slTo_one {k : Nat} (h : v.oneCell' = true) : (slTo v k).oneCell' = true := by
  cases v <;> first | exact h | rfl

theorem cells_one (h : v.oneCell' = true) : v.cells.toList = [v] := by
  cases v <;> first | rfl | (simp [Value.oneCell'] at h)

/-- A store of one cell whose value is a variable. -/
theorem l_store1 {t : TypeId} {x y : Operand} {b off : Nat} {cs : List Value} (i : Nat) (hF : Fr n ds F a) (hW : Stw X w0 M Z w) (hx : opv F x = some (.pointer (some ⟨b, off, none⟩))) (hy : opv F y = some v) (hM : M[i]? = some (b, cs)) (T : Ty P t false 1)
    (h1 : v.oneCell' = true) (hl : Nat.blt off cs.length = true) (hM' : M.set i (b, cs.set off v) = M')
    (k : ∀ w', Stw X w0 M' Z w' → wpList P ops Q rest a w') : wpList P ops Q (⟨none, .store t x y, ty, pos, aft, none⟩ :: rest) a w :=
  l_store (vs := [v]) i hF hW hx hy hM T (cells_one h1) rfl hl (by simp [h1]) hM' k

theorem l_call_fr {β : Type} {f : FuncId} {xs : List Operand} {vs : List Value} {ts : Array TypeId} {d : Nat} {rv : β → Value} {MM : β → Blks} {ZZ : β → List RowE} (hF : Fr n ds F a) (hP : Has P f) (hx : evs F xs = some vs) (hn : Nat.blt d n = true)
    (c : Calls P f vs.toArray w fun e w' => ∃ x : β, e = .returned (rv x) ∧ Stw X w0 (MM x) (ZZ x) w') (k : ∀ x a' w', Fr n ds ((d, rv x) :: F) a' → Stw X w0 (MM x) (ZZ x) w' → wpList P ops Q rest a' w') :
    wpList P ops Q (⟨some d, .call ⟨.value (.func f), xs.toArray, ts⟩, ty, pos, aft, none⟩ :: rest) a w :=
  l_call hF hP hx hn c (fun v w' a' ⟨x, he, hW⟩ hF => by cases he; exact k x a' w' hF hW) (fun ch w' ⟨x, he, _⟩ => by cases he) (fun w' ⟨x, he, _⟩ => by cases he)
theorem l_call_fr0 {β : Type} {f : FuncId} {xs : List Operand} {vs : List Value} {ts : Array TypeId} {rv : β → Value} {MM : β → Blks} {ZZ : β → List RowE} (hF : Fr n ds F a) (hP : Has P f) (hx : evs F xs = some vs)
    (c : Calls P f vs.toArray w fun e w' => ∃ x : β, e = .returned (rv x) ∧ Stw X w0 (MM x) (ZZ x) w') (k : ∀ x w', Stw X w0 (MM x) (ZZ x) w' → wpList P ops Q rest a w') :
    wpList P ops Q (⟨none, .call ⟨.value (.func f), xs.toArray, ts⟩, ty, pos, aft, none⟩ :: rest) a w :=
  l_call0 hF hP hx c (fun v w' ⟨x, he, hW⟩ => k x w' hW) (fun ch w' ⟨x, he, _⟩ => by cases he) (fun w' ⟨x, he, _⟩ => by cases he)
theorem l_call_fp {f : FuncId} {xs : List Operand} {vs : List Value} {ts : Array TypeId} {ch : List PanicEntry} (hF : Fr n ds F a) (hP : Has P f) (hx : evs F xs = some vs)
    (c : Calls P f vs.toArray w fun e w' => e = .panicked ch ∧ Stw X w0 M' Z' w') (h : ∀ w', Stw X w0 M' Z' w' → Q (.panic ch) a w') :
    wpList P ops Q (⟨dst, .call ⟨.value (.func f), xs.toArray, ts⟩, ty, pos, aft, none⟩ :: rest) a w := by
  unfold wpList
  rw [if_pos (wanted_none rfl)]
  refine .inl ?_
  unfold Oper.wp
  rw [run_call hF hP hx]
  refine c.mono fun e w' ⟨he, hb⟩ => ?_
  subst he
  exact h w' hb

/-- What a callee has made of its own joins what is known. -/
theorem Stw.join {M2 : Blks} {Z2 : List RowE} (h : Stw X w0 M Z w) (h2 : Stw [] w M2 Z2 w') : Stw X w0 (M2 ++ M) (Z2 ++ Z) w' := by
  have hb := h.below h2.frm.below
  have hlt : ∀ g ∈ blks M Z, g < w.heap.size := fun g hg => h.mem.lt_all hg
  have hge : ∀ g ∈ blks M2 Z2, w.heap.size ≤ g := fun g hg => (h2.mem.own g hg).elim (fun h => by simp at h) id
  have hp : (blks (M2 ++ M) (Z2 ++ Z)).Perm (blks M2 Z2 ++ blks M Z) := by
    unfold blks
    rw [List.map_append, List.flatMap_append]
    simp only [List.append_assoc]
    refine List.Perm.append_left _ ?_
    rw [← List.append_assoc, ← List.append_assoc]
    exact List.Perm.append_right _ List.perm_append_comm
  refine ⟨hb.frm, ⟨fun g hg => ?_, fun p hp => ?_, fun r hr => ?_, hp.nodup_iff.2 (List.nodup_append.2 ⟨h2.mem.nodup, h.mem.nodup, fun a ha b hb e => ?_⟩)⟩⟩
  · rcases List.mem_append.1 (hp.mem_iff.1 hg) with hg | hg
    · exact .inr (Nat.le_trans h.frm.size (hge g hg))
    · exact h.mem.own g hg
  · rcases List.mem_append.1 hp with hp | hp
    · exact h2.mem.at_ p hp
    · exact hb.mem.at_ p hp
  · rcases List.mem_append.1 hr with hr | hr
    · exact h2.mem.rows r hr
    · exact hb.mem.rows r hr
  · subst e
    have h3 := hlt a hb
    have h4 := hge a ha
    omega

/-- A call of a function that hands back memory of its own. -/
theorem l_call_new {β : Type} {f : FuncId} {xs : List Operand} {vs : List Value} {ts : Array TypeId} {d : Nat} {rv : β → Value} {MM : β → Blks} {ZZ : β → List RowE} (hF : Fr n ds F a) (hW : Stw X w0 M Z w) (hP : Has P f) (hx : evs F xs = some vs) (hn : Nat.blt d n = true)
    (c : Calls P f vs.toArray w fun e w' => ∃ x : β, e = .returned (rv x) ∧ Stw [] w (MM x) (ZZ x) w') (k : ∀ x a' w', Fr n ds ((d, rv x) :: F) a' → Stw X w0 (MM x ++ M) (ZZ x ++ Z) w' → wpList P ops Q rest a' w') :
    wpList P ops Q (⟨some d, .call ⟨.value (.func f), xs.toArray, ts⟩, ty, pos, aft, none⟩ :: rest) a w :=
  l_call hF hP hx hn c (fun v w' a' ⟨x, he, hW2⟩ hF => by cases he; exact k x a' w' hF (hW.join hW2)) (fun ch w' ⟨x, he, _⟩ => by cases he) (fun w' ⟨x, he, _⟩ => by cases he)
/-- A slice literal that stands in an own block can be read. -/
theorem Stw.rdM {α : Type} {enc : α → List Value} {l : List α} {sz m b : Nat} {cs : List Value} (h : Stw X w0 M Z w) (j : Nat) (he : ∀ x, (enc x).length = sz) (hM : M[j]? = some (b, cs)) (hc : cs = flat enc l) (hm : m = l.length) : RdE w (.slice (some ⟨b, 0, none⟩) m m) sz enc l := by
  subst hm hc
  refine ⟨he, flat_len he l, .inr ⟨b, 0, l.length, rfl, Nat.le_refl _, fun j u hu => ?_⟩⟩
  rw [h.mem.cell hM, Nat.zero_add]; exact hu
end
end Go.Proofs.Ytcnhmbjkippnnaa
