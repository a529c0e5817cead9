/- Slices that are read; elements by an encoding; loops over what is known. Conditions: none. -/
import Derived.Test.YtcnhmbjkippnnaaO6
namespace Go.Proofs.Ytcnhmbjkippnnaa
open Go Go.RowKit

def vblk : Value → Nat | .slice (some a) _ _ => a.block | _ => 0
def voff : Value → Nat | .slice (some a) _ _ => a.off | _ => 0
def slTo (v : Value) (k : Nat) : Value := match v with | .slice a _ c => .slice a k c | v => v

/-- A slice that can be read: n elements of sz cells each, xs. -/
def Rd (w : World) (v : Value) (sz n : Nat) (xs : List Value) : Prop :=
  xs.length = n * sz ∧ ((v = .slice none 0 0 ∧ n = 0) ∨ ∃ b off cap, v = .slice (some ⟨b, off, none⟩) n cap ∧ n ≤ cap ∧ ∀ j u, xs[j]? = some u → w.cell? ⟨b, off + j, none⟩ = some u)

def flat {α : Type} (enc : α → List Value) (l : List α) : List Value := l.flatMap enc
theorem flat_len {α : Type} {enc : α → List Value} {sz : Nat} (he : ∀ x, (enc x).length = sz) : ∀ l : List α, (flat enc l).length = l.length * sz
  | [] => by simp [flat]
  | x :: l => by
    have := flat_len he l
    simp only [flat, List.flatMap_cons, List.length_append, List.length_cons] at this ⊢
    rw [this, he, Nat.add_mul]; omega
theorem flat_get {α : Type} {enc : α → List Value} {sz : Nat} (he : ∀ x, (enc x).length = sz) (d : α) : ∀ (l : List α) (k j : Nat), k < l.length → j < sz → (flat enc l)[k * sz + j]? = (enc (l.getD k d))[j]?
  | [], k, j, hk, _ => by simp at hk
  | x :: l, 0, j, _, hj => by
    simp only [flat, List.flatMap_cons, Nat.zero_mul, Nat.zero_add]
    rw [List.getElem?_append_left (by rw [he]; exact hj)]
    rfl
  | x :: l, k + 1, j, hk, hj => by
    have ih := flat_get he d l k j (by simpa using hk) hj
    simp only [flat, List.flatMap_cons] at ih ⊢
    rw [List.getElem?_append_right (by rw [he, Nat.add_mul]; omega), he, show (k + 1) * sz + j - sz = k * sz + j by rw [Nat.add_mul]; omega, ih]
    rfl
theorem flat_snoc {α : Type} (enc : α → List Value) (l : List α) (x : α) : flat enc l ++ enc x = flat enc (l ++ [x]) := by simp [flat]
theorem flat_append {α : Type} (enc : α → List Value) (l m : List α) : flat enc l ++ flat enc m = flat enc (l ++ m) := by simp [flat]
theorem flat_take {α : Type} {enc : α → List Value} {sz : Nat} (he : ∀ x, (enc x).length = sz) : ∀ (l : List α) (k : Nat), (flat enc l).take (k * sz) = flat enc (l.take k)
  | [], k => by simp [flat]
  | x :: l, 0 => by simp [flat]
  | x :: l, k + 1 => by
    have ih := flat_take he l k
    simp only [flat, List.flatMap_cons, List.take_succ_cons] at ih ⊢
    rw [List.take_append, he, show (k + 1) * sz - sz = k * sz by rw [Nat.add_mul]; omega, ih, List.take_of_length_le (by rw [he, Nat.add_mul]; omega)]

/-- The elements of l can be read at v. -/
structure RdE {α : Type} (w : World) (v : Value) (sz : Nat) (enc : α → List Value) (l : List α) : Prop where
  len : ∀ x, (enc x).length = sz
  rd : Rd w v sz l.length (flat enc l)

/-- A row of one's own that holds the elements of l. -/
abbrev rowL {α : Type} (v : Value) (e sz : Nat) (enc : α → List Value) (l : List α) : RowE := ⟨v, e, sz, l.length, flat enc l⟩

section
variable {α : Type} {enc : α → List Value} {l l2 : List α} {sz : Nat}
variable {P : Program} {X : List Nat} {w0 : World} {M M' : List (Nat × List Value)} {Z Z' Z1 : List RowE} {n : Nat} {ds : List Deferred} {F F' : List (Nat × Value)} {a : Act} {w w' : World}
variable {ops : Array Oper} {Q : Exit → Act → World → Prop} {rest : List Oper} {o : Oper}
variable {dst : Option Tmp} {ty : TypeId} {pos : String} {aft : Array Edge} {g : Option (Nat × Bool)} {v : Value}

theorem rd_of_row {e k : Nat} {xs : List Value} (h : w.ownsRow 0 e sz v k xs) : Rd w v sz k xs := by
  refine ⟨h.1, ?_⟩
  rcases h.2 with h2 | ⟨g, cap, cur, rfl, hb, hg, hkc, _, hcs, ht⟩
  · exact .inl h2
  · refine .inr ⟨g, 0, cap, rfl, hkc, fun j u hu => ?_⟩
    have := World.ownsRow.cells h (g := g) rfl j u hu
    rwa [addr_add] at this
theorem Stw.rdRow (h : Stw X w0 M Z w) (i : Nat) {e : Nat} (he : ∀ x, (enc x).length = sz) (hZ : Z[i]? = some (rowL v e sz enc l)) : RdE w v sz enc l := ⟨he, rd_of_row (h.row hZ)⟩
theorem Rd.old {k : Nat} {xs : List Value} (h : Rd w0 v sz k xs) (hf : Frm X w0 w) (hX : ∀ b, v.ownBlock = some b → b ∉ X) : Rd w v sz k xs := by
  refine ⟨h.1, ?_⟩
  rcases h.2 with h2 | ⟨b, off, cap, rfl, hkc, hc⟩
  · exact .inl h2
  · refine .inr ⟨b, off, cap, rfl, hkc, fun j u hu => ?_⟩
    have := hc j u hu
    rw [hf.cell (World.block_lt_of_cell? (w := w0) (a := ⟨b, off + j, none⟩) this) (hX b rfl)]
    exact this
theorem RdE.old (h : RdE w0 v sz enc l) (hW : Stw [] w0 M Z w) : RdE w v sz enc l := ⟨h.len, h.rd.old hW.frm (by simp)⟩
theorem RdE.oldX (h : RdE w0 v sz enc l) (hW : Stw X w0 M Z w) (hX : ∀ b, v.ownBlock = some b → b ∉ X) : RdE w v sz enc l := ⟨h.len, h.rd.old hW.frm hX⟩
theorem RdE.nil (he : ∀ x, (enc x).length = sz) : RdE w (.slice none 0 0) sz enc ([] : List α) := ⟨he, by simp [flat], .inl ⟨rfl, rfl⟩⟩

theorem RdE.take (h : RdE w v sz enc l) {k : Nat} (hk : k ≤ l.length) : RdE w (slTo v k) sz enc (l.take k) := by
  refine ⟨h.len, ?_⟩
  obtain ⟨h1, h2⟩ := h.rd
  have hl : (l.take k).length = k := by simp; omega
  refine ⟨by rw [flat_len h.len, hl], ?_⟩
  rcases h2 with ⟨rfl, h0⟩ | ⟨b, off, cap, rfl, hkc, hc⟩
  · have : k = 0 := by omega
    subst this
    exact .inl ⟨rfl, by simp⟩
  · refine .inr ⟨b, off, cap, by rw [hl]; rfl, by rw [hl]; omega, fun j u hu => ?_⟩
    rw [← flat_take h.len] at hu
    refine hc j u ?_
    rw [List.getElem?_take] at hu
    split at hu
    · exact hu
    · cases hu

theorem y_len {x : Operand} {t e : TypeId} {ts : Array TypeId} (ht : P.underlying t = some (.slice e)) (hts : ts[0]? = some t) (hF : Fr n ds F a) (hx : opv F x = some v) (hR : ∀ w, Stw X w0 M Z w → RdE w v sz enc l) :
    Yq P X w0 M Z a ⟨dst, .call ⟨.builtin .len, #[x], ts⟩, ty, pos, aft, g⟩ (.int .i64 (l.length : Int)) :=
  yl_of fun w hw => by
    have hts' : ts.toList[0]? = some t := by simpa using hts
    rcases (hR w hw).rd.2 with ⟨rfl, h0⟩ | ⟨b, off, cap, rfl, _⟩
    · simp [execOp, resolve_builtin, invoke, builtin, Builtin.len_, hF.eval hx, hts, Go.underlying, ht, goInt, h0]
    · simp [execOp, resolve_builtin, invoke, builtin, Builtin.len_, hF.eval hx, hts, Go.underlying, ht, goInt]

theorem y_index {x ix : Operand} {t e : TypeId} {i : Int} {by_ : Nat} (k : Nat) (E : Et P t e sz by_) (hF : Fr n ds F a) (hx : opv F x = some v) (hi : opv F ix = some (.int .i64 i)) (hR : ∀ w, Stw X w0 M Z w → RdE w v sz enc l) (hik : i = (k : Int)) (hk : k < l.length) :
    Yq P X w0 M Z a ⟨dst, .indexAddr t x ix, ty, pos, aft, g⟩ (.pointer (some ⟨vblk v, voff v + k * sz, none⟩)) :=
  yl_of fun w hw => by
    subst hik
    obtain ⟨inf, z, hi', hz, his, hib, hzs⟩ := E.info
    have hsz : (sizeOf e).run P w = .ok sz w := by simp [sizeOf, typeInfo, hi', his]
    rcases (hR w hw).rd.2 with ⟨rfl, h0⟩ | ⟨b, off, cap, rfl, _⟩
    · omega
    · have h1 : (0 : Int) ≤ (k : Int) ∧ (k : Int) < (l.length : Int) := by omega
      simp [execOp, Instr.indexAt, hF.eval hx, hF.eval hi, asIntOf, Go.underlying, E.desc, h1.2, hsz, addr_add, vblk, voff]
      omega

theorem y_load_el {x : Operand} {t : TypeId} {k j off : Nat} {u : Value} (d : α) (hF : Fr n ds F a) (hx : opv F x = some (.pointer (some ⟨vblk v, off, none⟩))) (ho : off = voff v + k * sz + j) (hR : ∀ w, Stw X w0 M Z w → RdE w v sz enc l) (hk : k < l.length) (hj : Nat.blt j sz = true) (T : Ty P t false 1)
    (hu : (enc (l.getD k d))[j]? = some u) : Yq P X w0 M Z a ⟨dst, .load t x, ty, pos, aft, g⟩ u :=
  yl_of fun w hw => by
    subst ho
    have hj' : j < sz := Nat.le_of_ble_eq_true hj
    have hel := flat_get (hR w hw).len d l k j hk hj'
    rw [hu] at hel
    rcases (hR w hw).rd.2 with ⟨rfl, h0⟩ | ⟨b, o', cap, rfl, _, hc⟩
    · omega
    · have hc' := hc _ _ hel
      have hxv := hF.eval hx
      simp only [vblk, voff] at hxv
      have hc'' : w.cell? ⟨b, o' + k * sz + j, none⟩ = some u := by rw [Nat.add_assoc]; exact hc'
      simp [execOp, Instr.loadAt, Instr.sureAddr, hxv, loadVar, T.isAgg, hc'']

/-- A load of several cells of an element: the whole element, or a struct in it. -/
theorem y_load_els {x : Operand} {t : TypeId} {k j off m : Nat} {us : List Value} (d : α) (hF : Fr n ds F a) (hx : opv F x = some (.pointer (some ⟨vblk v, off, none⟩))) (ho : off = voff v + k * sz + j) (hR : ∀ w, Stw X w0 M Z w → RdE w v sz enc l) (hk : k < l.length) (hj : Nat.ble (j + m) sz = true) (T : Ty P t true m)
    (hu : ((enc (l.getD k d)).drop j).take m = us) {y : Value} (hy : Value.agg us.toArray = y) : Yq P X w0 M Z a ⟨dst, .load t x, ty, pos, aft, g⟩ y :=
  yl_of fun w hw => by
    subst ho hu hy
    have hj' : j + m ≤ sz := Nat.le_of_ble_eq_true hj
    have hxv := hF.eval hx
    rcases (hR w hw).rd.2 with ⟨rfl, h0⟩ | ⟨b, o', cap, rfl, _, hc⟩
    · omega
    · simp only [vblk, voff] at hxv
      have hl : (((enc (l.getD k d)).drop j).take m).length = m := by simp [(hR w hw).len]; omega
      have := run_loadCells_list (P := P) (w := w) ⟨b, o' + k * sz + j, none⟩ (((enc (l.getD k d)).drop j).take m) (fun q u hq => by
        rw [addr_add]
        have hqm : q < m := by have := (List.getElem?_eq_some_iff.1 hq).1; omega
        rw [List.getElem?_take_of_lt hqm, List.getElem?_drop] at hq
        have hel := flat_get (hR w hw).len d l k (j + q) hk (by omega)
        rw [hq] at hel
        have := hc _ _ hel
        rw [show o' + k * sz + j + q = o' + (k * sz + (j + q)) by omega]
        exact this)
      rw [hl] at this
      simp [execOp, Instr.loadAt, Instr.sureAddr, hxv, loadVar, T.isAgg, T.sizeOf, this]

/-- v[:k] -/
theorem y_sliceTo {x h : Operand} {t e : TypeId} {i : Int} {by_ : Nat} (k : Nat) (E : Et P t e sz by_) (hF : Fr n ds F a) (hx : opv F x = some v) (hi : opv F h = some (.int .i64 i)) (hR : ∀ w, Stw X w0 M Z w → RdE w v sz enc l) (hik : i = (k : Int)) (hk : k ≤ l.length) :
    Yq P X w0 M Z a ⟨dst, .slice t x none (some h) none, ty, pos, aft, g⟩ (slTo v k) :=
  yl_of fun w hw => by
    subst hik
    obtain ⟨inf, z, hi', hz, his, hib, hzs⟩ := E.info
    have hsz : (sizeOf e).run P w = .ok sz w := by simp [sizeOf, typeInfo, hi', his]
    have hxe := hF.eval hx
    have hie := hF.eval hi
    simp only [execOp, hxe, Option.map_some, Option.map_none, hie]
    rcases (hR w hw).rd.2 with ⟨rfl, h0⟩ | ⟨b, off, cap, rfl, hlc, _⟩
    · have : k = 0 := by omega
      subst this
      simp [Instr.sliceAt, Instr.slice, Instr.sliceBounds, Instr.sliceBound, asIntOf, Go.underlying, E.desc, slTo, hsz]
    · have h1 : k ≤ cap := by omega
      simp [Instr.sliceAt, Instr.slice, Instr.sliceBounds, Instr.sliceBound, asIntOf, Go.underlying, E.desc, slTo, hsz, h1, addr_add]

theorem ownsRow_take {e k : Nat} (he : ∀ x, (enc x).length = sz) (h : w.ownsRow 0 e sz v l.length (flat enc l)) (hk : k ≤ l.length) : w.ownsRow 0 e sz (slTo v k) (l.take k).length (flat enc (l.take k)) := by
  have hl : (l.take k).length = k := by simp; omega
  refine ⟨flat_len he _, ?_⟩
  rcases h.2 with ⟨rfl, h0⟩ | ⟨g, cap, cur, rfl, hb, hg, hkc, hcm, hcs, ht⟩
  · exact .inl ⟨by have : k = 0 := by omega
                   subst this; rfl, by omega⟩
  · refine .inr ⟨g, cap, cur, by rw [hl]; rfl, hb, hg, by omega, hcm, hcs, ?_⟩
    rw [hl, ← flat_take he, ← ht, List.take_take, Nat.min_eq_left (Nat.mul_le_mul_right _ hk)]
theorem slTo_blk (v : Value) (k : Nat) : (slTo v k).ownBlock = v.ownBlock := by
  cases v with
  | slice a _ _ => cases a <;> rfl
  | _ => rfl

/-- The row goes on shorter. -/
theorem Stw.takeRow {e k i : Nat} (h : Stw X w0 M Z w) (he : ∀ x, (enc x).length = sz) (hZ : Z[i]? = some (rowL v e sz enc l)) (hZ1 : Z.eraseIdx i = Z1) (hk : k ≤ l.length) : Stw X w0 M (rowL (slTo v k) e sz enc (l.take k) :: Z1) w :=
  (h.permZ (perm_get hZ hZ1)).rowTurn ⟨rfl, rfl, rfl, Nat.le_refl _, fun _ _ _ => rfl⟩ (ownsRow_take he (h.row hZ) hk) (fun g hg => .inl (by rw [slTo_blk] at hg; exact hg))

/-- A new row, nil. -/
theorem Stw.nilRow (h : Stw X w0 M Z w) (e : Nat) (enc : α → List Value) (sz : Nat) : Stw X w0 M (rowL (.slice none 0 0) e sz enc [] :: Z) w :=
  ⟨h.frm, ⟨h.mem.own, h.mem.at_, fun r hr => by
    rcases List.mem_cons.1 hr with rfl | hr
    · exact World.ownsRow_nil w 0 e sz
    · exact h.mem.rows r hr, h.mem.nodup⟩⟩

/-- append of one element, written out, to a row of elements. -/
theorem l_append1 {s x : Operand} {t e : TypeId} {by_ b d i j : Nat} {cs : List Value} (y : α) (hF : Fr n ds F a) (hW : Stw X w0 M Z w) (hn : Nat.blt d n = true) (E : Et P t e sz by_) (hs : opv F s = some v) (hx : opv F x = some (.slice (some ⟨b, 0, none⟩) 1 1))
    (hZ : Z[i]? = some (rowL v e sz enc l)) (hZ1 : Z.eraseIdx i = Z1) (hM : M[j]? = some (b, cs)) (hy : cs = enc y) (hl : cs.length = sz) (h1 : cs.all (·.oneCell') = true) (hmax : l.length + 1 ≤ 1000000000) (hby : by_ ≤ 100000)
    (k : ∀ v' a' w', Fr n ds ((d, v') :: F) a' → Stw X w0 M (rowL v' e sz enc (l ++ [y]) :: Z1) w' → wpList P ops Q rest a' w') :
    wpList P ops Q (⟨some d, .call ⟨.builtin .append, #[s, x], #[t, t]⟩, ty, pos, aft, none⟩ :: rest) a w := by
  refine l_append (m := 1) hF hW hn E hs hx hZ rfl rfl hZ1 hM (by omega) h1 hmax hby (fun v' a' w' hF' hW' => k v' a' w' hF' ?_)
  subst hy
  have e1 : (rowL v e sz enc l).n + 1 = (l ++ [y]).length := by simp
  have e2 : (rowL v e sz enc l).xs ++ enc y = flat enc (l ++ [y]) := flat_snoc enc l y
  rw [e1, e2] at hW'
  exact hW'

/-- append of what can be read. -/
theorem l_appendRd {s x : Operand} {t e : TypeId} {by_ d i : Nat} {u : Value} (hF : Fr n ds F a) (hW : Stw X w0 M Z w) (hn : Nat.blt d n = true) (E : Et P t e sz by_) (hs : opv F s = some v) (hx : opv F x = some u)
    (hZ : Z[i]? = some (rowL v e sz enc l)) (hZ1 : Z.eraseIdx i = Z1) (hR : RdE w u sz enc l2) (h1 : ∀ y, (enc y).all (·.oneCell') = true) (hmax : l.length + l2.length ≤ 1000000000) (hby : by_ ≤ 100000)
    (k : ∀ v' a' w', Fr n ds ((d, v') :: F) a' → Stw X w0 M (rowL v' e sz enc (l ++ l2) :: Z1) w' → wpList P ops Q rest a' w') :
    wpList P ops Q (⟨some d, .call ⟨.builtin .append, #[s, x], #[t, t]⟩, ty, pos, aft, none⟩ :: rest) a w := by
  have hbyb : (l.length + l2.length) * by_ ≤ 140737488355328 := Nat.le_trans (Nat.mul_le_mul hmax hby) (by decide)
  have hall : ∀ y ∈ flat enc l2, y.oneCell' = true := fun y hy => by
    obtain ⟨q, _, hq⟩ := List.mem_flatMap.1 hy
    exact List.all_eq_true.1 (h1 q) y hq
  have hrow : w.ownsRow 0 e sz v l.length (flat enc l) := hW.row hZ
  have key : ∃ v' w', (Builtin.append_ #[t, t] ty #[v, u]).run P w = .ok v' w' ∧ w'.ownsRow 0 e sz v' (l ++ l2).length (flat enc (l ++ l2)) ∧ w.grownBy w' v.ownBlock ∧ (∀ g, v'.ownBlock = some g → v.ownBlock = some g ∨ w.heap.size ≤ g) := by
    rcases hR.rd.2 with ⟨rfl, h0⟩ | ⟨b, off, cap, rfl, _, hc⟩
    · have hl2 : l2 = [] := List.eq_nil_of_length_eq_zero h0
      subst hl2
      obtain ⟨inf, z, hi, hz, his, hib, hzs⟩ := E.info
      refine ⟨v, w, ?_, by simpa using hrow, ⟨rfl, rfl, rfl, Nat.le_refl _, fun _ _ _ => rfl⟩, fun g hg => .inl hg⟩
      rcases hrow.2 with ⟨rfl, h0'⟩ | ⟨g, cap, cur, rfl, hb, hg, hkc, hcm, hcs, ht⟩
      · simp [Builtin.append_, run_underlying E.desc, sizeOf, typeInfo, hi, Builtin.lenOf, Builtin.firstCells]
      · simp [Builtin.append_, run_underlying E.desc, sizeOf, typeInfo, hi, Builtin.lenOf, Builtin.firstCells, hkc, storeCells]
    · obtain ⟨v', w', hr, hown, hgr, hblk⟩ := run_append_mine (P := P) (w := w) (ty := ty) (c := cap) (m := l2.length) E hrow (news := flat enc l2) (flat_len hR.len _) (ad := ⟨b, off, none⟩) (fun q y hy => by rw [addr_add]; exact hc q y hy) hall (by unfold maxLen; omega) hbyb
      refine ⟨v', w', hr, ?_, hgr, hblk⟩
      rw [List.length_append, ← flat_append]
      exact hown
  obtain ⟨v', w', hr, hown, hgr, hblk⟩ := key
  refine ls_wp hF hn (v := v') (w' := w') ?_ (fun a' h => k v' a' w' h ?_)
  · simp [execOp, resolve_builtin, invoke, builtin, hF.eval hs, hF.eval hx, hr]
  · exact (hW.permZ (perm_get hZ hZ1)).rowTurn (r' := rowL v' e sz enc (l ++ l2)) hgr hown hblk

/-! ### Less is known, in another order -/
theorem Stw.subM (h : Stw X w0 M Z w) (hs : M'.Sublist M) : Stw X w0 M' Z w := by
  have hsub : (blks M' Z).Sublist (blks M Z) := List.Sublist.append (hs.map _) (List.Sublist.refl _)
  exact ⟨h.frm, ⟨fun g hg => h.mem.own g (hsub.subset hg), fun p hp => h.mem.at_ p (hs.subset hp), h.mem.rows, h.mem.nodup.sublist hsub⟩⟩
theorem sub_flatMap {f : RowE → List Nat} {A B : List RowE} (h : A.Sublist B) : (A.flatMap f).Sublist (B.flatMap f) := by
  induction h with
  | slnil => simp
  | cons x _ ih => simp only [List.flatMap_cons]; exact ih.trans (List.sublist_append_right _ _)
  | cons_cons x _ ih => simp only [List.flatMap_cons]; exact List.Sublist.append (List.Sublist.refl _) ih
theorem Stw.subZ (h : Stw X w0 M Z w) (hs : Z'.Sublist Z) : Stw X w0 M Z' w := by
  have hsub : (blks M Z').Sublist (blks M Z) := List.Sublist.append (List.Sublist.refl _) (sub_flatMap hs)
  exact ⟨h.frm, ⟨fun g hg => h.mem.own g (hsub.subset hg), h.mem.at_, fun r hr => h.mem.rows r (hs.subset hr), h.mem.nodup.sublist hsub⟩⟩
theorem perm_getM : ∀ {l l1 : List (Nat × List Value)} {i : Nat} {r : Nat × List Value}, l[i]? = some r → l.eraseIdx i = l1 → l.Perm (r :: l1)
  | [], _, _, _, h, _ => by simp at h
  | x :: l, _, 0, r, h, he => by simp at h he; subst h he; exact List.Perm.refl _
  | x :: l, _, i + 1, r, h, he => by
    simp at h he
    subst he
    exact ((perm_getM h rfl).cons x).trans (List.Perm.swap r x _)
theorem Stw.frontM (h : Stw X w0 M Z w) {i : Nat} {r : Nat × List Value} (hM : M[i]? = some r) (he : M.eraseIdx i = M') : Stw X w0 (r :: M') Z w := h.perm (perm_getM hM he)
theorem Stw.frontZ (h : Stw X w0 M Z w) {i : Nat} {r : RowE} (hZ : Z[i]? = some r) (he : Z.eraseIdx i = Z1) : Stw X w0 M (r :: Z1) w := h.permZ (perm_get hZ he)

/-- A loop: what is known at its head, by a state s. -/
theorem c_loopz {σ : Type} {c : Code} (I : σ → Prop) (Fs : σ → List (Nat × Value)) (Ms : σ → List (Nat × List Value)) (Zs : σ → List RowE) (μ : σ → Nat) (s0 : σ) (h0 : I s0) (hF : Fr n ds (Fs s0) a) (hW : Stw X w0 (Ms s0) (Zs s0) w)
    (round : ∀ s a w, I s → Fr n ds (Fs s) a → Stw X w0 (Ms s) (Zs s) w → c.wp P (Exit.then (fun a' w' => ∃ s', I s' ∧ μ s' < μ s ∧ Fr n ds (Fs s') a' ∧ Stw X w0 (Ms s') (Zs s') w') Q) a w) : (Code.loop c).wp P Q a w := by
  refine wp_loop_ghost (fun m a w => ∃ s, I s ∧ μ s = m ∧ Fr n ds (Fs s) a ∧ Stw X w0 (Ms s) (Zs s) w) (μ s0) ⟨s0, h0, rfl, hF, hW⟩ ?_
  rintro m a w ⟨s, hI, rfl, hF, hW⟩
  refine Code.wp_mono ?_ (round s a w hI hF hW)
  intro e a' w' h
  cases e <;> first | exact h | skip
  obtain ⟨s', h1, h2, h3, h4⟩ := h
  exact ⟨μ s', h2, s', h1, rfl, h3, h4⟩
end
end Go.Proofs.Ytcnhmbjkippnnaa
