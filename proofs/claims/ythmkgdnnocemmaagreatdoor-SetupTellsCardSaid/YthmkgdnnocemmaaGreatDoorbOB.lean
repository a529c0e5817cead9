/- A strings.Builder that a function has made itself. Conditions: none. -/
import Derived.Test.YthmkgdnnocemmaaGreatDoorbQT
import Derived.Test.YthmkgdnnocemmaaGreatDoorRows
import Derived.Lib.Builder
import Derived.Lib.FrozenHead
import Derived.Lib.AppendStr
import Derived.Lib.UnsafeStr
import Derived.Laws.Externs
import Derived.OwnWalk
import Derived.BigFrame
namespace Go.Proofs.YthmkgdnnocemmaaGreatDoor
open Go Go.RowKit
set_option linter.unusedVariables false
set_option linter.unusedSimpArgs false
set_option maxRecDepth 100000
theorem Turns.refl (l : List Nat) (w : World) : Turns l w w := ⟨rfl, rfl, rfl, Nat.le_refl _, fun _ _ _ => rfl⟩
theorem Turns.trans {l : List Nat} {w w1 w2 : World} (h : Turns l w w1) (h2 : Turns l w1 w2) : Turns l w w2 :=
  ⟨h2.os.trans h.os, h2.tape.trans h.tape, h2.output.trans h.output, Nat.le_trans h.size h2.size, fun k hk hn => (h2.block k (Nat.lt_of_lt_of_le hk h.size) hn).trans (h.block k hk hn)⟩
theorem Turns.more {l m : List Nat} {w w1 : World} (h : Turns l w w1) (hs : ∀ g ∈ l, g ∈ m) : Turns m w w1 := ⟨h.os, h.tape, h.output, h.size, fun k hk hn => h.block k hk fun hm => hn (hs k hm)⟩
structure BldAt (T e : TypeId) (b : Nat) (v : Value) (l : List UInt8) (w : World) : Prop where
  at_ : ∃ p, w.heap[b]? = some (.cells #[p, v] T (0, 0)) ∧ (p = .pointer none ∨ p = .pointer (some ⟨b, 0, none⟩))
  own : w.ownsRowF 0 e 1 v l.length (Lib.byteCells l)
  nil : v = .slice none 0 0 ↔ l = []
  ne : v.ownBlock ≠ some b
theorem Gq {w w' : World} {e : TypeId} {v : Value} {n : Nat} {xs : List Value} (h : w.ownsRowF 0 e 1 v n xs) (hk : ∀ g, v.ownBlock = some g → w'.heap[g]? = w.heap[g]?) : w'.ownsRowF 0 e 1 v n xs := by
  refine ⟨h.1, ?_⟩
  rcases h.2 with hn | ⟨g, cap, cur, fz, rfl, hb, hgg, rest⟩
  · exact .inl hn
  · exact .inr ⟨g, cap, cur, fz, rfl, hb, by rw [hk g rfl]; exact hgg, rest⟩
theorem BldAt.stab {T e : TypeId} {b : Nat} {v : Value} {l : List UInt8} {w w' : World} (h : BldAt T e b v l w) (hk : ∀ g ∈ b :: Kj v, w'.heap[g]? = w.heap[g]?) : BldAt T e b v l w' := by
  obtain ⟨p, h1, h2⟩ := h.at_
  exact ⟨⟨p, by rw [hk b (List.mem_cons_self ..)]; exact h1, h2⟩, Gq h.own fun g hg => hk g (List.mem_cons_of_mem _ (F5.2 hg)), h.nil, h.ne⟩
def BL (T e : TypeId) (b : Nat) (v : Value) (l : List UInt8) : It := ⟨b :: Kj v, fun w _ => BldAt T e b v l w, fun h _ hg => h.stab hg, fun h g hg => by
  rcases List.mem_cons.1 hg with rfl | hg
  · obtain ⟨p, h1, _⟩ := h.at_; exact (Array.getElem?_eq_some_iff.1 h1).1
  · exact (h.own.lt g (F5.1 hg)).2, fun h => by
  rw [List.nodup_cons]
  exact ⟨fun hm => h.ne (F5.1 hm), ML v⟩⟩
theorem BldAt.cells {T e : TypeId} {b : Nat} {v : Value} {l : List UInt8} {w : World} (h : BldAt T e b v l w) : ∃ p, w.cell? ⟨b, 0, none⟩ = some p ∧ w.cell? ⟨b, 1, none⟩ = some v ∧ w.shape? b = some (T, 2) ∧ w.frozen? ⟨b, 0, none⟩ = false ∧ w.frozen? ⟨b, 1, none⟩ = false ∧ (p = .pointer none ∨ p = .pointer (some ⟨b, 0, none⟩)) := by
  obtain ⟨p, h1, h2⟩ := h.at_
  exact ⟨p, by simp [World.cell?, h1], by simp [World.cell?, h1], by simp [World.shape?, h1], by simp [World.frozen?, h1], by simp [World.frozen?, h1], h2⟩
theorem Gr (w : World) (b o : Nat) (v : Value) : Turns [b] w (w.setCell ⟨b, o, none⟩ v) := by
  have h := One.setCell w b o v
  exact ⟨h.os, h.tape, h.output, h.size, fun k hk hn => h.block k hk fun e => hn (by rw [e]; simp)⟩
theorem BldAt.put {T e : TypeId} {b : Nat} {v v' : Value} {l' : List UInt8} {w : World} (h : w.heap[b]? = some (.cells #[.pointer (some ⟨b, 0, none⟩), v] T (0, 0))) (hown : w.ownsRowF 0 e 1 v' l'.length (Lib.byteCells l')) (hn : v' = .slice none 0 0 ↔ l' = []) (hne : v'.ownBlock ≠ some b) :
    BldAt T e b v' l' (w.setCell ⟨b, 1, none⟩ v') := by
  refine ⟨⟨.pointer (some ⟨b, 0, none⟩), ?_, .inr rfl⟩, Gq hown fun g hg => ?_, hn, hne⟩
  · rw [Gp _ _ _ _ h]; rfl
  · refine (Gr w b 1 v').block g ((hown.lt g hg).2) ?_
    intro hm
    simp only [List.mem_singleton] at hm
    exact hne (by rw [hg, hm])
theorem Stw.newItem {B : Bs} {M : Cg} {Z : List It} {w : World} (h : Stw B M Z w) (o : Obj) (z : It) (hbl : z.bl = [w.heap.size]) (hok : ∀ A, z.ok (w.alloc o) A) : Stw B M (z :: Z) (w.alloc o) := by
  have hb : Below w.heap.size w (w.alloc o) := (Below.refl _ _).alloc (Nat.le_refl _) _
  have h' := h.below hb
  have hm : ∀ g, g ∈ AY M (z :: Z) ↔ g = w.heap.size ∨ g ∈ AY M Z := by
    intro g; unfold AY; simp [hbl]
    constructor
    · rintro (h | rfl | h) <;> simp_all
    · rintro (rfl | h | h) <;> simp_all
  have hk : FY w (w.alloc o) (Fz B (AY M Z)) (Fz B (AY M (z :: Z))) := fun b hA hlt =>
    ⟨⟨hA.1, fun hx => by
      rcases (hm b).1 hx with rfl | hx
      · exact Nat.lt_irrefl _ hlt
      · exact hA.2 hx⟩, hb.block b hlt⟩
  refine ⟨h'.frm, fun g hg => ?_, h'.at_, fun y hy => ?_, ?_, h.disj⟩
  · rcases (hm g).1 hg with rfl | hg
    · exact .inr h.frm.size
    · exact h.own g hg
  · rcases List.mem_cons.1 hy with rfl | hy
    · exact hok _
    · exact y.stab (h.items y hy) hk fun g hg => hb.block g (h.lt_all (Da hy hg))
  · have hp : (AY M (z :: Z)).Perm (w.heap.size :: AY M Z) := by
      unfold AY
      rw [List.flatMap_cons, hbl]
      exact List.perm_middle
    rw [hp.nodup_iff, List.nodup_cons]
    exact ⟨fun hx => Nat.lt_irrefl _ (h.lt_all hx), h.nodup⟩
def Lx (l : List UInt8) : Option (List UInt8) := if l.length ≤ 1000000000 then some l else none
theorem NT {l m : List UInt8} (h : Lx l = some m) : l.length ≤ 1000000000 ∧ l = m := by
  unfold Lx at h
  split at h
  · exact ⟨‹_›, Option.some.inj h⟩
  · cases h
section
variable {P : Program}
theorem OL (w : World) (t u ty e : TypeId) (i : TypeInfo) (ht : P.underlying t = some (.slice e)) (hu : P.underlying u = some .string) (hi : P.info? e = some i) (hz : i.zero = some (.int .u8 0)) (hsize : i.size = 1) (hby : i.bytes = 1)
    (v : Value) (n : Nat) (xs : List Value) (hown : w.ownsRowF 0 e 1 v n xs) (s : ByteArray) (h63 : n + s.size ≤ 1000000000) :
    ∃ v' w', (Builtin.append_ #[t, u] ty #[v, .string s]).run P w = .ok v' w' ∧ w'.ownsRowF 0 e 1 v' (n + s.size) (xs ++ Lib.strCells s) ∧ w.grownBy w' v.ownBlock ∧ (v' = .slice none 0 0 ↔ v = .slice none 0 0 ∧ s.size = 0) ∧ ∀ g, v'.ownBlock = some g → v.ownBlock = some g ∨ w.heap.size ≤ g := by
  have hm : n + s.size ≤ maxLen := by unfold maxLen; omega
  obtain ⟨v', w', h1, h2, h3, h4⟩ := Lib.run_append_own_stringF (P := P) w 0 t u ty e i ht hu hi hz hsize hby v n xs hown s hm (by omega) (Nat.zero_le _)
  refine ⟨v', w', h1, h2, h3, h4, ?_⟩
  rcases hown.2 with ⟨rfl, rfl⟩ | ⟨g, cap, cur, fz, rfl, hbg, hg, hfz, hnc, hcm, hcs, htake⟩
  · obtain ⟨v2, w2, k1, k2, _⟩ := Lib.run_append_own_stringF (P := P) w w.heap.size t u ty e i ht hu hi hz hsize hby (.slice none 0 0) 0 xs ⟨hown.1, .inl ⟨rfl, rfl⟩⟩ s hm (by omega) (Nat.le_refl _)
    rw [h1] at k1
    cases k1
    exact fun g hg => .inr (k2.lt g hg).1
  · by_cases hroom : n + s.size ≤ cap
    · have hcs' : cur.size = cap := by simpa using hcs
      have hr := Lib.run_append_room_stringF (P := P) w t u ty e i ht hu hi hsize g n cap cur fz hg (by simpa using hfz) s hroom (by omega)
      rw [h1] at hr
      cases hr
      exact fun g' hg' => .inl hg'
    · have holds : ∀ j u, xs[j]? = some u → w.cell? ((⟨g, 0, none⟩ : Addr).add j) = some u := hown.cells (g := g) rfl
      have hxl : xs.length = n := by simpa using hown.1
      have hr := Lib.run_append_grow_string (P := P) w t u ty e i (.int .u8 0) ht hu hi hz ⟨g, 0, none⟩ n cap xs (by rw [hsize]; simpa using hxl) holds s (by omega) (by omega) (by rw [hby]; exact growslice_fits (by omega) (by omega))
      rw [h1] at hr
      cases hr
      intro g' hg'
      simp only [Value.ownBlock, Option.some.injEq] at hg'
      exact .inr (by omega)
theorem LR {ops : Array Oper} {rest : List Oper} {o : Oper} {a : Act} {w : World} {Q : Exit → Act → World → Prop} (hgd : o.guard = none) (sl x : Operand) (t u : TypeId)
    (ho : o.op = .call { callee := .builtin .append, args := #[sl, x], argTypes := #[t, u] })
    (e : TypeId) (i : TypeInfo) (ht : P.underlying t = some (.slice e)) (hu : P.underlying u = some .string) (hi : P.info? e = some i) (hz : i.zero = some (.int .u8 0)) (hsize : i.size = 1) (hby : i.bytes = 1)
    (v : Value) (n : Nat) (xs : List Value) (hs : a.eval sl = v) (hown : w.ownsRowF 0 e 1 v n xs) (s : ByteArray) (hx : a.eval x = .string s) (h63 : n + s.size ≤ 1000000000)
    (h : ∀ v' w', w'.ownsRowF 0 e 1 v' (n + s.size) (xs ++ Lib.strCells s) → w.grownBy w' v.ownBlock → (v' = .slice none 0 0 ↔ v = .slice none 0 0 ∧ s.size = 0) → (∀ g, v'.ownBlock = some g → v.ownBlock = some g ∨ w.heap.size ≤ g) → wpList P ops Q rest (a.put o.dst v') w') : wpList P ops Q (o :: rest) a w := by
  refine wpList_plain hgd fun K hK => ?_
  obtain ⟨v', w', hr, h2, h3, h4, h5⟩ := OL (P := P) w t u o.type e i ht hu hi hz hsize hby v n xs hown s h63
  unfold Oper.wp execOp
  simp only [ho, resolve, invoke, builtin, Sem.run_bind, Sem.run_pure, Result.andThen_ok, List.map_toArray, List.map_cons, List.map_nil, hs, hx, hr]
  exact hK _ _ (h v' w' h2 h3 h4 h5)
end
set_option maxHeartbeats 1000000
theorem Qs (b : Nat) (w : World) (h0 : w.cell? ⟨b, 0, none⟩ = some (.pointer (some ⟨b, 0, none⟩))) :
    Calls Tryz.prog 49 #[.pointer (some ⟨b, 0, none⟩)] w fun e w' => e = .returned (.tuple #[]) ∧ w' = w := by
  obtain ⟨j, hj, hjs⟩ := Option.map_eq_some_iff.1 (show (Tryz.prog.info? 65).map (·.size) = some 2 by kernel_rfl)
  go_enter Tryz.func49, Tryz.ntmps49
  go_wp2
  rw [Lib.run_neq_ptr_same w _ Tryz.underlying62 hj]
  go_wp2
  go_end0
  exact ⟨rfl, rfl⟩
theorem OH (b : Nat) (w : World) (h0 : w.cell? ⟨b, 0, none⟩ = some (.pointer none)) (hsh : w.shape? b = some (65, 2)) (hfz : w.frozen? ⟨b, 0, none⟩ = false) :
    Calls Tryz.prog 49 #[.pointer (some ⟨b, 0, none⟩)] w fun e w' => e = .returned (.tuple #[]) ∧ w' = w.setCell ⟨b, 0, none⟩ (.pointer (some ⟨b, 0, none⟩)) := by
  obtain ⟨j, hj, hjs⟩ := Option.map_eq_some_iff.1 (show (Tryz.prog.info? 65).map (·.size) = some 2 by kernel_rfl)
  go_enter Tryz.func49, Tryz.ntmps49
  go_wp2
  rw [Lib.run_to_unsafe w ⟨b, 0, none⟩ Tryz.underlying62 Tryz.underlying98 hj (by rw [hjs]; decide) hsh (Nat.zero_lt_succ 1)]
  simp only [Result.andThen]
  rw [Oper.upon_value]
  go_wp2
  rw [run_callFunc_extern Tryz.func60 (by kernel_rfl) (by kernel_rfl) (by kernel_rfl) (e := Extern.AbiNoEscape.same) (by kernel_rfl)]
  rw [Lib.run_noEscape]
  simp only [Result.andThen]
  rw [Oper.upon_value]
  go_wp2
  rw [Lib.run_from_unsafe w ⟨b, 0, none⟩ Tryz.underlying98 Tryz.underlying62 hj hsh (by kernel_rfl)]
  simp only [Result.andThen]
  rw [Oper.upon_value]
  go_wp2
  go_end0
  exact ⟨rfl, rfl⟩
theorem Q3 {b : Nat} {v : Value} {l : List UInt8} {w : World} (h : BldAt 65 5 b v l w) :
    Calls Tryz.prog 49 #[.pointer (some ⟨b, 0, none⟩)] w fun e w' => e = .returned (.tuple #[]) ∧ Turns [b] w w' ∧ w'.heap[b]? = some (.cells #[.pointer (some ⟨b, 0, none⟩), v] 65 (0, 0)) ∧ w'.heap.size = w.heap.size := by
  obtain ⟨p, c0, c1, sh, f0, f1, hp⟩ := h.cells
  obtain ⟨p', h1, _⟩ := h.at_
  have e : p' = p := by simp [World.cell?, h1] at c0; exact c0
  subst e
  rcases hp with rfl | rfl
  · refine (OH b w c0 sh f0).mono ?_
    rintro e w' ⟨rfl, rfl⟩
    refine ⟨rfl, Gr w b 0 _, ?_, by simp [World.setCell]⟩
    rw [Gp _ _ _ _ h1]; rfl
  · refine (Qs b w c0).mono ?_
    rintro e w' ⟨rfl, rfl⟩
    exact ⟨rfl, Turns.refl _ _, h1, rfl⟩
theorem R6 {b : Nat} {v : Value} {l m : List UInt8} {w : World} (h : BldAt 65 5 b v l w) (hlen : l.length + m.length ≤ 1000000000) :
    Calls Tryz.prog 24 #[.pointer (some ⟨b, 0, none⟩), .string (bs m)] w fun e w' => e = .returned (.tuple #[.int .i64 (m.length : Int), .nilIface]) ∧ ∃ v', BldAt 65 5 b v' (l ++ m) w' ∧ Turns (b :: Kj v) w w' ∧ ∀ g, v'.ownBlock = some g → v.ownBlock = some g ∨ w.heap.size ≤ g := by
  obtain ⟨i0, hi, hz, hs, hb⟩ : ∃ i, Tryz.prog.info? 5 = some i ∧ i.zero = some (.int .u8 0) ∧ i.size = 1 ∧ i.bytes = 1 := by
    obtain ⟨i, h1, h2⟩ := Option.map_eq_some_iff.1 (show (Tryz.prog.info? 5).map (fun i => (i.zero, i.size, i.bytes)) = some (some (.int .u8 0), 1, 1) by kernel_rfl)
    simp only [Prod.mk.injEq] at h2
    exact ⟨i, h1, h2.1, h2.2.1, h2.2.2⟩
  have hbs : (bs m).size = m.length := DV m
  go_enter Tryz.func24, Tryz.ntmps24
  go_wp2_with (go_at_call 49; refine (Q3 h).mono ?_)
  rintro e w1 ⟨rfl, t1, hb1, hsz⟩
  have hown1 : w1.ownsRowF 0 5 1 v l.length (Lib.byteCells l) := Gq h.own fun g hg => t1.block g ((h.own.lt g hg).2) fun hm => by
    simp only [List.mem_singleton] at hm
    exact h.ne (by rw [hg, hm])
  have c0 : w1.cell? ⟨b, 0, none⟩ = some (.pointer (some ⟨b, 0, none⟩)) := by simp [World.cell?, hb1]
  have c1 : w1.cell? ⟨b, 1, none⟩ = some v := by simp [World.cell?, hb1]
  go_wp2_with (at_builtin; refine LR rfl _ _ 63 9 rfl 5 i0 Tryz.underlying63 Tryz.underlying9 hi hz hs hb _ _ _ rfl hown1 (bs m) rfl ?c3 ?_)
  case c3 => omega
  intro v' w2 hown' hgrow hnil hnew0
  have hlt : b < w1.heap.size := (Array.getElem?_eq_some_iff.1 hb1).1
  have hb2 : w2.heap[b]? = some (.cells #[.pointer (some ⟨b, 0, none⟩), v] 65 (0, 0)) := by
    rw [hgrow.block b hlt (fun e => h.ne e.symm)]
    exact hb1
  have d0 : w2.cell? ⟨b, 0, none⟩ = some (.pointer (some ⟨b, 0, none⟩)) := by simp [World.cell?, hb2]
  have d1 : w2.cell? ⟨b, 1, none⟩ = some v := by simp [World.cell?, hb2]
  have f1 : w2.frozen? ⟨b, 1, none⟩ = false := by simp [World.frozen?, hb2]
  obtain ⟨ao, n', cap, hv'⟩ : ∃ ao n' cap, v' = .slice ao n' cap := by
    rcases hown'.2 with ⟨hv, _⟩ | ⟨g, cap, cur, fz, hv, _⟩
    · exact ⟨_, _, _, hv⟩
    · exact ⟨_, _, _, hv⟩
  subst hv'
  go_wp2
  go_ret2
  have hcells : Lib.byteCells l ++ Lib.strCells (bs m) = Lib.byteCells (l ++ m) := by rw [Lib.byteCells_append]; rfl
  rw [hcells] at hown'
  try rw [hbs] at hown'
  have hnew : ∀ g, (Value.slice ao n' cap).ownBlock = some g → v.ownBlock = some g ∨ w.heap.size ≤ g := fun g hg => (hnew0 g hg).imp id fun h => by omega
  have hne' : (Value.slice ao n' cap).ownBlock ≠ some b := fun hg => by
    rcases hnew b hg with h1 | h1
    · exact h.ne h1
    · omega
  refine ⟨by first | rfl | rw [hbs] | simp, _, BldAt.put (v := v) hb2 (l' := l ++ m) (by rw [List.length_append]; exact hown') ?_ hne', ?_, hnew⟩
  · first
    | (rw [hnil, h.nil]; simp; done)
    | (rw [hnil, h.nil, hbs]; cases m <;> simp)
  · refine (t1.more fun g hg => ?_).trans (((Turns.of_grown hgrow).more fun g hg => List.mem_cons_of_mem _ hg).trans ((Gr w2 b 1 _).more fun g hg => ?_)) <;> (simp only [List.mem_singleton] at hg; rw [hg]; exact List.mem_cons_self ..)
theorem RR {b : Nat} {v : Value} {l : List UInt8} {w : World} (h : BldAt 65 5 b v l w) (hlen : l.length ≤ 1000000000) :
    Calls Tryz.prog 27 #[.pointer (some ⟨b, 0, none⟩)] w fun e w' => e = .returned (.string (bs l)) ∧ BldAt 65 5 b v l w' ∧ Turns (b :: Kj v) w w' := by
  obtain ⟨p, c0, c1, sh, f0, f1, hp⟩ := h.cells
  have d1 : w.drew.cell? ⟨b, 1, none⟩ = some v := c1
  have mixed : Tryz.prog.follows .mixedOrders = true := by kernel_rfl
  by_cases hl : l = []
  · subst hl
    have hv := h.nil.2 rfl
    subst hv
    have hUS : (Builtin.unsafeString_ #[93, 3] 9 #[.pointer none, .int .i64 0]).run Tryz.prog w.drew = .ok (.string .empty) w.drew := Lib.run_unsafeString_none _ _ _ _ _
    have hSD : (Builtin.unsafeSliceData_ #[63] 93 #[.slice none 0 0]).run Tryz.prog w.drew = .ok (.pointer none) w.drew := rfl
    go_enter Tryz.func27, Tryz.ntmps27
    go_wp2
    go_region
    all_goals (go_wp2; go_ret; exact ⟨rfl, h.stab fun _ _ => rfl, ⟨rfl, rfl, rfl, Nat.le_refl _, fun _ _ _ => rfl⟩⟩)
  · have hl0 : l.length ≠ 0 := by simpa using hl
    obtain ⟨g, cap, cur, fz, rfl, hbg, hg, hfz, hnc, hcm, hcs, htake⟩ : ∃ g cap cur fz, v = .slice (some ⟨g, 0, none⟩) l.length cap ∧ 0 ≤ g ∧ w.heap[g]? = some (.cells cur 5 fz) ∧ fz.2 ≤ l.length * 1 ∧ l.length ≤ cap ∧ cap ≤ maxLen ∧ cur.size = cap * 1 ∧ cur.toList.take (l.length * 1) = Lib.byteCells l := by
      rcases h.own.2 with ⟨_, hz⟩ | ⟨g, cap, cur, fz, hv, r⟩
      · exact absurd hz hl0
      · exact ⟨g, cap, cur, fz, hv, r⟩
    have hSD : (Builtin.unsafeSliceData_ #[63] 93 #[.slice (some ⟨g, 0, none⟩) l.length cap]).run Tryz.prog w.drew = .ok (.pointer (some ⟨g, 0, none⟩)) w.drew :=
      Lib.run_unsafeSliceData_row _ _ _ _ _ _ (by omega)
    have hg' : w.drew.heap[g]? = some (.cells cur 5 fz) := hg
    have hUS : (Builtin.unsafeString_ #[93, 3] 9 #[.pointer (some ⟨g, 0, none⟩), .int .i64 l.length]).run Tryz.prog w.drew = .ok (.string ⟨l.toArray⟩) (w.drew.freeze ⟨g, 0, none⟩ l.length) := by
      refine Lib.run_unsafeString_row w.drew 93 3 9 5 Tryz.underlying93 (by kernel_rfl) g cur.size (by simp [World.shape?, hg']) l hl (by omega) (by omega) ?_
      intro j x hx
      exact h.own.cells (g := g) rfl j (.int .u8 x.toNat) (by simp [Lib.byteCells, hx])
    have hne : g ≠ b := fun e => h.ne (by rw [e]; rfl)
    have hbf : ∀ k, k ≠ g → (w.drew.freeze ⟨g, 0, none⟩ l.length).heap[k]? = w.heap[k]? := fun k hk => by
      unfold World.freeze
      rw [if_neg hl0]
      simp only [Array.getElem?_modify]
      rw [if_neg (fun e => hk e.symm)]
      rfl
    have hgf : ∃ fz', fz'.2 ≤ l.length * 1 ∧ (w.drew.freeze ⟨g, 0, none⟩ l.length).heap[g]? = some (.cells cur 5 fz') := by
      unfold World.freeze
      rw [if_neg hl0]
      simp only [Array.getElem?_modify, if_true, hg', Option.map_some]
      obtain ⟨lo, hi⟩ := fz
      refine ⟨_, ?_, rfl⟩
      simp only at hfz ⊢
      split
      · simp
      · simp; omega
    have hkeep : BldAt 65 5 b (.slice (some ⟨g, 0, none⟩) l.length cap) l (w.drew.freeze ⟨g, 0, none⟩ l.length) := by
      obtain ⟨p, h1, h2⟩ := h.at_
      obtain ⟨fz', e1, e2⟩ := hgf
      exact ⟨⟨p, by rw [hbf b (fun e => hne e.symm)]; exact h1, h2⟩, ⟨h.own.1, .inr ⟨g, cap, cur, fz', rfl, hbg, e2, e1, hnc, hcm, hcs, htake⟩⟩, h.nil, h.ne⟩
    have htn : Turns (b :: Kj (.slice (some ⟨g, 0, none⟩) l.length cap)) w (w.drew.freeze ⟨g, 0, none⟩ l.length) := by
      refine ⟨?_, ?_, ?_, ?_, fun k hk hn => hbf k fun e => hn (List.mem_cons_of_mem _ (F5.2 (by rw [e]; rfl)))⟩ <;> unfold World.freeze <;> rw [if_neg hl0]
      · rfl
      · rfl
      · rfl
      · simp
    go_enter Tryz.func27, Tryz.ntmps27
    go_wp2
    go_region
    all_goals (go_wp2; go_ret; exact ⟨rfl, hkeep, htn⟩)
theorem HI (Y : Nat → Prop) (X : List Nat) (w0 : World) (q : Nat) (gs : Value) (p0 : List UInt8) (p1 : List UInt8) (r : List UInt8) (H : Dg p0 p1 = some r) (hL : Stw ⟨Y, X, w0⟩ [] [BL 65 5 q gs p0] w0) :
    Calls Tryz.prog 24 #[.pointer (some ⟨q, 0, none⟩), .string (bs p1)] w0 fun e w' => ∃ x : Value, e = .returned (.tuple #[.int .i64 (p1.length : Int), .nilIface]) ∧ Stw ⟨Y, X, w0⟩ [] [BL 65 5 q x r] w' := by
  obtain ⟨h1, rfl⟩ := J7 H
  refine (R6 (hL.items _ (List.mem_cons_self ..)) h1).mono ?_
  rintro e w' ⟨rfl, v', h2, h3, h4⟩
  refine ⟨v', rfl, hL.itemTurn (z := BL 65 5 q gs p0) (z' := BL 65 5 q v' (p0 ++ p1)) h3 (fun A _ _ => h2) fun g hg => ?_⟩
  rcases List.mem_cons.1 hg with rfl | hg
  · exact .inl (List.mem_cons_self ..)
  · exact (h4 g (F5.1 hg)).imp (fun h => List.mem_cons_of_mem _ (F5.2 h)) id
theorem Sb (Y : Nat → Prop) (X : List Nat) (w0 : World) (q : Nat) (gs : Value) (p0 : List UInt8) (r : List UInt8) (H : Lx p0 = some r) (hL : Stw ⟨Y, X, w0⟩ [] [BL 65 5 q gs p0] w0) :
    Calls Tryz.prog 27 #[.pointer (some ⟨q, 0, none⟩)] w0 fun e w' => ∃ x : Unit, e = .returned (.string (bs r)) ∧ Stw ⟨Y, X, w0⟩ [] [BL 65 5 q gs p0] w' := by
  obtain ⟨h1, rfl⟩ := NT H
  refine (RR (hL.items _ (List.mem_cons_self ..)) h1).mono ?_
  rintro e w' ⟨rfl, h2, h3⟩
  exact ⟨(), rfl, hL.itemTurn (z := BL 65 5 q gs p0) (z' := BL 65 5 q gs p0) h3 (fun A _ _ => h2) fun g hg => .inl hg⟩
theorem Mi {B : Bs} {M : Cg} {Z : List It} {n : Nat} {ds : List Deferred} {F : List (Nat × Value)} {a : Act} {w : World} {ops : Array Oper} {Q : Exit → Act → World → Prop} {rest : List Oper} {ty : TypeId} {pos : String} {aft : Array Edge} {d : Nat} (hF : Fr n ds F a) (hW : Stw B M Z w) (hn : Nat.blt d n = true)
    (k : ∀ b a' w', Fr n ds ((d, .pointer (some ⟨b, 0, none⟩)) :: F) a' → Stw B M (BL 65 5 b (.slice none 0 0) [] :: Z) w' → wpList Tryz.prog ops Q rest a' w') : wpList Tryz.prog ops Q (⟨some d, .alloc 65, ty, pos, aft, none⟩ :: rest) a w := by
  refine J6 hF hn (v := .pointer (some ⟨w.heap.size, 0, none⟩)) (w' := w.alloc (.cells #[.pointer none, .slice none 0 0] 65)) ?_ (fun a' h => k _ a' _ h (hW.newItem _ _ rfl fun A => ?_))
  · have hz0 : (Tryz.prog.info? 65).bind (·.zero) = some (.agg #[.pointer none, .slice none 0 0]) := by kernel_rfl
    have hz := Jy hz0 w
    simp [execOp, Instr.alloc, hz, newVar, newRow, Value.cells]
  · exact ⟨⟨.pointer none, by show (w.heap.push _)[w.heap.size]? = _; simp, .inl rfl⟩, World.ownsRowF_nil _ _ _ _, by simp, by simp [Value.ownBlock]⟩
end Go.Proofs.YthmkgdnnocemmaaGreatDoor
