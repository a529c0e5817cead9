/- Slices whose capacity is known: appending to them makes new memory. Conditions: none. -/
import Derived.Test.YtfnmlmglmegamaacOX
namespace Go.Proofs.Ytfnmlmglmegamaa
set_option linter.unusedVariables false
set_option linter.unusedSimpArgs false
set_option linter.unusedSectionVars false
open Go Go.RowKit
def Qi (a b : Nat) : Option Unit := if a = b then some () else none
theorem NK {a b : Nat} {u : Unit} {v : Value} (h : Qi a b = some u) (hm : HP v b) : HP v a := by
  unfold Qi at h
  split at h
  · rename_i e; rw [e]; exact hm
  · cases h
def PP (a b : Nat) : Option Unit := if a < b then some () else none
theorem MN {a b : Nat} {u : Unit} (h : PP a b = some u) : a < b := by
  unfold PP at h
  split at h
  · assumption
  · cases h
section
variable {α : Type} {r : Rp α} {l l2 l3 : List α} {v u : Value} {t e by_ N : Nat}
variable {P : Program} {B : Bs} {M M' : Cp} {Z Z' Z1 : List It} {n : Nat} {ds : List Deferred} {F F' : List (Nat × Value)} {a : Act} {w w' : World}
variable {ops : Array Oper} {Q : Exit → Act → World → Prop} {rest : List Oper} {o : Oper}
variable {dst : Option Tmp} {ty : TypeId} {pos : String} {aft : Array Edge} {g : Option (Nat × Bool)}
theorem MH {m : Nat} (h : HP v N) (hl : N < m) : ∃ a k c, v = .slice (some a) k c ∧ c < m := by
  obtain ⟨b, rfl⟩ := h
  exact ⟨b, N, N, rfl, hl⟩
theorem MJ {m sz : Nat} {lo hi : Int} (h : HP v N) (hl : N < m) : ∃ a k c, B6 v lo hi sz = .slice (some a) k c ∧ c < m := by
  obtain ⟨b, rfl⟩ := h
  show ∃ a k c, Value.slice (if N = lo.toNat then some b else (some b).map (·.add (lo.toNat * sz))) (hi.toNat - lo.toNat) (N - lo.toNat) = .slice (some a) k c ∧ c < m
  by_cases hc : N = lo.toNat
  · rw [if_pos hc]; exact ⟨_, _, _, rfl, by omega⟩
  · rw [if_neg hc]; exact ⟨_, _, _, rfl, by omega⟩
theorem PR {x : Operand} {ts : Array TypeId} (ht : P.underlying t = some (.slice e)) (hts : ts[0]? = some t) (hF : Fr n ds F a) (hx : B9 F x = some v) (hm : HP v N) :
    Yx P B M Z a ⟨dst, .call ⟨.builtin .cap, #[x], ts⟩, ty, pos, aft, g⟩ (.int .i64 (N : Int)) :=
  BO fun w hw => by
    have hts' : ts.toList[0]? = some t := by simpa using hts
    obtain ⟨b, rfl⟩ := hm
    simp [execOp, Ca, invoke, builtin, Builtin.cap_, hF.eval hx, hts, Go.underlying, ht, goInt]
theorem L9 {s q : Operand} {d : Nat} (hF : Fr n ds F a) (hW : Stw B M Z w) (hn : Nat.blt d n = true) (E : Et P t e r.sz by_) (hs : B9 F s = some v) (hx : B9 F q = some u)
    (hsv : GP w (Fz B (AD M Z)) r v l) (hcap : ∃ a k c, v = .slice (some a) k c ∧ c < l.length + l2.length) (hsrc : GP w (Fz B (AD M Z)) r u l2) (hap : Jb l l2 = some l3) (hby : Nat.ble by_ 100000 = true)
    (k : ∀ v' a' w', Fr n ds ((d, v') :: F) a' → Stw B M (row v' e r l3 :: Z) w' → wpList P ops Q rest a' w') :
    wpList P ops Q (⟨some d, .call ⟨.builtin .append, #[s, q], #[t, t]⟩, ty, pos, aft, none⟩ :: rest) a w := by
  obtain ⟨hmax, rfl⟩ := Ih hap
  obtain ⟨i, z, hi, hz, his, hib, hzs⟩ := E.info
  have hbyb : (l.length + l2.length) * by_ ≤ 140737488355328 := Nat.le_trans (Nat.mul_le_mul hmax (Nat.le_of_ble_eq_true hby)) (by decide)
  subst hib
  obtain ⟨ad, kk, c, hv, hlt⟩ := hcap
  have key : ∃ xs news : List Value, xs.length = l.length * r.sz ∧ news.length = l2.length * r.sz ∧ Bh r w (Fz B (AD M Z)) xs l ∧ Bh r w (Fz B (AD M Z)) news l2 ∧
      (Builtin.append_ #[t, t] ty #[v, u]).run P w = .ok (.slice (some ⟨w.heap.size, 0, none⟩) (l.length + l2.length) (grownCap w (l.length + l2.length) c e))
        (w.drew.alloc (.cells (xs.toArray ++ news.toArray ++ Builtin.zeroCells z.cells (grownCap w (l.length + l2.length) c e - (l.length + l2.length))) e)) := by
    rcases hsrc with ⟨ad2, c2, rfl, rfl⟩ | ⟨b, o2, c2, news, rfl, hc2, hcell, hr2⟩
    · rcases hsv with ⟨ad3, c3, rfl, rfl⟩ | ⟨b, off, cap, xs, rfl, hc, hcl, hr1⟩
      · simp at hlt
      · cases hv; simp at hlt; omega
    · have hnl := hr2.len
      rcases hsv with ⟨ad3, c3, rfl, rfl⟩ | ⟨b', off, cap, xs, rfl, hc, hcl, hr1⟩
      · cases hv
        simp only [List.length_nil, Nat.zero_add] at hmax hlt hbyb ⊢
        exact ⟨[], news, by simp, hnl, rfl, hr2, by
          have hr := run_append_grow (P := P) w t ty e i z E.desc hi hz ad 0 c [] (by simp) (by simp) ⟨b, o2, none⟩ l2.length c2 news (by rw [his]; exact hnl) (fun j u hu => by rw [BZ]; exact hcell j u hu) (by omega) (by omega) (growslice_fits (by omega) (by simpa using hbyb))
          simp only [Nat.zero_add] at hr
          exact hr⟩
      · cases hv
        exact ⟨xs, news, hr1.len, hnl, hr1, hr2, run_append_grow (P := P) w t ty e i z E.desc hi hz ⟨b', off, none⟩ l.length _ xs (by rw [his]; exact hr1.len) (fun j u hu => by rw [BZ]; exact hcl j u hu) ⟨b, o2, none⟩ l2.length c2 news (by rw [his]; exact hnl) (fun j u hu => by rw [BZ]; exact hcell j u hu) (by omega) (by omega) (growslice_fits (by omega) hbyb)⟩
  obtain ⟨xs, news, hx1, hx2, hr1, hr2, hrun⟩ := key
  have hg1 := grownCap_ge w (l.length + l2.length) c e
  have hcz : ((Builtin.zeroCells z.cells (grownCap w (l.length + l2.length) c e - (l.length + l2.length))).toList).length = (grownCap w (l.length + l2.length) c e - (l.length + l2.length)) * r.sz := by
    rw [Array.length_toList, size_zeroCells, hzs]
  have hA := hW.drew.allocRow (xs ++ news ++ (Builtin.zeroCells z.cells (grownCap w (l.length + l2.length) c e - (l.length + l2.length))).toList) e (m := grownCap w (l.length + l2.length) c e) (l := l ++ l2) (r := r)
    (grownCap_le_maxLen _ _ _ _ (by unfold maxLen; omega)) (by
      rw [List.length_append, List.length_append, hx1, hx2, hcz, ← Nat.add_mul, ← Nat.add_mul]
      exact Nat.le_of_eq (by congr 1; omega)) (by rw [List.length_append]; exact hg1) (by
      have e1 : (l ++ l2).length * r.sz = (xs ++ news).length := by rw [List.length_append, List.length_append, hx1, hx2, Nat.add_mul]
      rw [e1, List.take_left]
      exact Bh.stab (w := w) (w' := { w with drawn := w.drawn + 1 }) (fun b hb _ => ⟨hb, rfl⟩) (hr1.append hr2))
  refine HK hF hn (v := .slice (some ⟨w.heap.size, 0, none⟩) (l.length + l2.length) (grownCap w (l.length + l2.length) c e)) (w' := w.drew.alloc (.cells (xs.toArray ++ news.toArray ++ Builtin.zeroCells z.cells (grownCap w (l.length + l2.length) c e - (l.length + l2.length))) e)) ?_ (fun a' h => k _ a' _ h ?_)
  · simp [execOp, Ca, invoke, builtin, hF.eval hs, hF.eval hx, hrun]
  · have e2 : (xs ++ news ++ (Builtin.zeroCells z.cells (grownCap w (l.length + l2.length) c e - (l.length + l2.length))).toList).toArray = xs.toArray ++ news.toArray ++ Builtin.zeroCells z.cells (grownCap w (l.length + l2.length) c e - (l.length + l2.length)) := by simp
    rw [e2] at hA
    rw [← List.length_append]
    rw [List.length_append] at hA ⊢
    exact hA
theorem FA {T : TypeId} (t ty e : TypeId) (i : TypeInfo) (z : Value) (ht : P.underlying t = some (.slice e)) (hT : P.underlying T = some (.int .i64)) (hi : P.info? e = some i) (hz : i.zero = some z)
    (b : Addr) (sLen sCap : Nat) (olds : List Value) (hlo : olds.length = sLen * i.size) (holds : ∀ j v, olds[j]? = some v → w.cell? (b.add j) = some v) (n : Nat) (hp : 0 < n * i.size)
    (hg : sCap < sLen + n) (h63 : sLen + n ≤ 1000000000) (hby : i.bytes ≤ 100000) (hfit : Builtin.nextslicecap (sLen + n) sCap * i.bytes ≤ 281474976710656) :
    (Builtin.append_ #[t, T] ty #[.slice (some b) sLen sCap, .int .i64 (n : Int)]).run P w =
      .ok (.slice (some ⟨w.heap.size, 0, none⟩) (sLen + n) (grownCap w (sLen + n) sCap e))
        (w.drew.alloc (.cells (olds.toArray ++ Builtin.zeroCells z.cells n ++ Builtin.zeroCells z.cells (grownCap w (sLen + n) sCap e - (sLen + n))) e)) := by
  have hn : ¬ (sLen + n ≤ sCap) := by omega
  have h63' : ¬ (9223372036854775807 < ((sLen : Int) + (n : Int))) := by omega
  have h48' : ¬ (281474976710656 < Builtin.nextslicecap (sLen + n) sCap * i.bytes) := by omega
  have hw : IntKind.i64.wrap (n : Int) = (n : Int) := IntWalk.i64_in _ ⟨by omega, by omega⟩
  have h0 : ¬ ((n : Int) < 0) := by omega
  have h1 : ¬ (281474976710656 < (n : Int) * (i.bytes : Int)) := by
    have : (n : Int) * (i.bytes : Int) ≤ 1000000000 * 100000 := Int.mul_le_mul (by omega) (by omega) (by omega) (by omega)
    omega
  have h2 : ¬ (n * i.size = 0) := by omega
  have hfo := run_firstCells_some (P := P) w.drew i.size sLen b sLen sCap olds hlo (by simpa using holds)
  simp [Builtin.append_, run_underlying ht, run_underlying hT, sizeOf, typeInfo, zeroValue, asInt, asIntOf, hi, hz, hw, h0, h1, h2, hn, h63', h48', Question.forced, hfo, newRow, grownCap]
theorem LU {T : TypeId} {z : Value} {s q : Operand} {d : Nat} {nn : Int} (z0 : α) (hF : Fr n ds F a) (hW : Stw B M Z w) (hn : Nat.blt d n = true) (E : Et P t e r.sz by_) (hz : (P.info? e).bind (·.zero) = some z) (hT : P.underlying T = some (.int .i64)) (hs : B9 F s = some v) (hx : B9 F q = some (.int .i64 nn))
    (hsv : GP w (Fz B (AD M Z)) r v l) (hcap : ∃ a k c, v = .slice (some a) k c ∧ c < l.length + nn.toNat) (hr : ∀ w A, r.rep w A z.cells.toList z0) (hm : mk nn z0 = some l2) (hap : Jb l l2 = some l3) (hby : Nat.ble by_ 100000 = true)
    (k : ∀ v' a' w', Fr n ds ((d, v') :: F) a' → Stw B M (row v' e r l3 :: Z) w' → wpList P ops Q rest a' w') :
    wpList P ops Q (⟨some d, .call ⟨.builtin .append, #[s, q], #[t, T]⟩, ty, pos, aft, none⟩ :: rest) a w := by
  obtain ⟨hmax, rfl⟩ := Ih hap
  obtain ⟨hm0, hm1, rfl⟩ := LQ hm
  rw [List.length_replicate] at hmax
  obtain ⟨i, z', hi, hz', his, hib, hzs⟩ := E.info
  have hzz : z' = z := by rw [hi] at hz; simp only [Option.bind_some] at hz; rw [hz'] at hz; exact Option.some.inj hz
  subst hzz
  have hby' := Nat.le_of_ble_eq_true hby
  have hbyb : (l.length + nn.toNat) * by_ ≤ 140737488355328 := Nat.le_trans (Nat.mul_le_mul hmax hby') (by decide)
  subst hib
  obtain ⟨ad, kk, c, hv, hlt⟩ := hcap
  have hnn : nn = ((nn.toNat : Nat) : Int) := by omega
  have hpos : 0 < nn.toNat := by
    rcases hsv with ⟨ad3, c3, rfl, rfl⟩ | ⟨b', off, cap, xs, rfl, hc, hcl, hr1⟩
    · simp at hlt; omega
    · cases hv; omega
  have hps : 0 < nn.toNat * i.size := by rw [his]; exact Nat.mul_pos hpos E.pos
  have key : ∃ xs : List Value, xs.length = l.length * r.sz ∧ Bh r w (Fz B (AD M Z)) xs l ∧
      (Builtin.append_ #[t, T] ty #[v, .int .i64 nn]).run P w = .ok (.slice (some ⟨w.heap.size, 0, none⟩) (l.length + nn.toNat) (grownCap w (l.length + nn.toNat) c e))
        (w.drew.alloc (.cells (xs.toArray ++ Builtin.zeroCells z'.cells nn.toNat ++ Builtin.zeroCells z'.cells (grownCap w (l.length + nn.toNat) c e - (l.length + nn.toNat))) e)) := by
    rcases hsv with ⟨ad3, c3, rfl, rfl⟩ | ⟨b', off, cap, xs, rfl, hc, hcl, hr1⟩
    · cases hv
      refine ⟨[], by simp, rfl, ?_⟩
      have hr := FA (P := P) (w := w) (T := T) t ty e i z' E.desc hT hi hz' ad 0 c [] (by simp) (by simp) nn.toNat hps (by simpa using hlt) (by simpa using hmax) hby' (growslice_fits (by simp at hmax; omega) (by simpa using hbyb))
      simp only [Nat.zero_add] at hr
      simp only [List.length_nil, Nat.zero_add]
      rw [← hnn] at hr
      exact hr
    · cases hv
      refine ⟨xs, hr1.len, hr1, ?_⟩
      have hr := FA (P := P) (w := w) (T := T) t ty e i z' E.desc hT hi hz' ⟨b', off, none⟩ l.length _ xs (by rw [his]; exact hr1.len) (fun j u hu => by rw [BZ]; exact hcl j u hu) nn.toNat hps hlt hmax hby' (growslice_fits (by omega) hbyb)
      rw [← hnn] at hr
      exact hr
  obtain ⟨xs, hx1, hr1, hrun⟩ := key
  have hg1 := grownCap_ge w (l.length + nn.toNat) c e
  have hlen : z'.cells.toList.length = r.sz := by simpa using hzs
  have hzc : ∀ m : Nat, (Builtin.zeroCells z'.cells m).toList = (List.replicate m z'.cells.toList).flatten := fun m => by
    have := JB z'.cells.toList (by rw [hlen]; exact E.pos) m
    rw [hlen] at this
    rw [← this]
    unfold Builtin.zeroCells madeCells
    rw [hzs]
  have hcl : ∀ m : Nat, ((Builtin.zeroCells z'.cells m).toList).length = m * r.sz := fun m => by
    show (Builtin.zeroCells z'.cells m).size = _
    rw [size_zeroCells, hzs]
  have hrep : Bh r w (Fz B (AD M Z)) (List.replicate nn.toNat z'.cells.toList).flatten (List.replicate nn.toNat z0) := Bh.rep (hr w _) _
  have hA := hW.drew.allocRow (xs ++ (Builtin.zeroCells z'.cells nn.toNat).toList ++ (Builtin.zeroCells z'.cells (grownCap w (l.length + nn.toNat) c e - (l.length + nn.toNat))).toList) e (m := grownCap w (l.length + nn.toNat) c e) (l := l ++ List.replicate nn.toNat z0) (r := r)
    (grownCap_le_maxLen _ _ _ _ (by unfold maxLen; omega)) (by
      rw [List.length_append, List.length_append, hx1, hcl, hcl, ← Nat.add_mul, ← Nat.add_mul]
      exact Nat.le_of_eq (by congr 1; omega)) (by rw [List.length_append, List.length_replicate]; exact hg1) (by
      have e1 : (l ++ List.replicate nn.toNat z0).length * r.sz = (xs ++ (Builtin.zeroCells z'.cells nn.toNat).toList).length := by rw [List.length_append, List.length_append, hx1, hcl, List.length_replicate, Nat.add_mul]
      rw [e1, List.take_left, hzc]
      exact Bh.stab (w := w) (w' := { w with drawn := w.drawn + 1 }) (fun b hb _ => ⟨hb, rfl⟩) (hr1.append hrep))
  refine HK hF hn (v := .slice (some ⟨w.heap.size, 0, none⟩) (l.length + nn.toNat) (grownCap w (l.length + nn.toNat) c e)) (w' := w.drew.alloc (.cells (xs.toArray ++ Builtin.zeroCells z'.cells nn.toNat ++ Builtin.zeroCells z'.cells (grownCap w (l.length + nn.toNat) c e - (l.length + nn.toNat))) e)) ?_ (fun a' h => k _ a' _ h ?_)
  · simp [execOp, Ca, invoke, builtin, hF.eval hs, hF.eval hx, hrun]
  · have e2 : (xs ++ (Builtin.zeroCells z'.cells nn.toNat).toList ++ (Builtin.zeroCells z'.cells (grownCap w (l.length + nn.toNat) c e - (l.length + nn.toNat))).toList).toArray = xs.toArray ++ Builtin.zeroCells z'.cells nn.toNat ++ Builtin.zeroCells z'.cells (grownCap w (l.length + nn.toNat) c e - (l.length + nn.toNat)) := by simp
    rw [e2] at hA
    rw [List.length_append, List.length_replicate] at hA
    exact hA
end
end Go.Proofs.Ytfnmlmglmegamaa
