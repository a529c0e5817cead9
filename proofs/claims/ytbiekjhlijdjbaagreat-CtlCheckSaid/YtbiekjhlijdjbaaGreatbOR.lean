/- What an argument is, as it is read: plain data. Conditions: none. -/
import Derived.Test.YtbiekjhlijdjbaaGreatbQP
import Derived.OpenShut
import Derived.Carry
set_option linter.unusedVariables false
set_option linter.unusedSimpArgs false
open Go Go.RowKit
namespace Go.Proofs.YtbiekjhlijdjbaaGreat
def Bk {α : Type} (P : Program) (t : TypeId) (r : Rp α) (ok : α → Prop) : Prop :=
  ∀ (H : Type) (enc : TypeId × Value → H) (W : World) (base : Nat) (sp : Nat → Bool) (fuel : Nat) (cs : List Value) (x : DataW H × List MemPlace),DataW.trod enc P W base sp true fuel t cs = some x → ∃ a,r.rep W any cs a ∧ ok a
def gB (l : List UInt8) : Prop := l.length ≤ maxLen
def Mp {α : Type} (ok : α → Prop) (l : List α) : Prop := l.length ≤ maxLen ∧ ∀ x ∈ l,ok x
def gI (k : FloatKind) (n : Nat) : Prop := (Lit.float k n).wf = true
def eB {α : Type} (_ : α) : Prop := True
def Gs {α β : Type} (f : α → Prop) (g : β → Prop) (p : α × β) : Prop := f p.1 ∧ g p.2
section
variable {P : Program} {t : TypeId}
theorem Bk.int {k : IntKind} (hu : P.underlying t = some (.int k)) : Bk P t (Rp.int k) (fun n => (Lit.int k n).wf = true) := by
  intro H enc W base sp fuel cs x h
  cases fuel with
  | zero => simp [DataW.trod] at h
  | succ fuel =>
    unfold DataW.trod at h
    rw [hu] at h
    split at h <;> simp_all
    obtain ⟨⟨rfl,hw⟩,rfl⟩ := h
    exact ⟨_,rfl,hw⟩
theorem Bk.bool (hu : P.underlying t = some .bool) : Bk P t Rp.bool eB := by
  intro H enc W base sp fuel cs x h
  cases fuel with
  | zero => simp [DataW.trod] at h
  | succ fuel =>
    unfold DataW.trod at h
    rw [hu] at h
    rcases cs with _ | ⟨v,_ | ⟨v2,cs⟩⟩
    · simp at h
    · cases v <;> simp at h
      exact ⟨_,rfl,trivial⟩
    · simp at h
theorem Bk.flt {k : FloatKind} (hu : P.underlying t = some (.float k)) : Bk P t (Rp.flt k) (gI k) := by
  intro H enc W base sp fuel cs x h
  cases fuel with
  | zero => simp [DataW.trod] at h
  | succ fuel =>
    unfold DataW.trod at h
    rw [hu] at h
    split at h <;> simp_all
    obtain ⟨⟨rfl,hw⟩,rfl⟩ := h
    exact ⟨_,rfl,hw⟩
theorem Bk.str (hu : P.underlying t = some .string) : Bk P t Rp.str gB := by
  intro H enc W base sp fuel cs x h
  cases fuel with
  | zero => simp [DataW.trod] at h
  | succ fuel =>
    unfold DataW.trod at h
    rw [hu] at h
    rcases cs with _ | ⟨v,_ | ⟨v2,cs⟩⟩
    · simp at h
    · cases v with
      | string s =>
        simp only at h
        split at h
        · rename_i hs
          refine ⟨s.data.toList,rfl, ?_⟩
          show s.data.toList.length ≤ maxLen
          exact hs
        · cases h
      | _ => simp at h
    · simp at h
def Br {α : Type} (P : Program) (fs : List Field) (off : Nat) (r : Rp α) (ok : α → Prop) : Prop :=
  ∀ (H : Type) (enc : TypeId × Value → H) (W : World) (base : Nat) (sp : Nat → Bool) (fuel : Nat) (cs : List Value) (xs : List (DataW H × List MemPlace)),
    (fs.mapM fun f => DataW.trod enc P W base sp true fuel f.type ((cs.drop f.offset).take (P.cellsOf f.type))) = some xs → cs.length = off + r.sz → ∃ a,r.rep W any (cs.drop off) a ∧ ok a
theorem Br.nil {off : Nat} : Br P [] off Rp.unit eB := by
  intro H enc W base sp fuel cs xs h hl
  exact ⟨(),List.drop_eq_nil_of_le (by rw [hl]; exact Nat.le_refl _),trivial⟩
theorem HC {α β : Type} {g : α → Option β} {x : α} {l : List α} {ys : List β} (h : (x :: l).mapM g = some ys) : ∃ y zs,g x = some y ∧ l.mapM g = some zs := by
  rw [List.mapM_cons] at h
  obtain ⟨y,h1,h2⟩ := Option.bind_eq_some_iff.1 h
  obtain ⟨zs,h3,h4⟩ := Option.bind_eq_some_iff.1 h2
  exact ⟨y,zs,h1,h3⟩
theorem Br.one {α : Type} {r : Rp α} {ok : α → Prop} {f : Field} {off : Nat} (ho : f.offset = off) (hc : P.cellsOf f.type = r.sz) (h : Bk P f.type r ok) : Br P [f] off r ok := by
  intro H enc W base sp fuel cs xs hx hl
  obtain ⟨y,zs,h1,_⟩ := HC hx
  rw [ho,hc,List.take_of_length_le (by simp; omega)] at h1
  exact h H enc W base sp fuel _ y h1
theorem Br.cons {α β : Type} {r : Rp α} {s : Rp β} {ok : α → Prop} {ok' : β → Prop} {f : Field} {fs : List Field} {off : Nat} (ho : f.offset = off) (hc : P.cellsOf f.type = r.sz) (h : Bk P f.type r ok) (h' : Br P fs (off + r.sz) s ok') : Br P (f :: fs) off (r.pair s) (Gs ok ok') := by
  intro H enc W base sp fuel cs xs hx hl
  obtain ⟨y,zs,h1,h2⟩ := HC hx
  rw [ho,hc] at h1
  obtain ⟨a,ha,hoa⟩ := h H enc W base sp fuel _ y h1
  have hl' : cs.length = off + (r.sz + s.sz) := hl
  obtain ⟨b,hb,hob⟩ := h' H enc W base sp fuel cs zs h2 (by omega)
  refine ⟨(a,b),⟨_,_, ?_,ha,hb⟩,hoa,hob⟩
  rw [← List.drop_drop,List.take_append_drop]
theorem Bk.struct {α : Type} {r : Rp α} {ok : α → Prop} {fs : Array Field} (hu : P.underlying t = some (.struct fs)) (hc : P.cellsOf t = r.sz) (h : Br P fs.toList 0 r ok) : Bk P t r ok := by
  intro H enc W base sp fuel cs x hx
  cases fuel with
  | zero => simp [DataW.trod] at hx
  | succ fuel =>
    unfold DataW.trod at hx
    rw [hu] at hx
    simp only at hx
    split at hx
    · rename_i hl
      simp only [Option.map_eq_some_iff] at hx
      obtain ⟨xs,h1,_⟩ := hx
      obtain ⟨a,h2,h3⟩ := h H enc W base sp fuel cs xs h1 (by rw [hl,hc]; simp)
      exact ⟨a,by simpa using h2,h3⟩
    · cases hx
theorem IK {α β : Type} {g : α → Option β} : ∀ {l : List α} {ys : List β},l.mapM g = some ys → ys.length = l.length ∧ ∀ (j : Nat) (x : α) (y : β),l[j]? = some x → ys[j]? = some y → g x = some y
  | [],ys,h => by simp at h; subst h; simp
  | x :: l,ys,h => by
    rw [List.mapM_cons] at h
    obtain ⟨y,h1,h2⟩ := Option.bind_eq_some_iff.1 h
    obtain ⟨zs,h3,h4⟩ := Option.bind_eq_some_iff.1 h2
    simp at h4
    subst h4
    obtain ⟨h5,h6⟩ := IK h3
    refine ⟨by simp [h5],fun j x' y' hx hy => ?_⟩
    cases j with
    | zero => simp at hx hy; subst hx; subst hy; exact h1
    | succ j => simp at hx hy; exact h6 j x' y' hx hy
theorem OU {W : World} {base b o n : Nat} {cs : List Value} (h : W.cells? base ⟨b,o,none⟩ n = some cs) : cs.length = n ∧ ∀ j u,cs[j]? = some u → W.cell? ⟨b,o + j,none⟩ = some u := by
  unfold World.cells? at h
  split at h
  · obtain ⟨h1,h2⟩ := IK h
    refine ⟨by simpa using h1,fun j u hu => ?_⟩
    have hj : j < n := by have := (List.getElem?_eq_some_iff.1 hu).1; simp at h1; omega
    have := h2 j j u (by simp [hj]) hu
    rwa [Bg] at this
  · cases h
theorem A8.of {α : Type} {r : Rp α} {ok : α → Prop} {W : World} {b o : Nat} : ∀ (n k : Nat),(∀ i,i < n → ∃ cs a,cs.length = r.sz ∧ (∀ j u,cs[j]? = some u → W.cell? ⟨b,o + ((k + i) * r.sz + j),none⟩ = some u) ∧ r.rep W any cs a ∧ ok a) →
    ∃ xs l,l.length = n ∧ A8 r W any xs l ∧ (∀ j u,xs[j]? = some u → W.cell? ⟨b,o + (k * r.sz + j),none⟩ = some u) ∧ ∀ x ∈ l,ok x
  | 0,k,_ => ⟨[],[],rfl,rfl,by simp,by simp⟩
  | n + 1,k,h => by
    obtain ⟨cs,a,h1,h2,h3,h4⟩ := h 0 (by omega)
    obtain ⟨xs,l,e1,e2,e3,e4⟩ := A8.of n (k + 1) fun i hi => by
      obtain ⟨cs,a,h1,h2,h3,h4⟩ := h (i + 1) (by omega)
      exact ⟨cs,a,h1,fun j u hu => by rw [show k + 1 + i = k + (i + 1) by omega]; exact h2 j u hu,h3,h4⟩
    refine ⟨cs ++ xs,a :: l,by simp [e1],⟨cs,xs,rfl,h3,e2⟩,fun j u hu => ?_,fun x hx => ?_⟩
    · by_cases hj : j < cs.length
      · rw [List.getElem?_append_left hj] at hu
        have := h2 j u hu
        rwa [Nat.add_zero] at this
      · rw [List.getElem?_append_right (by omega)] at hu
        have := e3 _ u hu
        rw [h1] at this
        rw [show k * r.sz + j = (k + 1) * r.sz + (j - r.sz) by rw [Nat.succ_mul]; omega]
        exact this
    · rcases List.mem_cons.1 hx with rfl | hx
      · exact h4
      · exact e4 x hx
theorem Bk.slice {α : Type} {r : Rp α} {ok : α → Prop} {e : TypeId} (hu : P.underlying t = some (.slice e)) (hc : P.cellsOf e = r.sz) (hp : 0 < r.sz) (h : Bk P e r ok) : Bk P t (Rp.slice r) (Mp ok) := by
  intro H enc W base sp fuel cs x hx
  cases fuel with
  | zero => simp [DataW.trod] at hx
  | succ fuel =>
    unfold DataW.trod at hx
    rw [hu] at hx
    rcases cs with _ | ⟨v,_ | ⟨v2,cs⟩⟩
    · simp at hx
    · cases v <;> try (simp at hx; done)
      rename_i ad len cap
      cases ad with
      | none =>
        cases len <;> cases cap <;> simp at hx
        exact ⟨[],⟨_,rfl,.inl ⟨_,_,rfl,rfl⟩⟩,by simp,by simp⟩
      | some ad =>
        simp only at hx
        split at hx
        · rename_i hb
          obtain ⟨h1,h2,h3⟩ := hb
          obtain ⟨elems,h4,h5⟩ := Option.bind_eq_some_iff.1 hx
          obtain ⟨h6,h7⟩ := IK h4
          obtain ⟨b,o,sp'⟩ := ad
          have hel : ∀ i,i < len → ∃ cs y,W.cells? base ((⟨b,o,sp'⟩ : Addr).add (i * P.cellsOf e)) (P.cellsOf e) = some cs ∧ DataW.trod enc P W base sp true fuel e cs = some y := fun i hi => by
            have hlt : i < elems.length := by rw [h6]; simpa using hi
            have := h7 i i elems[i] (by simp [hi]) (by simp [hlt])
            obtain ⟨cs,k1,k2⟩ := Option.bind_eq_some_iff.1 this
            exact ⟨cs,_,k1,k2⟩
          by_cases hl0 : len = 0
          · subst hl0
            exact ⟨[],⟨_,rfl,.inl ⟨_,_,rfl,rfl⟩⟩,by simp,by simp⟩
          · have hspot : sp' = none := by
              obtain ⟨cs,y,k1,_⟩ := hel 0 (by omega)
              rw [Nat.zero_mul] at k1
              have k1' : W.cells? base ⟨b,o,sp'⟩ (P.cellsOf e) = some cs := k1
              unfold World.cells? at k1'
              rw [if_pos h1] at k1'
              obtain ⟨h8,h9⟩ := IK k1'
              have hpos : 0 < cs.length := by rw [h8,hc]; simpa using hp
              have h10 := h9 0 0 cs[0] (by rw [List.getElem?_range (by rw [hc]; exact hp)]) (by simp [hpos])
              cases sp' with
              | none => rfl
              | some q =>
                exfalso
                have : ((⟨b,o,some q⟩ : Addr).add 0) = ⟨b,o,some q⟩ := rfl
                rw [this] at h10
                unfold World.cell? at h10
                split at h10 <;> simp at h10
            subst hspot
            obtain ⟨xs,l,e1,e2,e3,e4⟩ := A8.of (r := r) (ok := ok) (W := W) (b := b) (o := o) len 0 fun i hi => by
              obtain ⟨cs,y,k1,k2⟩ := hel i hi
              rw [Bg,hc] at k1
              obtain ⟨k3,k4⟩ := OU k1
              obtain ⟨a,k5,k6⟩ := h H enc W base sp fuel cs y k2
              exact ⟨cs,a,k3,fun j u hu => by rw [Nat.zero_add, ← Nat.add_assoc]; exact k4 j u hu,k5,k6⟩
            refine ⟨l,⟨_,rfl,.inr ⟨b,o,cap,xs,by rw [e1],by omega,trivial, ?_,fun j u hu => by have := e3 j u hu; rwa [Nat.zero_mul,Nat.zero_add] at this,e2⟩⟩,by omega,e4⟩
            have hx0 : 0 < xs.length := by rw [e2.len,e1]; exact Nat.mul_pos (by omega) hp
            have := e3 0 xs[0] (by simp [hx0])
            exact World.block_lt_of_cell? (w := W) (a := ⟨b,o + (0 * r.sz + 0),none⟩) this
        · cases hx
    · simp at hx
theorem SL {fs : Array Field} {W : World} {r : Reach} {b : Nat} {v : Value} (hu : P.underlying t = some (.struct fs)) (hval : Value.okWide P W r b t v) : ∃ cs,v = .agg cs := by
  unfold Value.okWide at hval
  rw [hu] at hval
  obtain ⟨cs,h,_⟩ := hval
  exact ⟨cs,h⟩
end
end Go.Proofs.YtbiekjhlijdjbaaGreat
