/- Library functions that the kit has contracts for, and the variables of package level that they read. Conditions: none. -/
import Derived.Test.YtgoifghhcekahaaGreatDooreQT
import Derived.Test.YtgoifghhcekahaaGreatDoorRows
import Derived.Lib.LaidTab
import Derived.Shelf.LaysM
import Derived.Shelf.LaysC
import Derived.Shelf.Strconv.Itoa3
import Derived.Shelf.Strings.OnBuilder
namespace Go.Proofs.YtgoifghhcekahaaGreatDoor
open Go Go.RowKit Go.Shelf Go.Sort
set_option linter.unusedVariables false
set_option linter.unusedSimpArgs false
set_option maxRecDepth 100000
theorem bZ {P : Program} {name : String} {k : IntKind} {zs : List Int} {w w' : World} {g : Nat} (hg : P.globalNamed name = some g) (h : Lib.TabIs P w name k zs) (hk : w'.heap[g]? = w.heap[g]?) : Lib.TabIs P w' name k zs := by
  unfold Lib.TabIs World.var? at *
  rw [hg] at *
  simp only [Option.bind_some] at *
  rw [hk]; exact h
theorem cF {P : Program} {name : String} {k : IntKind} {zs : List Int} {w : World} {g : Nat} (hg : P.globalNamed name = some g) (h : Lib.TabIs P w name k zs) : g < w.heap.size := by
  unfold Lib.TabIs World.var? at h
  rw [hg] at h
  simp only [Option.bind_some] at h
  cases hx : w.heap[g]? with
  | none => rw [hx] at h; cases h
  | some o => exact (Array.getElem?_eq_some_iff.1 hx).1
def gs : List Nat := [0]
structure GF (w : World) : Prop where
  tab : Lib.TabIs Tryz.prog w "internal/strconv.uint64pow10" .u64 Lib.pow10Tab
theorem GF.stab {w w' : World} (h : GF w) (hk : ∀ g ∈ gs, w'.heap[g]? = w.heap[g]?) : GF w' := ⟨bZ (show Tryz.prog.globalNamed "internal/strconv.uint64pow10" = some 0 by kernel_rfl) h.tab (hk 0 (by decide))⟩
theorem GF.lt {w : World} (h : GF w) : ∀ g ∈ gs, g < w.heap.size := by
  intro g hg
  simp only [gs, List.mem_cons, List.not_mem_nil, or_false] at hg
  rcases hg with rfl
  · exact cF (show Tryz.prog.globalNamed "internal/strconv.uint64pow10" = some 0 by kernel_rfl) h.tab
structure Gk (X : List Nat) (w : World) : Prop where
  f : GF w
  nx : ∀ g ∈ gs, g ∉ X
section
variable {B : Bs} {M Ml : CO} {Z Zl : List It} {w : World}
theorem Gk.now (h : Gk B.X B.w0) (hW : Stw B M Z w) : GF w := h.f.stab fun g hg => hW.frm.block g (h.f.lt g hg) (h.nx g hg)
theorem Gk.go (h : Gk B.X B.w0) (hW : Stw B (Ml ++ M) (Zl ++ Z) w) : Gk (An Ml Zl) w := ⟨h.now hW, fun g hg hm => by
  have hs : g ∈ An (Ml ++ M) (Zl ++ Z) := (List.Sublist.append ((List.sublist_append_left _ _).map _) (Gs (List.sublist_append_left _ _))).subset hm
  rcases hW.own g hs with h1 | h1
  · exact h.nx g hg h1
  · have := h.f.lt g hg; omega⟩
theorem Gk.go0 (h : Gk B.X B.w0) (hW : Stw B M Z w) : Gk [] w := ⟨h.now hW, fun g hg hm => by cases hm⟩
end
def eB : Go.Shelf.Ren where
  f := fun x => match x with | 171 => 69 | 243 => 102 | 246 => 134 | 283 => 149 | 284 => 150 | 285 => 151 | 286 => 152 | 129 => 123 | 317 => 159 | 318 => 160 | 319 => 161 | 320 => 162 | 337 => 163 | 338 => 164 | n => n
  t := fun x => match x with | 3 => 3 | 9 => 9 | 2 => 2 | 4 => 4 | 171 => 186 | 0 => 0 | 53 => 168 | 37 => 143 | 5 => 5 | 173 => 188 | 212 => 199 | 51 => 166 | 20 => 20 | 213 => 200 | 46 => 134 | 232 => 201 | 233 => 202 | n => n
  g := fun x => match x with | 17 => 0 | 18 => 2 | 19 => 3 | n => n
theorem ZA : LaysM.n171 Tryz.prog eB where
  mixed := by kernel_rfl
  f129 := Tryz.func123.trans (congrArg some (by kernel_rfl))
  f171 := Tryz.func69.trans (congrArg some (by kernel_rfl))
  f243 := Tryz.func102.trans (congrArg some (by kernel_rfl))
  f246 := Tryz.func134.trans (congrArg some (by kernel_rfl))
  f283 := Tryz.func149.trans (congrArg some (by kernel_rfl))
  f284 := Tryz.func150.trans (congrArg some (by kernel_rfl))
  f285 := Tryz.func151.trans (congrArg some (by kernel_rfl))
  f286 := Tryz.func152.trans (congrArg some (by kernel_rfl))
  f317 := Tryz.func159.trans (congrArg some (by kernel_rfl))
  f318 := Tryz.func160.trans (congrArg some (by kernel_rfl))
  f319 := Tryz.func161.trans (congrArg some (by kernel_rfl))
  f320 := Tryz.func162.trans (congrArg some (by kernel_rfl))
  f337 := Tryz.func163.trans (congrArg some (by kernel_rfl))
  f338 := Tryz.func164.trans (congrArg some (by kernel_rfl))
  t0 := Tryz.underlying0
  a0 := Tryz.isAgg0
  z0 := Tryz.sizeOf0
  v0 := Tryz.zeroValue0
  t2 := Tryz.underlying2
  a2 := Tryz.isAgg2
  z2 := Tryz.sizeOf2
  v2 := Tryz.zeroValue2
  t3 := Tryz.underlying3
  a3 := Tryz.isAgg3
  z3 := Tryz.sizeOf3
  v3 := Tryz.zeroValue3
  t4 := Tryz.underlying4
  a4 := Tryz.isAgg4
  z4 := Tryz.sizeOf4
  v4 := Tryz.zeroValue4
  t5 := Tryz.underlying5
  a5 := Tryz.isAgg5
  z5 := Tryz.sizeOf5
  v5 := Tryz.zeroValue5
  t9 := Tryz.underlying9
  a9 := Tryz.isAgg9
  z9 := Tryz.sizeOf9
  v9 := Tryz.zeroValue9
  t20 := Tryz.underlying20
  a20 := Tryz.isAgg20
  z20 := Tryz.sizeOf20
  v20 := Tryz.zeroValue20
  t37 := Tryz.underlying143
  a37 := Tryz.isAgg143
  z37 := Tryz.sizeOf143
  v37 := Tryz.zeroValue143
  t46 := Tryz.underlying134
  a46 := Tryz.isAgg134
  z46 := Tryz.sizeOf134
  v46 := Tryz.zeroValue134
  t51 := Tryz.underlying166
  a51 := Tryz.isAgg166
  z51 := Tryz.sizeOf166
  v51 := Tryz.zeroValue166
  t53 := Tryz.underlying168
  a53 := Tryz.isAgg168
  z53 := Tryz.sizeOf168
  v53 := Tryz.zeroValue168
  t171 := Tryz.underlying186
  a171 := Tryz.isAgg186
  z171 := Tryz.sizeOf186
  v171 := Tryz.zeroValue186
  t173 := Tryz.underlying188
  a173 := Tryz.isAgg188
  z173 := Tryz.sizeOf188
  v173 := Tryz.zeroValue188
  t212 := Tryz.underlying199
  a212 := Tryz.isAgg199
  z212 := Tryz.sizeOf199
  v212 := Tryz.zeroValue199
  t213 := Tryz.underlying200
  a213 := Tryz.isAgg200
  z213 := Tryz.sizeOf200
  t232 := Tryz.underlying201
  a232 := Tryz.isAgg201
  z232 := Tryz.sizeOf201
  v232 := Tryz.zeroValue201
  t233 := Tryz.underlying202
  a233 := Tryz.isAgg202
  z233 := Tryz.sizeOf202
  v233 := Tryz.zeroValue202
  g17 := by kernel_rfl
  g18 := by kernel_rfl
  g19 := by kernel_rfl
  i0 := by kernel_rfl
  i2 := by kernel_rfl
  i3 := by kernel_rfl
  i4 := by kernel_rfl
  i5 := by kernel_rfl
  i9 := by kernel_rfl
  i20 := by kernel_rfl
  i37 := by kernel_rfl
  i46 := by kernel_rfl
  i51 := by kernel_rfl
  i53 := by kernel_rfl
  i171 := by kernel_rfl
  i173 := by kernel_rfl
  i212 := by kernel_rfl
  i232 := by kernel_rfl
  i233 := by kernel_rfl
  m17 := by kernel_rfl
  m18 := by kernel_rfl
  m19 := by kernel_rfl
def W8 : Go.Shelf.Ren where
  f := fun x => match x with | 156 => 70 | 165 => 103 | 166 => 104 | 169 => 105 | 240 => 135 | 241 => 136 | 276 => 153 | 277 => 154 | n => n
  t := fun x => match x with | 31 => 112 | 9 => 9 | 3 => 3 | 4 => 4 | 0 => 0 | 20 => 20 | 72 => 145 | 76 => 149 | 70 => 142 | 37 => 143 | 75 => 148 | 127 => 176 | 164 => 190 | 5 => 5 | 80 => 151 | n => n
  g := fun x => x
theorem Uj : Lays.n156 Tryz.prog W8 where
  mixed := by kernel_rfl
  f156 := Tryz.func70.trans (congrArg some (by kernel_rfl))
  f165 := Tryz.func103.trans (congrArg some (by kernel_rfl))
  f166 := Tryz.func104.trans (congrArg some (by kernel_rfl))
  f169 := Tryz.func105.trans (congrArg some (by kernel_rfl))
  f240 := Tryz.func135.trans (congrArg some (by kernel_rfl))
  f241 := Tryz.func136.trans (congrArg some (by kernel_rfl))
  f276 := Tryz.func153.trans (congrArg some (by kernel_rfl))
  f277 := Tryz.func154.trans (congrArg some (by kernel_rfl))
  t0 := Tryz.underlying0
  a0 := Tryz.isAgg0
  z0 := Tryz.sizeOf0
  v0 := Tryz.zeroValue0
  t3 := Tryz.underlying3
  a3 := Tryz.isAgg3
  z3 := Tryz.sizeOf3
  v3 := Tryz.zeroValue3
  t4 := Tryz.underlying4
  a4 := Tryz.isAgg4
  z4 := Tryz.sizeOf4
  v4 := Tryz.zeroValue4
  t9 := Tryz.underlying9
  a9 := Tryz.isAgg9
  z9 := Tryz.sizeOf9
  v9 := Tryz.zeroValue9
  t20 := Tryz.underlying20
  a20 := Tryz.isAgg20
  z20 := Tryz.sizeOf20
  v20 := Tryz.zeroValue20
  t31 := Tryz.underlying112
  a31 := Tryz.isAgg112
  z31 := Tryz.sizeOf112
  v31 := Tryz.zeroValue112
  t37 := Tryz.underlying143
  a37 := Tryz.isAgg143
  z37 := Tryz.sizeOf143
  v37 := Tryz.zeroValue143
  t70 := Tryz.underlying142
  a70 := Tryz.isAgg142
  z70 := Tryz.sizeOf142
  v70 := Tryz.zeroValue142
  t72 := Tryz.underlying145
  a72 := Tryz.isAgg145
  z72 := Tryz.sizeOf145
  v72 := Tryz.zeroValue145
  t75 := Tryz.underlying148
  a75 := Tryz.isAgg148
  z75 := Tryz.sizeOf148
  v75 := Tryz.zeroValue148
  t76 := Tryz.underlying149
  a76 := Tryz.isAgg149
  z76 := Tryz.sizeOf149
  v76 := Tryz.zeroValue149
  t127 := Tryz.underlying176
  a127 := Tryz.isAgg176
  z127 := Tryz.sizeOf176
  v127 := Tryz.zeroValue176
  t164 := Tryz.underlying190
  a164 := Tryz.isAgg190
  z164 := Tryz.sizeOf190
  v164 := Tryz.zeroValue190
theorem Sg : Builder.Extra Tryz.prog W8 where
  t5 := Tryz.underlying5
  a5 := Tryz.isAgg5
  z5 := Tryz.sizeOf5
  v5 := Tryz.zeroValue5
  infoByte := by kernel_rfl
  cellsByte := by kernel_rfl
  sizeByte := by kernel_rfl
  sizeBuilder := by kernel_rfl
  liesBuilder := by kernel_rfl
  neB5 := by decide
theorem VU {w : World} (k : Nat) (os : Array Obj) : Below w.heap.size w (grow (w.drewN k) os) := ⟨rfl, rfl, rfl, by simp [grow, World.drewN], fun j hj => by
  show (w.heap ++ os)[j]? = _
  rw [Array.getElem?_append_left hj]⟩
def QV (n : Int) : Option (List UInt8) := if -9223372036854775808 ≤ n ∧ n ≤ 9223372036854775807 then some (Lib.itoa n) else none
theorem lC (Y : Nat → Prop) (w0 : World) (p0 : Int) (r : List UInt8) (H : QV p0 = some r) (hG : Gk [] w0) :
    Calls Tryz.prog 69 #[.int .i64 p0] w0 fun e w' => e = .returned (.string (bs r)) ∧ Below w0.heap.size w0 w' := by
  unfold QV at H
  split at H
  · rename_i hr
    cases H
    refine (Any.strconv_Itoa ZA p0 hr.1 hr.2 w0 hG.f.tab).mono ?_
    rintro e w' ⟨rfl, k, os, rfl⟩
    exact ⟨rfl, VU k os⟩
  · cases H
def Kv (l : List (List UInt8)) (sep : List UInt8) : Option (List UInt8) := if l.length ≤ 1000000000 ∧ (Lib.join l sep).length ≤ 1000000000 then some (Lib.join l sep) else none
theorem jO (Y : Nat → Prop) (w0 : World) (v1 : Value) (p0 : List (List UInt8)) (p1 : List UInt8) (r : List UInt8) (H : Kv p0 p1 = some r) (h_v1 : Sl w0 (NX []) Rp.str v1 p0) :
    Calls Tryz.prog 70 #[v1, .string (bs p1)] w0 fun e w' => e = .returned (.string (bs r)) ∧ Below w0.heap.size w0 w' := by
  unfold Kv at H
  split at H
  · rename_i hr
    cases H
    rcases h_v1 with ⟨ad, cap, rfl, rfl⟩ | ⟨b, off, cap, xs, rfl, hc, hA, hb, hx, hl⟩
    · refine (Any.strings_Join_none Uj Sg ad cap (bs p1) w0).mono ?_
      rintro e w' ⟨rfl, rfl⟩
      exact ⟨rfl, Below.refl _ _⟩
    · have em : (p0.map bs).map (fun x => x.data.toList) = p0 := by
        rw [List.map_map]
        have : ((fun x : ByteArray => x.data.toList) ∘ bs) = id := funext fun l => by simp [bs]
        rw [this, List.map_id]
      have e1 : (bs p1).data.toList = p1 := by simp [bs]
      have hlen : (Lib.join ((p0.map bs).map (fun x => x.data.toList)) (bs p1).data.toList).length ≤ 140737488355328 := by
        rw [em, e1]; omega
      have hcells : ∀ (j : Nat) x, (p0.map bs)[j]? = some x → w0.cell? ⟨b, off + j, none⟩ = some (.string x) := by
        intro j x hj
        rw [List.getElem?_map] at hj
        cases hy : p0[j]? with
        | none => rw [hy] at hj; cases hj
        | some y =>
          rw [hy] at hj
          cases hj
          obtain ⟨cs, h1, h2⟩ := BL.get hl hy
          have h1 : cs = [.string (bs y)] := h1
          subst h1
          have h3 := h2 0 _ rfl
          have h4 := hx _ _ h3
          have e2 : j * Rp.str.sz + 0 = j := by show j * 1 + 0 = j; omega
          rw [e2] at h4; exact h4
      have h := Any.strings_Join Uj Sg b off cap (p0.map bs) (bs p1) w0 hcells hb (by rw [List.length_map]; omega) (by rw [List.length_map]; omega) hlen
      rw [List.length_map, em, e1] at h
      exact h
  · cases H
end Go.Proofs.YtgoifghhcekahaaGreatDoor
