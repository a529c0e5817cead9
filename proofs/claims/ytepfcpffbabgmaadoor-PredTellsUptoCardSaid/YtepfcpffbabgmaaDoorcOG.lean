/- Library functions that the kit has contracts for, and the variables of package level that they read. Conditions: none. -/
import Derived.Test.YtepfcpffbabgmaaDoorcQT
import Derived.Test.YtepfcpffbabgmaaDoorRows
import Derived.Lib.LaidTab
import Derived.Shelf.LaysM
import Derived.Shelf.LaysC
import Derived.Shelf.Strconv.Itoa3
import Derived.Shelf.Strings.OnBuilder
namespace Go.Proofs.YtepfcpffbabgmaaDoor
open Go Go.RowKit Go.Shelf Go.Sort
set_option linter.unusedVariables false
set_option linter.unusedSimpArgs false
set_option maxRecDepth 100000
theorem Qk {P : Program} {name : String} {k : IntKind} {zs : List Int} {w w' : World} {g : Nat} (hg : P.globalNamed name = some g) (h : Lib.TabIs P w name k zs) (hk : w'.heap[g]? = w.heap[g]?) : Lib.TabIs P w' name k zs := by
  unfold Lib.TabIs World.var? at *
  rw [hg] at *
  simp only [Option.bind_some] at *
  rw [hk]; exact h
theorem Qg {P : Program} {name : String} {k : IntKind} {zs : List Int} {w : World} {g : Nat} (hg : P.globalNamed name = some g) (h : Lib.TabIs P w name k zs) : g < w.heap.size := by
  unfold Lib.TabIs World.var? at h
  rw [hg] at h
  simp only [Option.bind_some] at h
  cases hx : w.heap[g]? with
  | none => rw [hx] at h; cases h
  | some o => exact (Array.getElem?_eq_some_iff.1 hx).1
def gs : List Nat := [0]
structure GF (w : World) : Prop where
  tab : Lib.TabIs Tryd.prog w "internal/strconv.uint64pow10" .u64 Lib.pow10Tab
theorem GF.stab {w w' : World} (h : GF w) (hk : ∀ g ∈ gs, w'.heap[g]? = w.heap[g]?) : GF w' := ⟨Qk (show Tryd.prog.globalNamed "internal/strconv.uint64pow10" = some 0 by kernel_rfl) h.tab (hk 0 (by decide))⟩
theorem GF.lt {w : World} (h : GF w) : ∀ g ∈ gs, g < w.heap.size := by
  intro g hg
  simp only [gs, List.mem_cons, List.not_mem_nil, or_false] at hg
  rcases hg with rfl
  · exact Qg (show Tryd.prog.globalNamed "internal/strconv.uint64pow10" = some 0 by kernel_rfl) h.tab
structure Gk (X : List Nat) (w : World) : Prop where
  f : GF w
  nx : ∀ g ∈ gs, g ∉ X
section
variable {B : Bs} {M Ml : Dg} {Z Zl : List It} {w : World}
theorem Gk.now (h : Gk B.X B.w0) (hW : Stw B M Z w) : GF w := h.f.stab fun g hg => hW.frm.block g (h.f.lt g hg) (h.nx g hg)
theorem Gk.go (h : Gk B.X B.w0) (hW : Stw B (Ml ++ M) (Zl ++ Z) w) : Gk (BB Ml Zl) w := ⟨h.now hW, fun g hg hm => by
  have hs : g ∈ BB (Ml ++ M) (Zl ++ Z) := (List.Sublist.append ((List.sublist_append_left _ _).map _) (Fi (List.sublist_append_left _ _))).subset hm
  rcases hW.own g hs with h1 | h1
  · exact h.nx g hg h1
  · have := h.f.lt g hg; omega⟩
theorem Gk.go0 (h : Gk B.X B.w0) (hW : Stw B M Z w) : Gk [] w := ⟨h.now hW, fun g hg hm => by cases hm⟩
end
def Qz : Go.Shelf.Ren where
  f := fun x => match x with | 171 => 46 | 243 => 57 | 246 => 71 | 283 => 81 | 284 => 82 | 285 => 83 | 286 => 84 | 129 => 70 | 317 => 88 | 318 => 89 | 319 => 90 | 320 => 91 | 337 => 94 | 338 => 95 | n => n
  t := fun x => match x with | 3 => 3 | 9 => 9 | 2 => 2 | 4 => 4 | 171 => 106 | 0 => 0 | 53 => 88 | 37 => 91 | 5 => 5 | 173 => 108 | 212 => 115 | 51 => 86 | 20 => 20 | 213 => 116 | 46 => 72 | 232 => 120 | 233 => 121 | n => n
  g := fun x => match x with | 17 => 0 | 18 => 2 | 19 => 3 | n => n
theorem PO : LaysM.n171 Tryd.prog Qz where
  mixed := by kernel_rfl
  f129 := Tryd.func70.trans (congrArg some (by kernel_rfl))
  f171 := Tryd.func46.trans (congrArg some (by kernel_rfl))
  f243 := Tryd.func57.trans (congrArg some (by kernel_rfl))
  f246 := Tryd.func71.trans (congrArg some (by kernel_rfl))
  f283 := Tryd.func81.trans (congrArg some (by kernel_rfl))
  f284 := Tryd.func82.trans (congrArg some (by kernel_rfl))
  f285 := Tryd.func83.trans (congrArg some (by kernel_rfl))
  f286 := Tryd.func84.trans (congrArg some (by kernel_rfl))
  f317 := Tryd.func88.trans (congrArg some (by kernel_rfl))
  f318 := Tryd.func89.trans (congrArg some (by kernel_rfl))
  f319 := Tryd.func90.trans (congrArg some (by kernel_rfl))
  f320 := Tryd.func91.trans (congrArg some (by kernel_rfl))
  f337 := Tryd.func94.trans (congrArg some (by kernel_rfl))
  f338 := Tryd.func95.trans (congrArg some (by kernel_rfl))
  t0 := Tryd.underlying0
  a0 := Tryd.isAgg0
  z0 := Tryd.sizeOf0
  v0 := Tryd.zeroValue0
  t2 := Tryd.underlying2
  a2 := Tryd.isAgg2
  z2 := Tryd.sizeOf2
  v2 := Tryd.zeroValue2
  t3 := Tryd.underlying3
  a3 := Tryd.isAgg3
  z3 := Tryd.sizeOf3
  v3 := Tryd.zeroValue3
  t4 := Tryd.underlying4
  a4 := Tryd.isAgg4
  z4 := Tryd.sizeOf4
  v4 := Tryd.zeroValue4
  t5 := Tryd.underlying5
  a5 := Tryd.isAgg5
  z5 := Tryd.sizeOf5
  v5 := Tryd.zeroValue5
  t9 := Tryd.underlying9
  a9 := Tryd.isAgg9
  z9 := Tryd.sizeOf9
  v9 := Tryd.zeroValue9
  t20 := Tryd.underlying20
  a20 := Tryd.isAgg20
  z20 := Tryd.sizeOf20
  v20 := Tryd.zeroValue20
  t37 := Tryd.underlying91
  a37 := Tryd.isAgg91
  z37 := Tryd.sizeOf91
  v37 := Tryd.zeroValue91
  t46 := Tryd.underlying72
  a46 := Tryd.isAgg72
  z46 := Tryd.sizeOf72
  v46 := Tryd.zeroValue72
  t51 := Tryd.underlying86
  a51 := Tryd.isAgg86
  z51 := Tryd.sizeOf86
  v51 := Tryd.zeroValue86
  t53 := Tryd.underlying88
  a53 := Tryd.isAgg88
  z53 := Tryd.sizeOf88
  v53 := Tryd.zeroValue88
  t171 := Tryd.underlying106
  a171 := Tryd.isAgg106
  z171 := Tryd.sizeOf106
  v171 := Tryd.zeroValue106
  t173 := Tryd.underlying108
  a173 := Tryd.isAgg108
  z173 := Tryd.sizeOf108
  v173 := Tryd.zeroValue108
  t212 := Tryd.underlying115
  a212 := Tryd.isAgg115
  z212 := Tryd.sizeOf115
  v212 := Tryd.zeroValue115
  t213 := Tryd.underlying116
  a213 := Tryd.isAgg116
  z213 := Tryd.sizeOf116
  t232 := Tryd.underlying120
  a232 := Tryd.isAgg120
  z232 := Tryd.sizeOf120
  v232 := Tryd.zeroValue120
  t233 := Tryd.underlying121
  a233 := Tryd.isAgg121
  z233 := Tryd.sizeOf121
  v233 := Tryd.zeroValue121
  g17 := by kernel_rfl
  g18 := by kernel_rfl
  g19 := by kernel_rfl
  i0 := by kernel_rfl
  i2 := by kernel_rfl
  i3 := by kernel_rfl
  i4 := by kernel_rfl
  i5 := by kernel_rfl
  i9 := by kernel_rfl
  i20 := by kernel_rfl
  i37 := by kernel_rfl
  i46 := by kernel_rfl
  i51 := by kernel_rfl
  i53 := by kernel_rfl
  i171 := by kernel_rfl
  i173 := by kernel_rfl
  i212 := by kernel_rfl
  i232 := by kernel_rfl
  i233 := by kernel_rfl
  m17 := by kernel_rfl
  m18 := by kernel_rfl
  m19 := by kernel_rfl
def Ot : Go.Shelf.Ren where
  f := fun x => match x with | 156 => 58 | 165 => 72 | 166 => 73 | 169 => 74 | 240 => 85 | 241 => 86 | 276 => 92 | 277 => 93 | n => n
  t := fun x => match x with | 31 => 73 | 9 => 9 | 3 => 3 | 4 => 4 | 0 => 0 | 20 => 20 | 72 => 93 | 76 => 97 | 70 => 90 | 37 => 91 | 75 => 96 | 127 => 110 | 164 => 117 | 5 => 5 | 80 => 99 | n => n
  g := fun x => x
theorem NC : Lays.n156 Tryd.prog Ot where
  mixed := by kernel_rfl
  f156 := Tryd.func58.trans (congrArg some (by kernel_rfl))
  f165 := Tryd.func72.trans (congrArg some (by kernel_rfl))
  f166 := Tryd.func73.trans (congrArg some (by kernel_rfl))
  f169 := Tryd.func74.trans (congrArg some (by kernel_rfl))
  f240 := Tryd.func85.trans (congrArg some (by kernel_rfl))
  f241 := Tryd.func86.trans (congrArg some (by kernel_rfl))
  f276 := Tryd.func92.trans (congrArg some (by kernel_rfl))
  f277 := Tryd.func93.trans (congrArg some (by kernel_rfl))
  t0 := Tryd.underlying0
  a0 := Tryd.isAgg0
  z0 := Tryd.sizeOf0
  v0 := Tryd.zeroValue0
  t3 := Tryd.underlying3
  a3 := Tryd.isAgg3
  z3 := Tryd.sizeOf3
  v3 := Tryd.zeroValue3
  t4 := Tryd.underlying4
  a4 := Tryd.isAgg4
  z4 := Tryd.sizeOf4
  v4 := Tryd.zeroValue4
  t9 := Tryd.underlying9
  a9 := Tryd.isAgg9
  z9 := Tryd.sizeOf9
  v9 := Tryd.zeroValue9
  t20 := Tryd.underlying20
  a20 := Tryd.isAgg20
  z20 := Tryd.sizeOf20
  v20 := Tryd.zeroValue20
  t31 := Tryd.underlying73
  a31 := Tryd.isAgg73
  z31 := Tryd.sizeOf73
  v31 := Tryd.zeroValue73
  t37 := Tryd.underlying91
  a37 := Tryd.isAgg91
  z37 := Tryd.sizeOf91
  v37 := Tryd.zeroValue91
  t70 := Tryd.underlying90
  a70 := Tryd.isAgg90
  z70 := Tryd.sizeOf90
  v70 := Tryd.zeroValue90
  t72 := Tryd.underlying93
  a72 := Tryd.isAgg93
  z72 := Tryd.sizeOf93
  v72 := Tryd.zeroValue93
  t75 := Tryd.underlying96
  a75 := Tryd.isAgg96
  z75 := Tryd.sizeOf96
  v75 := Tryd.zeroValue96
  t76 := Tryd.underlying97
  a76 := Tryd.isAgg97
  z76 := Tryd.sizeOf97
  v76 := Tryd.zeroValue97
  t127 := Tryd.underlying110
  a127 := Tryd.isAgg110
  z127 := Tryd.sizeOf110
  v127 := Tryd.zeroValue110
  t164 := Tryd.underlying117
  a164 := Tryd.isAgg117
  z164 := Tryd.sizeOf117
  v164 := Tryd.zeroValue117
theorem LX : Builder.Extra Tryd.prog Ot where
  t5 := Tryd.underlying5
  a5 := Tryd.isAgg5
  z5 := Tryd.sizeOf5
  v5 := Tryd.zeroValue5
  infoByte := by kernel_rfl
  cellsByte := by kernel_rfl
  sizeByte := by kernel_rfl
  sizeBuilder := by kernel_rfl
  liesBuilder := by kernel_rfl
  neB5 := by decide
theorem NT {w : World} (k : Nat) (os : Array Obj) : Below w.heap.size w (grow (w.drewN k) os) := ⟨rfl, rfl, rfl, by simp [grow, World.drewN], fun j hj => by
  show (w.heap ++ os)[j]? = _
  rw [Array.getElem?_append_left hj]⟩
def Nz (n : Int) : Option (List UInt8) := if -9223372036854775808 ≤ n ∧ n ≤ 9223372036854775807 then some (Lib.itoa n) else none
theorem Q7 (Y : Nat → Prop) (w0 : World) (p0 : Int) (r : List UInt8) (H : Nz p0 = some r) (hG : Gk [] w0) :
    Calls Tryd.prog 46 #[.int .i64 p0] w0 fun e w' => e = .returned (.string (bs r)) ∧ Below w0.heap.size w0 w' := by
  unfold Nz at H
  split at H
  · rename_i hr
    cases H
    refine (Any.strconv_Itoa PO p0 hr.1 hr.2 w0 hG.f.tab).mono ?_
    rintro e w' ⟨rfl, k, os, rfl⟩
    exact ⟨rfl, NT k os⟩
  · cases H
def M7 (l : List (List UInt8)) (sep : List UInt8) : Option (List UInt8) := if l.length ≤ 1000000000 ∧ (Lib.join l sep).length ≤ 1000000000 then some (Lib.join l sep) else none
theorem Q9 (Y : Nat → Prop) (w0 : World) (v1 : Value) (p0 : List (List UInt8)) (p1 : List UInt8) (r : List UInt8) (H : M7 p0 p1 = some r) (h_v1 : Sl w0 (NX []) Rp.str v1 p0) :
    Calls Tryd.prog 58 #[v1, .string (bs p1)] w0 fun e w' => e = .returned (.string (bs r)) ∧ Below w0.heap.size w0 w' := by
  unfold M7 at H
  split at H
  · rename_i hr
    cases H
    rcases h_v1 with ⟨ad, cap, rfl, rfl⟩ | ⟨b, off, cap, xs, rfl, hc, hA, hb, hx, hl⟩
    · refine (Any.strings_Join_none NC LX ad cap (bs p1) w0).mono ?_
      rintro e w' ⟨rfl, rfl⟩
      exact ⟨rfl, Below.refl _ _⟩
    · have em : (p0.map bs).map (fun x => x.data.toList) = p0 := by
        rw [List.map_map]
        have : ((fun x : ByteArray => x.data.toList) ∘ bs) = id := funext fun l => by simp [bs]
        rw [this, List.map_id]
      have e1 : (bs p1).data.toList = p1 := by simp [bs]
      have hlen : (Lib.join ((p0.map bs).map (fun x => x.data.toList)) (bs p1).data.toList).length ≤ 140737488355328 := by
        rw [em, e1]; omega
      have hcells : ∀ (j : Nat) x, (p0.map bs)[j]? = some x → w0.cell? ⟨b, off + j, none⟩ = some (.string x) := by
        intro j x hj
        rw [List.getElem?_map] at hj
        cases hy : p0[j]? with
        | none => rw [hy] at hj; cases hj
        | some y =>
          rw [hy] at hj
          cases hj
          obtain ⟨cs, h1, h2⟩ := Cb.get hl hy
          have h1 : cs = [.string (bs y)] := h1
          subst h1
          have h3 := h2 0 _ rfl
          have h4 := hx _ _ h3
          have e2 : j * Rp.str.sz + 0 = j := by show j * 1 + 0 = j; omega
          rw [e2] at h4; exact h4
      have h := Any.strings_Join NC LX b off cap (p0.map bs) (bs p1) w0 hcells hb (by rw [List.length_map]; omega) (by rw [List.length_map]; omega) hlen
      rw [List.length_map, em, e1] at h
      exact h
  · cases H
end Go.Proofs.YtepfcpffbabgmaaDoor
