/- Library functions that the kit has contracts for, and the variables of package level that they read. Conditions: none. -/
import Derived.Test.YtdllfdmdfdfilaaDoorQT
import Derived.Test.YtdllfdmdfdfilaaDoorRows
import Derived.Lib.LaidTab
import Derived.Shelf.LaysM
import Derived.Shelf.LaysC
import Derived.Shelf.Strconv.Itoa3
namespace Go.Proofs.YtdllfdmdfdfilaaDoor
open Go Go.RowKit Go.Shelf Go.Sort
set_option linter.unusedVariables false
set_option linter.unusedSimpArgs false
set_option maxRecDepth 100000

/-! ### What is known of the variables of package level -/
theorem tabIs_at {P : Program} {name : String} {k : IntKind} {zs : List Int} {w w' : World} {g : Nat} (hg : P.globalNamed name = some g) (h : Lib.TabIs P w name k zs) (hk : w'.heap[g]? = w.heap[g]?) : Lib.TabIs P w' name k zs := by
  unfold Lib.TabIs World.var? at *
  rw [hg] at *
  simp only [Option.bind_some] at *
  rw [hk]; exact h
theorem tabIs_lt {P : Program} {name : String} {k : IntKind} {zs : List Int} {w : World} {g : Nat} (hg : P.globalNamed name = some g) (h : Lib.TabIs P w name k zs) : g < w.heap.size := by
  unfold Lib.TabIs World.var? at h
  rw [hg] at h
  simp only [Option.bind_some] at h
  cases hx : w.heap[g]? with
  | none => rw [hx] at h; cases h
  | some o => exact (Array.getElem?_eq_some_iff.1 hx).1
theorem var_at {P : Program} {name : String} {x : Array Value} {w w' : World} {g : Nat} (hg : P.globalNamed name = some g) (h : w.var? P name = some x) (hk : w'.heap[g]? = w.heap[g]?) : w'.var? P name = some x := by
  unfold World.var? at *
  rw [hg] at *
  simp only [Option.bind_some] at *
  rw [hk]; exact h
theorem var_lt {P : Program} {name : String} {x : Array Value} {w : World} {g : Nat} (hg : P.globalNamed name = some g) (h : w.var? P name = some x) : g < w.heap.size := by
  unfold World.var? at h
  rw [hg] at h
  simp only [Option.bind_some] at h
  cases hx : w.heap[g]? with
  | none => rw [hx] at h; cases h
  | some o => exact (Array.getElem?_eq_some_iff.1 hx).1
theorem cell_lt' {w : World} {g : Nat} {v : Value} (h : w.cell? ⟨g, 0, none⟩ = some v) : g < w.heap.size := by
  unfold World.cell? at h
  cases hx : w.heap[g]? with
  | none => simp [hx] at h
  | some o => exact (Array.getElem?_eq_some_iff.1 hx).1
def gs : List Nat := [3]
structure GF (w : World) : Prop where
  tab : Lib.TabIs Tryd.prog w "internal/strconv.uint64pow10" .u64 Lib.pow10Tab
theorem GF.stab {w w' : World} (h : GF w) (hk : ∀ g ∈ gs, w'.heap[g]? = w.heap[g]?) : GF w' := ⟨tabIs_at (show Tryd.prog.globalNamed "internal/strconv.uint64pow10" = some 3 by kernel_rfl) h.tab (hk 3 (by decide))⟩
theorem GF.lt {w : World} (h : GF w) : ∀ g ∈ gs, g < w.heap.size := by
  intro g hg
  simp only [gs, List.mem_cons, List.not_mem_nil, or_false] at hg
  rcases hg with rfl
  · exact tabIs_lt (show Tryd.prog.globalNamed "internal/strconv.uint64pow10" = some 3 by kernel_rfl) h.tab
structure Gk (X : List Nat) (w : World) : Prop where
  f : GF w
  nx : ∀ g ∈ gs, g ∉ X
section
variable {B : Bs} {M Ml : Blks} {Z Zl : List It} {w : World}
theorem Gk.now (h : Gk B.X B.w0) (hW : Stw B M Z w) : GF w := h.f.stab fun g hg => hW.frm.block g (h.f.lt g hg) (h.nx g hg)
theorem Gk.go (h : Gk B.X B.w0) (hW : Stw B (Ml ++ M) (Zl ++ Z) w) : Gk (blks Ml Zl) w := ⟨h.now hW, fun g hg hm => by
  have hs : g ∈ blks (Ml ++ M) (Zl ++ Z) := (List.Sublist.append ((List.sublist_append_left _ _).map _) (sub_flatMap (List.sublist_append_left _ _))).subset hm
  rcases hW.own g hs with h1 | h1
  · exact h.nx g hg h1
  · have := h.f.lt g hg; omega⟩
theorem Gk.go0 (h : Gk B.X B.w0) (hW : Stw B M Z w) : Gk [] w := ⟨h.now hW, fun g hg hm => by cases hm⟩
end
/-! ### The layings -/
def renItoa : Go.Shelf.Ren where
  f := fun x => match x with | 171 => 41 | 243 => 48 | 246 => 61 | 283 => 70 | 284 => 71 | 285 => 72 | 286 => 73 | 129 => 78 | 317 => 77 | 318 => 79 | 319 => 80 | 320 => 81 | 337 => 82 | 338 => 83 | n => n
  t := fun x => match x with | 3 => 3 | 9 => 9 | 2 => 2 | 4 => 4 | 171 => 113 | 0 => 0 | 53 => 106 | 37 => 66 | 5 => 5 | 173 => 116 | 212 => 124 | 51 => 101 | 20 => 20 | 213 => 125 | 46 => 92 | 232 => 133 | 233 => 134 | n => n
  g := fun x => match x with | 17 => 3 | 18 => 6 | 19 => 7 | n => n
theorem laysItoa : LaysM.n171 Tryd.prog renItoa where
  mixed := by kernel_rfl
  f129 := Tryd.func78.trans (congrArg some (by kernel_rfl))
  f171 := Tryd.func41.trans (congrArg some (by kernel_rfl))
  f243 := Tryd.func48.trans (congrArg some (by kernel_rfl))
  f246 := Tryd.func61.trans (congrArg some (by kernel_rfl))
  f283 := Tryd.func70.trans (congrArg some (by kernel_rfl))
  f284 := Tryd.func71.trans (congrArg some (by kernel_rfl))
  f285 := Tryd.func72.trans (congrArg some (by kernel_rfl))
  f286 := Tryd.func73.trans (congrArg some (by kernel_rfl))
  f317 := Tryd.func77.trans (congrArg some (by kernel_rfl))
  f318 := Tryd.func79.trans (congrArg some (by kernel_rfl))
  f319 := Tryd.func80.trans (congrArg some (by kernel_rfl))
  f320 := Tryd.func81.trans (congrArg some (by kernel_rfl))
  f337 := Tryd.func82.trans (congrArg some (by kernel_rfl))
  f338 := Tryd.func83.trans (congrArg some (by kernel_rfl))
  t0 := Tryd.underlying0
  a0 := Tryd.isAgg0
  z0 := Tryd.sizeOf0
  v0 := Tryd.zeroValue0
  t2 := Tryd.underlying2
  a2 := Tryd.isAgg2
  z2 := Tryd.sizeOf2
  v2 := Tryd.zeroValue2
  t3 := Tryd.underlying3
  a3 := Tryd.isAgg3
  z3 := Tryd.sizeOf3
  v3 := Tryd.zeroValue3
  t4 := Tryd.underlying4
  a4 := Tryd.isAgg4
  z4 := Tryd.sizeOf4
  v4 := Tryd.zeroValue4
  t5 := Tryd.underlying5
  a5 := Tryd.isAgg5
  z5 := Tryd.sizeOf5
  v5 := Tryd.zeroValue5
  t9 := Tryd.underlying9
  a9 := Tryd.isAgg9
  z9 := Tryd.sizeOf9
  v9 := Tryd.zeroValue9
  t20 := Tryd.underlying20
  a20 := Tryd.isAgg20
  z20 := Tryd.sizeOf20
  v20 := Tryd.zeroValue20
  t37 := Tryd.underlying66
  a37 := Tryd.isAgg66
  z37 := Tryd.sizeOf66
  v37 := Tryd.zeroValue66
  t46 := Tryd.underlying92
  a46 := Tryd.isAgg92
  z46 := Tryd.sizeOf92
  v46 := Tryd.zeroValue92
  t51 := Tryd.underlying101
  a51 := Tryd.isAgg101
  z51 := Tryd.sizeOf101
  v51 := Tryd.zeroValue101
  t53 := Tryd.underlying106
  a53 := Tryd.isAgg106
  z53 := Tryd.sizeOf106
  v53 := Tryd.zeroValue106
  t171 := Tryd.underlying113
  a171 := Tryd.isAgg113
  z171 := Tryd.sizeOf113
  v171 := Tryd.zeroValue113
  t173 := Tryd.underlying116
  a173 := Tryd.isAgg116
  z173 := Tryd.sizeOf116
  v173 := Tryd.zeroValue116
  t212 := Tryd.underlying124
  a212 := Tryd.isAgg124
  z212 := Tryd.sizeOf124
  v212 := Tryd.zeroValue124
  t213 := Tryd.underlying125
  a213 := Tryd.isAgg125
  z213 := Tryd.sizeOf125
  t232 := Tryd.underlying133
  a232 := Tryd.isAgg133
  z232 := Tryd.sizeOf133
  v232 := Tryd.zeroValue133
  t233 := Tryd.underlying134
  a233 := Tryd.isAgg134
  z233 := Tryd.sizeOf134
  v233 := Tryd.zeroValue134
  g17 := by kernel_rfl
  g18 := by kernel_rfl
  g19 := by kernel_rfl
  i0 := by kernel_rfl
  i2 := by kernel_rfl
  i3 := by kernel_rfl
  i4 := by kernel_rfl
  i5 := by kernel_rfl
  i9 := by kernel_rfl
  i20 := by kernel_rfl
  i37 := by kernel_rfl
  i46 := by kernel_rfl
  i51 := by kernel_rfl
  i53 := by kernel_rfl
  i171 := by kernel_rfl
  i173 := by kernel_rfl
  i212 := by kernel_rfl
  i232 := by kernel_rfl
  i233 := by kernel_rfl
  m17 := by kernel_rfl
  m18 := by kernel_rfl
  m19 := by kernel_rfl

/-! ### Contracts -/
theorem below_drewN {w : World} (k : Nat) : Below w.heap.size w (w.drewN k) := ⟨rfl, rfl, rfl, Nat.le_refl _, fun _ _ => rfl⟩
theorem below_more {w : World} (k : Nat) (os : Array Obj) : Below w.heap.size w (grow (w.drewN k) os) := ⟨rfl, rfl, rfl, by simp [grow, World.drewN], fun j hj => by
  show (w.heap ++ os)[j]? = _
  rw [Array.getElem?_append_left hj]⟩
/-- The decimal numeral. -/
def itoaP (n : Int) : Option (List UInt8) := if -9223372036854775808 ≤ n ∧ n ≤ 9223372036854775807 then some (Lib.itoa n) else none
theorem itoa_c (Y : Nat → Prop) (w0 : World) (p0 : Int) (r : List UInt8) (H : itoaP p0 = some r) (hG : Gk [] w0) :
    Calls Tryd.prog 41 #[.int .i64 p0] w0 fun e w' => e = .returned (.string (bs r)) ∧ Below w0.heap.size w0 w' := by
  unfold itoaP at H
  split at H
  · rename_i hr
    cases H
    refine (Any.strconv_Itoa laysItoa p0 hr.1 hr.2 w0 hG.f.tab).mono ?_
    rintro e w' ⟨rfl, k, os, rfl⟩
    exact ⟨rfl, below_more k os⟩
  · cases H

end Go.Proofs.YtdllfdmdfdfilaaDoor
