/- The functions of layer 29, E5. Conditions: none. -/
import Derived.Test.YtlgjpoapclifbaaDoorcA4
namespace Go.Proofs.YtlgjpoapclifbaaDoor
open Go Go.RowKit
set_option linter.unusedVariables false
set_option linter.unusedSimpArgs false
set_option maxRecDepth 20000
theorem Nb : type_of% Tryd.underlying35 := Tryd.underlying35
abbrev Ug (r : Rp Tr37) : Rp (Int × Tr34 × Int × Int × List Tr37) := (Rp.pair (Rp.int .i64) (Rp.pair CS (Rp.pair (Rp.int .i64) (Rp.pair (Rp.int .i64) (Rp.slice r)))))
theorem Te : Kt Ug := (Kt.pair (Kt.const _) (Kt.pair (Kt.const _) (Kt.pair (Kt.const _) (Kt.pair (Kt.const _) Kt.hole))))
abbrev Ff : Rp Tr37 := Rp.knot Ug Tr37.un Te
theorem UL {w : World} {A : Nat → Prop} {cs : List Value} {a : Tr37} : Ff.rep w A cs a ↔ (Ug Ff).rep w A cs a.un := GO Te
theorem RC : Et Tryd.prog 35 37 8 96 := Et.of Nb (by kernel_rfl) (by kernel_rfl) (by kernel_rfl) (by decide)
theorem HK : Ty Tryd.prog 35 false 1 := ⟨by kernel_rfl, by kernel_rfl⟩
end Go.Proofs.YtlgjpoapclifbaaDoor
