/- The functions of layer 40, Gi. Conditions: none. -/
import Derived.Test.YthmkgdnnocemmaaDoorbA2
namespace Go.Proofs.YthmkgdnnocemmaaDoor
open Go Go.RowKit
set_option linter.unusedVariables false
set_option linter.unusedSimpArgs false
set_option maxRecDepth 20000
abbrev Ot (a0 : Nat) (a1 : Nat) (a2 : Nat) : List (Nat × List Value) := [(a0, [.int .i64 0]), (a1, [.int .i64 0]), (a2, [.int .i64 0, .slice none 0 0, .slice none 0 0, .slice none 0 0, .slice none 0 0, .int .i64 0, .int .i64 0, .int .i64 0, .int .i64 0, .int .i64 0, .int .i64 0])]
abbrev FD (a0 : Int × (List UInt8 × Int)) (a1 : Value) : List Value := [.int .i64 a0.1, a1, .slice none 0 0, .slice none 0 0, .slice none 0 0, .int .i64 0, .int .i64 0, .int .i64 0, .int .i64 0, .int .i64 0, .int .i64 0]
abbrev Ox (a0 : Nat) (a1 : Nat) (a2 : Nat) (a3 : Int × (List UInt8 × Int)) (a4 : Value) : List (Nat × List Value) := [(a0, [.int .i64 0]), (a1, [.int .i64 0]), (a2, [.int .i64 a3.1, a4, .slice none 0 0, .slice none 0 0, .slice none 0 0, .int .i64 0, .int .i64 0, .int .i64 0, .int .i64 0, .int .i64 0, .int .i64 0])]
abbrev Oo (a0 : Nat) (a1 : Int × (List UInt8 × Int)) (a2 : Value) (a3 : Nat) (a4 : Nat) : List (Nat × List Value) := [(a0, [.int .i64 a1.1, a2, .slice none 0 0, .slice none 0 0, .slice none 0 0, .int .i64 0, .int .i64 0, .int .i64 0, .int .i64 0, .int .i64 0, .int .i64 0]), (a3, [.int .i64 0]), (a4, [.int .i64 0])]
abbrev FC (a0 : Int × (List UInt8 × Int)) (a1 : Value) (a2 : Value) : List Value := [.int .i64 a0.1, a1, a2, .slice none 0 0, .slice none 0 0, .int .i64 0, .int .i64 0, .int .i64 0, .int .i64 0, .int .i64 0, .int .i64 0]
abbrev E8 (a0 : Int × (List UInt8 × Int)) (a1 : Value) (a2 : Value) (a3 : Value) : List Value := [.int .i64 a0.1, a1, a2, a3, .slice none 0 0, .int .i64 0, .int .i64 0, .int .i64 0, .int .i64 0, .int .i64 0, .int .i64 0]
abbrev LB (a0 : Nat) (a1 : Nat) (a2 : Nat) (a3 : Int × (List UInt8 × Int)) (a4 : Value) (a5 : Value) (a6 : Value) : List (Nat × List Value) := [(a0, [.int .i64 0]), (a1, [.int .i64 0]), (a2, [.int .i64 a3.1, a4, a5, a6, .slice none 0 0, .int .i64 0, .int .i64 0, .int .i64 0, .int .i64 0, .int .i64 0, .int .i64 0])]
abbrev MJ (a0 : Nat) (a1 : Int × (List UInt8 × Int)) (a2 : Value) (a3 : Value) (a4 : Value) (a5 : Nat) (a6 : Nat) : List (Nat × List Value) := [(a0, [.int .i64 a1.1, a2, a3, a4, .slice none 0 0, .int .i64 0, .int .i64 0, .int .i64 0, .int .i64 0, .int .i64 0, .int .i64 0]), (a5, [.int .i64 0]), (a6, [.int .i64 0])]
abbrev LU (a0 : Int × (List UInt8 × Int)) (a1 : List (Int × Int × Int × Int × Int × Int)) (a2 : List (Int × Int)) (a3 : List (List Int)) (a4 : Int × (List UInt8 × Int)) : List Value := [.int .i64 ((Ab ((a0.1, a1, a2), a3, ([] : List Int), 0, 0, 0, 0, 0, 0) 0 0 a4.1).2.1)]
abbrev LJ (a0 : Int × (List UInt8 × Int)) (a1 : List (Int × Int × Int × Int × Int × Int)) (a2 : List (Int × Int)) (a3 : List (List Int)) (a4 : Int × (List UInt8 × Int)) : List Value := [.int .i64 ((Ab ((a0.1, a1, a2), a3, ([] : List Int), 0, 0, 0, 0, 0, 0) 0 0 a4.1).2.2)]
abbrev Om (a0 : Int × (List UInt8 × Int)) (a1 : List (Int × Int × Int × Int × Int × Int)) (a2 : List (Int × Int)) (a3 : List (List Int)) (a4 : Int × (List UInt8 × Int)) (a5 : Value) (a6 : Value) (a7 : Value) (a8 : Value) : List Value := [.int .i64 ((Ab ((a0.1, a1, a2), a3, ([] : List Int), 0, 0, 0, 0, 0, 0) 0 0 a4.1).1.1.1), a5, a6, a7, a8, .int .i64 ((Ab ((a0.1, a1, a2), a3, ([] : List Int), 0, 0, 0, 0, 0, 0) 0 0 a4.1).1.2.2.2.1), .int .i64 ((Ab ((a0.1, a1, a2), a3, ([] : List Int), 0, 0, 0, 0, 0, 0) 0 0 a4.1).1.2.2.2.2.1), .int .i64 ((Ab ((a0.1, a1, a2), a3, ([] : List Int), 0, 0, 0, 0, 0, 0) 0 0 a4.1).1.2.2.2.2.2.1), .int .i64 ((Ab ((a0.1, a1, a2), a3, ([] : List Int), 0, 0, 0, 0, 0, 0) 0 0 a4.1).1.2.2.2.2.2.2.1), .int .i64 ((Ab ((a0.1, a1, a2), a3, ([] : List Int), 0, 0, 0, 0, 0, 0) 0 0 a4.1).1.2.2.2.2.2.2.2.1), .int .i64 ((Ab ((a0.1, a1, a2), a3, ([] : List Int), 0, 0, 0, 0, 0, 0) 0 0 a4.1).1.2.2.2.2.2.2.2.2)]
abbrev My (a0 : Int × (List UInt8 × Int)) (a1 : Value) (a2 : Value) (a3 : Value) (a4 : Value) : List Value := [.int .i64 a0.1, a1, a2, a3, a4, .int .i64 0, .int .i64 0, .int .i64 0, .int .i64 0, .int .i64 0, .int .i64 0]
abbrev Nw (a0 : Int × (List UInt8 × Int)) (a1 : Value) (a2 : Value) (a3 : Value) (a4 : Value) (a5 : Int × (List UInt8 × Int)) : List Value := [.int .i64 a0.1, a1, a2, a3, a4, .int .i64 a5.1, .int .i64 0, .int .i64 0, .int .i64 0, .int .i64 0, .int .i64 0]
abbrev JN (a0 : Int × (List UInt8 × Int)) (a1 : Value) (a2 : Value) (a3 : Value) (a4 : Value) (a5 : Int × (List UInt8 × Int)) (a6 : Int × (List UInt8 × Int)) : List Value := [.int .i64 a0.1, a1, a2, a3, a4, .int .i64 a5.1, .int .i64 a6.1, .int .i64 0, .int .i64 0, .int .i64 0, .int .i64 0]
abbrev JQ (a0 : Int × (List UInt8 × Int)) (a1 : Value) (a2 : Value) (a3 : Value) (a4 : Value) (a5 : Int × (List UInt8 × Int)) (a6 : Int × (List UInt8 × Int)) (a7 : Int × (List UInt8 × Int)) : List Value := [.int .i64 a0.1, a1, a2, a3, a4, .int .i64 a5.1, .int .i64 a6.1, .int .i64 a7.1, .int .i64 0, .int .i64 0, .int .i64 0]
abbrev JM (a0 : Int × (List UInt8 × Int)) (a1 : Value) (a2 : Value) (a3 : Value) (a4 : Value) (a5 : Int × (List UInt8 × Int)) (a6 : Int × (List UInt8 × Int)) (a7 : Int × (List UInt8 × Int)) (a8 : Int × (List UInt8 × Int)) : List Value := [.int .i64 a0.1, a1, a2, a3, a4, .int .i64 a5.1, .int .i64 a6.1, .int .i64 a7.1, .int .i64 a8.1, .int .i64 0, .int .i64 0]
abbrev OB (a0 : Int × (List UInt8 × Int)) : List Value := [.int .i64 ((Ab ((0, ([] : List (Int × Int × Int × Int × Int × Int)), ([] : List (Int × Int))), ([] : List (List Int)), ([] : List Int), 0, 0, 0, 0, 0, 0) 0 0 a0.1).2.1)]
abbrev Ou (a0 : Int × (List UInt8 × Int)) : List Value := [.int .i64 ((Ab ((0, ([] : List (Int × Int × Int × Int × Int × Int)), ([] : List (Int × Int))), ([] : List (List Int)), ([] : List Int), 0, 0, 0, 0, 0, 0) 0 0 a0.1).2.2)]
noncomputable def BU (x2 : Int × (List UInt8 × Int)) : (List UInt8 × Int × (List (Int × Int × Int × Int × Int × Int))) → Option ((List UInt8 × Int × (List (Int × Int × Int × Int × Int × Int))) ⊕ ((List UInt8 × Int × (List (Int × Int × Int × Int × Int × Int))) ⊕ (((Int × (List (Int × Int × Int × Int × Int × Int)) × (List (Int × Int))) × List (List Int) × List Int × Int × Int × Int × Int × Int × Int) × Int × Int)))
  | (x7, x8, x9) => (Ax (x7, x8) ([108, 105, 110, 107] : List UInt8)).bind fun x10 => B2 x10 (fun x11 => (if x11 = true then (AE (x7, x8) ([108, 105, 110, 107] : List UInt8) 6).bind fun x13 => B2 x13 (fun x14 => (ix x14.1 0).bind fun x16 => (ix x14.1 1).bind fun x17 => (ix x14.1 2).bind fun x18 => (ix x14.1 3).bind fun x19 => (ix x14.1 4).bind fun x20 => (ix x14.1 5).bind fun x21 => (DP x9 ([(x16, x17, x18, x19, x20, x21)] : List (Int × Int × Int × Int × Int × Int))).bind fun x22 => some (.inl (x14.2.1, x14.2.2, x22))) (fun x15 => some (.inr (.inr ((((Ab ((x2.1, x9, ([] : List (Int × Int))), ([] : List (List Int)), ([] : List Int), 0, 0, 0, 0, 0, 0) 0 0 x15.1).1.1.1, (Ab ((x2.1, x9, ([] : List (Int × Int))), ([] : List (List Int)), ([] : List Int), 0, 0, 0, 0, 0, 0) 0 0 x15.1).1.1.2.1, (Ab ((x2.1, x9, ([] : List (Int × Int))), ([] : List (List Int)), ([] : List Int), 0, 0, 0, 0, 0, 0) 0 0 x15.1).1.1.2.2), (Ab ((x2.1, x9, ([] : List (Int × Int))), ([] : List (List Int)), ([] : List Int), 0, 0, 0, 0, 0, 0) 0 0 x15.1).1.2.1, (Ab ((x2.1, x9, ([] : List (Int × Int))), ([] : List (List Int)), ([] : List Int), 0, 0, 0, 0, 0, 0) 0 0 x15.1).1.2.2.1, (Ab ((x2.1, x9, ([] : List (Int × Int))), ([] : List (List Int)), ([] : List Int), 0, 0, 0, 0, 0, 0) 0 0 x15.1).1.2.2.2.1, (Ab ((x2.1, x9, ([] : List (Int × Int))), ([] : List (List Int)), ([] : List Int), 0, 0, 0, 0, 0, 0) 0 0 x15.1).1.2.2.2.2.1, (Ab ((x2.1, x9, ([] : List (Int × Int))), ([] : List (List Int)), ([] : List Int), 0, 0, 0, 0, 0, 0) 0 0 x15.1).1.2.2.2.2.2.1, (Ab ((x2.1, x9, ([] : List (Int × Int))), ([] : List (List Int)), ([] : List Int), 0, 0, 0, 0, 0, 0) 0 0 x15.1).1.2.2.2.2.2.2.1, (Ab ((x2.1, x9, ([] : List (Int × Int))), ([] : List (List Int)), ([] : List Int), 0, 0, 0, 0, 0, 0) 0 0 x15.1).1.2.2.2.2.2.2.2.1, (Ab ((x2.1, x9, ([] : List (Int × Int))), ([] : List (List Int)), ([] : List Int), 0, 0, 0, 0, 0, 0) 0 0 x15.1).1.2.2.2.2.2.2.2.2), (Ab ((x2.1, x9, ([] : List (Int × Int))), ([] : List (List Int)), ([] : List Int), 0, 0, 0, 0, 0, 0) 0 0 x15.1).2.1, (Ab ((x2.1, x9, ([] : List (Int × Int))), ([] : List (List Int)), ([] : List Int), 0, 0, 0, 0, 0, 0) 0 0 x15.1).2.2)))) else some (.inr (.inl (x7, x8, x9))))) (fun x12 => some (.inr (.inr ((((Ab ((x2.1, x9, ([] : List (Int × Int))), ([] : List (List Int)), ([] : List Int), 0, 0, 0, 0, 0, 0) 0 0 x12).1.1.1, (Ab ((x2.1, x9, ([] : List (Int × Int))), ([] : List (List Int)), ([] : List Int), 0, 0, 0, 0, 0, 0) 0 0 x12).1.1.2.1, (Ab ((x2.1, x9, ([] : List (Int × Int))), ([] : List (List Int)), ([] : List Int), 0, 0, 0, 0, 0, 0) 0 0 x12).1.1.2.2), (Ab ((x2.1, x9, ([] : List (Int × Int))), ([] : List (List Int)), ([] : List Int), 0, 0, 0, 0, 0, 0) 0 0 x12).1.2.1, (Ab ((x2.1, x9, ([] : List (Int × Int))), ([] : List (List Int)), ([] : List Int), 0, 0, 0, 0, 0, 0) 0 0 x12).1.2.2.1, (Ab ((x2.1, x9, ([] : List (Int × Int))), ([] : List (List Int)), ([] : List Int), 0, 0, 0, 0, 0, 0) 0 0 x12).1.2.2.2.1, (Ab ((x2.1, x9, ([] : List (Int × Int))), ([] : List (List Int)), ([] : List Int), 0, 0, 0, 0, 0, 0) 0 0 x12).1.2.2.2.2.1, (Ab ((x2.1, x9, ([] : List (Int × Int))), ([] : List (List Int)), ([] : List Int), 0, 0, 0, 0, 0, 0) 0 0 x12).1.2.2.2.2.2.1, (Ab ((x2.1, x9, ([] : List (Int × Int))), ([] : List (List Int)), ([] : List Int), 0, 0, 0, 0, 0, 0) 0 0 x12).1.2.2.2.2.2.2.1, (Ab ((x2.1, x9, ([] : List (Int × Int))), ([] : List (List Int)), ([] : List Int), 0, 0, 0, 0, 0, 0) 0 0 x12).1.2.2.2.2.2.2.2.1, (Ab ((x2.1, x9, ([] : List (Int × Int))), ([] : List (List Int)), ([] : List Int), 0, 0, 0, 0, 0, 0) 0 0 x12).1.2.2.2.2.2.2.2.2), (Ab ((x2.1, x9, ([] : List (Int × Int))), ([] : List (List Int)), ([] : List Int), 0, 0, 0, 0, 0, 0) 0 0 x12).2.1, (Ab ((x2.1, x9, ([] : List (Int × Int))), ([] : List (List Int)), ([] : List Int), 0, 0, 0, 0, 0, 0) 0 0 x12).2.2))))
noncomputable def BS (x2 : Int × (List UInt8 × Int)) (x6 : List (Int × Int × Int × Int × Int × Int)) : (List UInt8 × Int × (List (Int × Int))) → Option ((List UInt8 × Int × (List (Int × Int))) ⊕ ((List UInt8 × Int × (List (Int × Int))) ⊕ (((Int × (List (Int × Int × Int × Int × Int × Int)) × (List (Int × Int))) × List (List Int) × List Int × Int × Int × Int × Int × Int × Int) × Int × Int)))
  | (x26, x27, x28) => (Ax (x26, x27) ([104, 111, 115, 116] : List UInt8)).bind fun x29 => B2 x29 (fun x30 => (if x30 = true then (AE (x26, x27) ([104, 111, 115, 116] : List UInt8) 2).bind fun x32 => B2 x32 (fun x33 => (ix x33.1 0).bind fun x35 => (ix x33.1 1).bind fun x36 => (DP x28 ([(x35, x36)] : List (Int × Int))).bind fun x37 => some (.inl (x33.2.1, x33.2.2, x37))) (fun x34 => some (.inr (.inr ((((Ab ((x2.1, x6, x28), ([] : List (List Int)), ([] : List Int), 0, 0, 0, 0, 0, 0) 0 0 x34.1).1.1.1, (Ab ((x2.1, x6, x28), ([] : List (List Int)), ([] : List Int), 0, 0, 0, 0, 0, 0) 0 0 x34.1).1.1.2.1, (Ab ((x2.1, x6, x28), ([] : List (List Int)), ([] : List Int), 0, 0, 0, 0, 0, 0) 0 0 x34.1).1.1.2.2), (Ab ((x2.1, x6, x28), ([] : List (List Int)), ([] : List Int), 0, 0, 0, 0, 0, 0) 0 0 x34.1).1.2.1, (Ab ((x2.1, x6, x28), ([] : List (List Int)), ([] : List Int), 0, 0, 0, 0, 0, 0) 0 0 x34.1).1.2.2.1, (Ab ((x2.1, x6, x28), ([] : List (List Int)), ([] : List Int), 0, 0, 0, 0, 0, 0) 0 0 x34.1).1.2.2.2.1, (Ab ((x2.1, x6, x28), ([] : List (List Int)), ([] : List Int), 0, 0, 0, 0, 0, 0) 0 0 x34.1).1.2.2.2.2.1, (Ab ((x2.1, x6, x28), ([] : List (List Int)), ([] : List Int), 0, 0, 0, 0, 0, 0) 0 0 x34.1).1.2.2.2.2.2.1, (Ab ((x2.1, x6, x28), ([] : List (List Int)), ([] : List Int), 0, 0, 0, 0, 0, 0) 0 0 x34.1).1.2.2.2.2.2.2.1, (Ab ((x2.1, x6, x28), ([] : List (List Int)), ([] : List Int), 0, 0, 0, 0, 0, 0) 0 0 x34.1).1.2.2.2.2.2.2.2.1, (Ab ((x2.1, x6, x28), ([] : List (List Int)), ([] : List Int), 0, 0, 0, 0, 0, 0) 0 0 x34.1).1.2.2.2.2.2.2.2.2), (Ab ((x2.1, x6, x28), ([] : List (List Int)), ([] : List Int), 0, 0, 0, 0, 0, 0) 0 0 x34.1).2.1, (Ab ((x2.1, x6, x28), ([] : List (List Int)), ([] : List Int), 0, 0, 0, 0, 0, 0) 0 0 x34.1).2.2)))) else some (.inr (.inl (x26, x27, x28))))) (fun x31 => some (.inr (.inr ((((Ab ((x2.1, x6, x28), ([] : List (List Int)), ([] : List Int), 0, 0, 0, 0, 0, 0) 0 0 x31).1.1.1, (Ab ((x2.1, x6, x28), ([] : List (List Int)), ([] : List Int), 0, 0, 0, 0, 0, 0) 0 0 x31).1.1.2.1, (Ab ((x2.1, x6, x28), ([] : List (List Int)), ([] : List Int), 0, 0, 0, 0, 0, 0) 0 0 x31).1.1.2.2), (Ab ((x2.1, x6, x28), ([] : List (List Int)), ([] : List Int), 0, 0, 0, 0, 0, 0) 0 0 x31).1.2.1, (Ab ((x2.1, x6, x28), ([] : List (List Int)), ([] : List Int), 0, 0, 0, 0, 0, 0) 0 0 x31).1.2.2.1, (Ab ((x2.1, x6, x28), ([] : List (List Int)), ([] : List Int), 0, 0, 0, 0, 0, 0) 0 0 x31).1.2.2.2.1, (Ab ((x2.1, x6, x28), ([] : List (List Int)), ([] : List Int), 0, 0, 0, 0, 0, 0) 0 0 x31).1.2.2.2.2.1, (Ab ((x2.1, x6, x28), ([] : List (List Int)), ([] : List Int), 0, 0, 0, 0, 0, 0) 0 0 x31).1.2.2.2.2.2.1, (Ab ((x2.1, x6, x28), ([] : List (List Int)), ([] : List Int), 0, 0, 0, 0, 0, 0) 0 0 x31).1.2.2.2.2.2.2.1, (Ab ((x2.1, x6, x28), ([] : List (List Int)), ([] : List Int), 0, 0, 0, 0, 0, 0) 0 0 x31).1.2.2.2.2.2.2.2.1, (Ab ((x2.1, x6, x28), ([] : List (List Int)), ([] : List Int), 0, 0, 0, 0, 0, 0) 0 0 x31).1.2.2.2.2.2.2.2.2), (Ab ((x2.1, x6, x28), ([] : List (List Int)), ([] : List Int), 0, 0, 0, 0, 0, 0) 0 0 x31).2.1, (Ab ((x2.1, x6, x28), ([] : List (List Int)), ([] : List Int), 0, 0, 0, 0, 0, 0) 0 0 x31).2.2))))
noncomputable def BV (x2 : Int × (List UInt8 × Int)) (x6 : List (Int × Int × Int × Int × Int × Int)) (x25 : List (Int × Int)) : (List UInt8 × Int × List (List Int)) → Option ((List UInt8 × Int × List (List Int)) ⊕ ((List UInt8 × Int × List (List Int)) ⊕ (((Int × (List (Int × Int × Int × Int × Int × Int)) × (List (Int × Int))) × List (List Int) × List Int × Int × Int × Int × Int × Int × Int) × Int × Int)))
  | (x41, x42, x43) => (Ax (x41, x42) ([119, 101, 105, 103, 104, 116, 115] : List UInt8)).bind fun x44 => B2 x44 (fun x45 => (if x45 = true then (BA (x41, x42) ([119, 101, 105, 103, 104, 116, 115] : List UInt8)).bind fun x47 => B2 x47 (fun x48 => (DP x43 ([x48.1] : List (List Int))).bind fun x50 => some (.inl (x48.2.1, x48.2.2, x50))) (fun x49 => some (.inr (.inr ((((Ab ((x2.1, x6, x25), x43, ([] : List Int), 0, 0, 0, 0, 0, 0) 0 0 x49.1).1.1.1, (Ab ((x2.1, x6, x25), x43, ([] : List Int), 0, 0, 0, 0, 0, 0) 0 0 x49.1).1.1.2.1, (Ab ((x2.1, x6, x25), x43, ([] : List Int), 0, 0, 0, 0, 0, 0) 0 0 x49.1).1.1.2.2), (Ab ((x2.1, x6, x25), x43, ([] : List Int), 0, 0, 0, 0, 0, 0) 0 0 x49.1).1.2.1, (Ab ((x2.1, x6, x25), x43, ([] : List Int), 0, 0, 0, 0, 0, 0) 0 0 x49.1).1.2.2.1, (Ab ((x2.1, x6, x25), x43, ([] : List Int), 0, 0, 0, 0, 0, 0) 0 0 x49.1).1.2.2.2.1, (Ab ((x2.1, x6, x25), x43, ([] : List Int), 0, 0, 0, 0, 0, 0) 0 0 x49.1).1.2.2.2.2.1, (Ab ((x2.1, x6, x25), x43, ([] : List Int), 0, 0, 0, 0, 0, 0) 0 0 x49.1).1.2.2.2.2.2.1, (Ab ((x2.1, x6, x25), x43, ([] : List Int), 0, 0, 0, 0, 0, 0) 0 0 x49.1).1.2.2.2.2.2.2.1, (Ab ((x2.1, x6, x25), x43, ([] : List Int), 0, 0, 0, 0, 0, 0) 0 0 x49.1).1.2.2.2.2.2.2.2.1, (Ab ((x2.1, x6, x25), x43, ([] : List Int), 0, 0, 0, 0, 0, 0) 0 0 x49.1).1.2.2.2.2.2.2.2.2), (Ab ((x2.1, x6, x25), x43, ([] : List Int), 0, 0, 0, 0, 0, 0) 0 0 x49.1).2.1, (Ab ((x2.1, x6, x25), x43, ([] : List Int), 0, 0, 0, 0, 0, 0) 0 0 x49.1).2.2)))) else some (.inr (.inl (x41, x42, x43))))) (fun x46 => some (.inr (.inr ((((Ab ((x2.1, x6, x25), x43, ([] : List Int), 0, 0, 0, 0, 0, 0) 0 0 x46).1.1.1, (Ab ((x2.1, x6, x25), x43, ([] : List Int), 0, 0, 0, 0, 0, 0) 0 0 x46).1.1.2.1, (Ab ((x2.1, x6, x25), x43, ([] : List Int), 0, 0, 0, 0, 0, 0) 0 0 x46).1.1.2.2), (Ab ((x2.1, x6, x25), x43, ([] : List Int), 0, 0, 0, 0, 0, 0) 0 0 x46).1.2.1, (Ab ((x2.1, x6, x25), x43, ([] : List Int), 0, 0, 0, 0, 0, 0) 0 0 x46).1.2.2.1, (Ab ((x2.1, x6, x25), x43, ([] : List Int), 0, 0, 0, 0, 0, 0) 0 0 x46).1.2.2.2.1, (Ab ((x2.1, x6, x25), x43, ([] : List Int), 0, 0, 0, 0, 0, 0) 0 0 x46).1.2.2.2.2.1, (Ab ((x2.1, x6, x25), x43, ([] : List Int), 0, 0, 0, 0, 0, 0) 0 0 x46).1.2.2.2.2.2.1, (Ab ((x2.1, x6, x25), x43, ([] : List Int), 0, 0, 0, 0, 0, 0) 0 0 x46).1.2.2.2.2.2.2.1, (Ab ((x2.1, x6, x25), x43, ([] : List Int), 0, 0, 0, 0, 0, 0) 0 0 x46).1.2.2.2.2.2.2.2.1, (Ab ((x2.1, x6, x25), x43, ([] : List Int), 0, 0, 0, 0, 0, 0) 0 0 x46).1.2.2.2.2.2.2.2.2), (Ab ((x2.1, x6, x25), x43, ([] : List Int), 0, 0, 0, 0, 0, 0) 0 0 x46).2.1, (Ab ((x2.1, x6, x25), x43, ([] : List Int), 0, 0, 0, 0, 0, 0) 0 0 x46).2.2))))
noncomputable def Ca (p0 : List UInt8) : Option (((Int × (List (Int × Int × Int × Int × Int × Int)) × (List (Int × Int))) × List (List Int) × List Int × Int × Int × Int × Int × Int × Int) × Int × Int) := (AL (p0, 1) ([115, 119, 105, 116, 99, 104, 101, 115] : List UInt8)).bind fun x1 => B2 x1 (fun x2 => D6 (Bf (BU x2) (x2.2.1, x2.2.2, [])) fun (x4, x5, x6) => D6 (Bf (BS x2 x6) (x4, x5, [])) fun (x23, x24, x25) => D6 (Bf (BV x2 x6 x25) (x23, x24, [])) fun (x38, x39, x40) => (AE (x38, x39) ([115, 116, 97, 114, 116, 115] : List UInt8) (-1)).bind fun x51 => B2 x51 (fun x52 => (AL x52.2 ([114, 97, 116, 101] : List UInt8)).bind fun x54 => B2 x54 (fun x55 => (AL x55.2 ([114, 111, 111, 109] : List UInt8)).bind fun x57 => B2 x57 (fun x58 => (AL x58.2 ([119, 105, 100, 101] : List UInt8)).bind fun x60 => B2 x60 (fun x61 => (AL x61.2 ([108, 101, 97, 100] : List UInt8)).bind fun x63 => B2 x63 (fun x64 => (AL x64.2 ([109, 97, 114, 103, 105, 110] : List UInt8)).bind fun x66 => B2 x66 (fun x67 => (AL x67.2 ([114, 101, 116, 114, 121] : List UInt8)).bind fun x69 => B2 x69 (fun x70 => (some (CF x70.2)).bind fun x72 => B2 x72 (fun x73 => some (((((x2.1, x6, x25), x40, x52.1, x55.1, x58.1, x61.1, x64.1, x67.1, x70.1).1.1, ((x2.1, x6, x25), x40, x52.1, x55.1, x58.1, x61.1, x64.1, x67.1, x70.1).1.2.1, ((x2.1, x6, x25), x40, x52.1, x55.1, x58.1, x61.1, x64.1, x67.1, x70.1).1.2.2), ((x2.1, x6, x25), x40, x52.1, x55.1, x58.1, x61.1, x64.1, x67.1, x70.1).2.1, ((x2.1, x6, x25), x40, x52.1, x55.1, x58.1, x61.1, x64.1, x67.1, x70.1).2.2.1, ((x2.1, x6, x25), x40, x52.1, x55.1, x58.1, x61.1, x64.1, x67.1, x70.1).2.2.2.1, ((x2.1, x6, x25), x40, x52.1, x55.1, x58.1, x61.1, x64.1, x67.1, x70.1).2.2.2.2.1, ((x2.1, x6, x25), x40, x52.1, x55.1, x58.1, x61.1, x64.1, x67.1, x70.1).2.2.2.2.2.1, ((x2.1, x6, x25), x40, x52.1, x55.1, x58.1, x61.1, x64.1, x67.1, x70.1).2.2.2.2.2.2.1, ((x2.1, x6, x25), x40, x52.1, x55.1, x58.1, x61.1, x64.1, x67.1, x70.1).2.2.2.2.2.2.2.1, ((x2.1, x6, x25), x40, x52.1, x55.1, x58.1, x61.1, x64.1, x67.1, x70.1).2.2.2.2.2.2.2.2), 0, 0)) (fun x74 => some ((((Ab ((x2.1, x6, x25), x40, x52.1, x55.1, x58.1, x61.1, x64.1, x67.1, x70.1) 0 0 x74).1.1.1, (Ab ((x2.1, x6, x25), x40, x52.1, x55.1, x58.1, x61.1, x64.1, x67.1, x70.1) 0 0 x74).1.1.2.1, (Ab ((x2.1, x6, x25), x40, x52.1, x55.1, x58.1, x61.1, x64.1, x67.1, x70.1) 0 0 x74).1.1.2.2), (Ab ((x2.1, x6, x25), x40, x52.1, x55.1, x58.1, x61.1, x64.1, x67.1, x70.1) 0 0 x74).1.2.1, (Ab ((x2.1, x6, x25), x40, x52.1, x55.1, x58.1, x61.1, x64.1, x67.1, x70.1) 0 0 x74).1.2.2.1, (Ab ((x2.1, x6, x25), x40, x52.1, x55.1, x58.1, x61.1, x64.1, x67.1, x70.1) 0 0 x74).1.2.2.2.1, (Ab ((x2.1, x6, x25), x40, x52.1, x55.1, x58.1, x61.1, x64.1, x67.1, x70.1) 0 0 x74).1.2.2.2.2.1, (Ab ((x2.1, x6, x25), x40, x52.1, x55.1, x58.1, x61.1, x64.1, x67.1, x70.1) 0 0 x74).1.2.2.2.2.2.1, (Ab ((x2.1, x6, x25), x40, x52.1, x55.1, x58.1, x61.1, x64.1, x67.1, x70.1) 0 0 x74).1.2.2.2.2.2.2.1, (Ab ((x2.1, x6, x25), x40, x52.1, x55.1, x58.1, x61.1, x64.1, x67.1, x70.1) 0 0 x74).1.2.2.2.2.2.2.2.1, (Ab ((x2.1, x6, x25), x40, x52.1, x55.1, x58.1, x61.1, x64.1, x67.1, x70.1) 0 0 x74).1.2.2.2.2.2.2.2.2), (Ab ((x2.1, x6, x25), x40, x52.1, x55.1, x58.1, x61.1, x64.1, x67.1, x70.1) 0 0 x74).2.1, (Ab ((x2.1, x6, x25), x40, x52.1, x55.1, x58.1, x61.1, x64.1, x67.1, x70.1) 0 0 x74).2.2))) (fun x71 => some ((((Ab ((x2.1, x6, x25), x40, x52.1, x55.1, x58.1, x61.1, x64.1, x67.1, 0) 0 0 x71.1).1.1.1, (Ab ((x2.1, x6, x25), x40, x52.1, x55.1, x58.1, x61.1, x64.1, x67.1, 0) 0 0 x71.1).1.1.2.1, (Ab ((x2.1, x6, x25), x40, x52.1, x55.1, x58.1, x61.1, x64.1, x67.1, 0) 0 0 x71.1).1.1.2.2), (Ab ((x2.1, x6, x25), x40, x52.1, x55.1, x58.1, x61.1, x64.1, x67.1, 0) 0 0 x71.1).1.2.1, (Ab ((x2.1, x6, x25), x40, x52.1, x55.1, x58.1, x61.1, x64.1, x67.1, 0) 0 0 x71.1).1.2.2.1, (Ab ((x2.1, x6, x25), x40, x52.1, x55.1, x58.1, x61.1, x64.1, x67.1, 0) 0 0 x71.1).1.2.2.2.1, (Ab ((x2.1, x6, x25), x40, x52.1, x55.1, x58.1, x61.1, x64.1, x67.1, 0) 0 0 x71.1).1.2.2.2.2.1, (Ab ((x2.1, x6, x25), x40, x52.1, x55.1, x58.1, x61.1, x64.1, x67.1, 0) 0 0 x71.1).1.2.2.2.2.2.1, (Ab ((x2.1, x6, x25), x40, x52.1, x55.1, x58.1, x61.1, x64.1, x67.1, 0) 0 0 x71.1).1.2.2.2.2.2.2.1, (Ab ((x2.1, x6, x25), x40, x52.1, x55.1, x58.1, x61.1, x64.1, x67.1, 0) 0 0 x71.1).1.2.2.2.2.2.2.2.1, (Ab ((x2.1, x6, x25), x40, x52.1, x55.1, x58.1, x61.1, x64.1, x67.1, 0) 0 0 x71.1).1.2.2.2.2.2.2.2.2), (Ab ((x2.1, x6, x25), x40, x52.1, x55.1, x58.1, x61.1, x64.1, x67.1, 0) 0 0 x71.1).2.1, (Ab ((x2.1, x6, x25), x40, x52.1, x55.1, x58.1, x61.1, x64.1, x67.1, 0) 0 0 x71.1).2.2))) (fun x68 => some ((((Ab ((x2.1, x6, x25), x40, x52.1, x55.1, x58.1, x61.1, x64.1, 0, 0) 0 0 x68.1).1.1.1, (Ab ((x2.1, x6, x25), x40, x52.1, x55.1, x58.1, x61.1, x64.1, 0, 0) 0 0 x68.1).1.1.2.1, (Ab ((x2.1, x6, x25), x40, x52.1, x55.1, x58.1, x61.1, x64.1, 0, 0) 0 0 x68.1).1.1.2.2), (Ab ((x2.1, x6, x25), x40, x52.1, x55.1, x58.1, x61.1, x64.1, 0, 0) 0 0 x68.1).1.2.1, (Ab ((x2.1, x6, x25), x40, x52.1, x55.1, x58.1, x61.1, x64.1, 0, 0) 0 0 x68.1).1.2.2.1, (Ab ((x2.1, x6, x25), x40, x52.1, x55.1, x58.1, x61.1, x64.1, 0, 0) 0 0 x68.1).1.2.2.2.1, (Ab ((x2.1, x6, x25), x40, x52.1, x55.1, x58.1, x61.1, x64.1, 0, 0) 0 0 x68.1).1.2.2.2.2.1, (Ab ((x2.1, x6, x25), x40, x52.1, x55.1, x58.1, x61.1, x64.1, 0, 0) 0 0 x68.1).1.2.2.2.2.2.1, (Ab ((x2.1, x6, x25), x40, x52.1, x55.1, x58.1, x61.1, x64.1, 0, 0) 0 0 x68.1).1.2.2.2.2.2.2.1, (Ab ((x2.1, x6, x25), x40, x52.1, x55.1, x58.1, x61.1, x64.1, 0, 0) 0 0 x68.1).1.2.2.2.2.2.2.2.1, (Ab ((x2.1, x6, x25), x40, x52.1, x55.1, x58.1, x61.1, x64.1, 0, 0) 0 0 x68.1).1.2.2.2.2.2.2.2.2), (Ab ((x2.1, x6, x25), x40, x52.1, x55.1, x58.1, x61.1, x64.1, 0, 0) 0 0 x68.1).2.1, (Ab ((x2.1, x6, x25), x40, x52.1, x55.1, x58.1, x61.1, x64.1, 0, 0) 0 0 x68.1).2.2))) (fun x65 => some ((((Ab ((x2.1, x6, x25), x40, x52.1, x55.1, x58.1, x61.1, 0, 0, 0) 0 0 x65.1).1.1.1, (Ab ((x2.1, x6, x25), x40, x52.1, x55.1, x58.1, x61.1, 0, 0, 0) 0 0 x65.1).1.1.2.1, (Ab ((x2.1, x6, x25), x40, x52.1, x55.1, x58.1, x61.1, 0, 0, 0) 0 0 x65.1).1.1.2.2), (Ab ((x2.1, x6, x25), x40, x52.1, x55.1, x58.1, x61.1, 0, 0, 0) 0 0 x65.1).1.2.1, (Ab ((x2.1, x6, x25), x40, x52.1, x55.1, x58.1, x61.1, 0, 0, 0) 0 0 x65.1).1.2.2.1, (Ab ((x2.1, x6, x25), x40, x52.1, x55.1, x58.1, x61.1, 0, 0, 0) 0 0 x65.1).1.2.2.2.1, (Ab ((x2.1, x6, x25), x40, x52.1, x55.1, x58.1, x61.1, 0, 0, 0) 0 0 x65.1).1.2.2.2.2.1, (Ab ((x2.1, x6, x25), x40, x52.1, x55.1, x58.1, x61.1, 0, 0, 0) 0 0 x65.1).1.2.2.2.2.2.1, (Ab ((x2.1, x6, x25), x40, x52.1, x55.1, x58.1, x61.1, 0, 0, 0) 0 0 x65.1).1.2.2.2.2.2.2.1, (Ab ((x2.1, x6, x25), x40, x52.1, x55.1, x58.1, x61.1, 0, 0, 0) 0 0 x65.1).1.2.2.2.2.2.2.2.1, (Ab ((x2.1, x6, x25), x40, x52.1, x55.1, x58.1, x61.1, 0, 0, 0) 0 0 x65.1).1.2.2.2.2.2.2.2.2), (Ab ((x2.1, x6, x25), x40, x52.1, x55.1, x58.1, x61.1, 0, 0, 0) 0 0 x65.1).2.1, (Ab ((x2.1, x6, x25), x40, x52.1, x55.1, x58.1, x61.1, 0, 0, 0) 0 0 x65.1).2.2))) (fun x62 => some ((((Ab ((x2.1, x6, x25), x40, x52.1, x55.1, x58.1, 0, 0, 0, 0) 0 0 x62.1).1.1.1, (Ab ((x2.1, x6, x25), x40, x52.1, x55.1, x58.1, 0, 0, 0, 0) 0 0 x62.1).1.1.2.1, (Ab ((x2.1, x6, x25), x40, x52.1, x55.1, x58.1, 0, 0, 0, 0) 0 0 x62.1).1.1.2.2), (Ab ((x2.1, x6, x25), x40, x52.1, x55.1, x58.1, 0, 0, 0, 0) 0 0 x62.1).1.2.1, (Ab ((x2.1, x6, x25), x40, x52.1, x55.1, x58.1, 0, 0, 0, 0) 0 0 x62.1).1.2.2.1, (Ab ((x2.1, x6, x25), x40, x52.1, x55.1, x58.1, 0, 0, 0, 0) 0 0 x62.1).1.2.2.2.1, (Ab ((x2.1, x6, x25), x40, x52.1, x55.1, x58.1, 0, 0, 0, 0) 0 0 x62.1).1.2.2.2.2.1, (Ab ((x2.1, x6, x25), x40, x52.1, x55.1, x58.1, 0, 0, 0, 0) 0 0 x62.1).1.2.2.2.2.2.1, (Ab ((x2.1, x6, x25), x40, x52.1, x55.1, x58.1, 0, 0, 0, 0) 0 0 x62.1).1.2.2.2.2.2.2.1, (Ab ((x2.1, x6, x25), x40, x52.1, x55.1, x58.1, 0, 0, 0, 0) 0 0 x62.1).1.2.2.2.2.2.2.2.1, (Ab ((x2.1, x6, x25), x40, x52.1, x55.1, x58.1, 0, 0, 0, 0) 0 0 x62.1).1.2.2.2.2.2.2.2.2), (Ab ((x2.1, x6, x25), x40, x52.1, x55.1, x58.1, 0, 0, 0, 0) 0 0 x62.1).2.1, (Ab ((x2.1, x6, x25), x40, x52.1, x55.1, x58.1, 0, 0, 0, 0) 0 0 x62.1).2.2))) (fun x59 => some ((((Ab ((x2.1, x6, x25), x40, x52.1, x55.1, 0, 0, 0, 0, 0) 0 0 x59.1).1.1.1, (Ab ((x2.1, x6, x25), x40, x52.1, x55.1, 0, 0, 0, 0, 0) 0 0 x59.1).1.1.2.1, (Ab ((x2.1, x6, x25), x40, x52.1, x55.1, 0, 0, 0, 0, 0) 0 0 x59.1).1.1.2.2), (Ab ((x2.1, x6, x25), x40, x52.1, x55.1, 0, 0, 0, 0, 0) 0 0 x59.1).1.2.1, (Ab ((x2.1, x6, x25), x40, x52.1, x55.1, 0, 0, 0, 0, 0) 0 0 x59.1).1.2.2.1, (Ab ((x2.1, x6, x25), x40, x52.1, x55.1, 0, 0, 0, 0, 0) 0 0 x59.1).1.2.2.2.1, (Ab ((x2.1, x6, x25), x40, x52.1, x55.1, 0, 0, 0, 0, 0) 0 0 x59.1).1.2.2.2.2.1, (Ab ((x2.1, x6, x25), x40, x52.1, x55.1, 0, 0, 0, 0, 0) 0 0 x59.1).1.2.2.2.2.2.1, (Ab ((x2.1, x6, x25), x40, x52.1, x55.1, 0, 0, 0, 0, 0) 0 0 x59.1).1.2.2.2.2.2.2.1, (Ab ((x2.1, x6, x25), x40, x52.1, x55.1, 0, 0, 0, 0, 0) 0 0 x59.1).1.2.2.2.2.2.2.2.1, (Ab ((x2.1, x6, x25), x40, x52.1, x55.1, 0, 0, 0, 0, 0) 0 0 x59.1).1.2.2.2.2.2.2.2.2), (Ab ((x2.1, x6, x25), x40, x52.1, x55.1, 0, 0, 0, 0, 0) 0 0 x59.1).2.1, (Ab ((x2.1, x6, x25), x40, x52.1, x55.1, 0, 0, 0, 0, 0) 0 0 x59.1).2.2))) (fun x56 => some ((((Ab ((x2.1, x6, x25), x40, x52.1, 0, 0, 0, 0, 0, 0) 0 0 x56.1).1.1.1, (Ab ((x2.1, x6, x25), x40, x52.1, 0, 0, 0, 0, 0, 0) 0 0 x56.1).1.1.2.1, (Ab ((x2.1, x6, x25), x40, x52.1, 0, 0, 0, 0, 0, 0) 0 0 x56.1).1.1.2.2), (Ab ((x2.1, x6, x25), x40, x52.1, 0, 0, 0, 0, 0, 0) 0 0 x56.1).1.2.1, (Ab ((x2.1, x6, x25), x40, x52.1, 0, 0, 0, 0, 0, 0) 0 0 x56.1).1.2.2.1, (Ab ((x2.1, x6, x25), x40, x52.1, 0, 0, 0, 0, 0, 0) 0 0 x56.1).1.2.2.2.1, (Ab ((x2.1, x6, x25), x40, x52.1, 0, 0, 0, 0, 0, 0) 0 0 x56.1).1.2.2.2.2.1, (Ab ((x2.1, x6, x25), x40, x52.1, 0, 0, 0, 0, 0, 0) 0 0 x56.1).1.2.2.2.2.2.1, (Ab ((x2.1, x6, x25), x40, x52.1, 0, 0, 0, 0, 0, 0) 0 0 x56.1).1.2.2.2.2.2.2.1, (Ab ((x2.1, x6, x25), x40, x52.1, 0, 0, 0, 0, 0, 0) 0 0 x56.1).1.2.2.2.2.2.2.2.1, (Ab ((x2.1, x6, x25), x40, x52.1, 0, 0, 0, 0, 0, 0) 0 0 x56.1).1.2.2.2.2.2.2.2.2), (Ab ((x2.1, x6, x25), x40, x52.1, 0, 0, 0, 0, 0, 0) 0 0 x56.1).2.1, (Ab ((x2.1, x6, x25), x40, x52.1, 0, 0, 0, 0, 0, 0) 0 0 x56.1).2.2))) (fun x53 => some ((((Ab ((x2.1, x6, x25), x40, ([] : List Int), 0, 0, 0, 0, 0, 0) 0 0 x53.1).1.1.1, (Ab ((x2.1, x6, x25), x40, ([] : List Int), 0, 0, 0, 0, 0, 0) 0 0 x53.1).1.1.2.1, (Ab ((x2.1, x6, x25), x40, ([] : List Int), 0, 0, 0, 0, 0, 0) 0 0 x53.1).1.1.2.2), (Ab ((x2.1, x6, x25), x40, ([] : List Int), 0, 0, 0, 0, 0, 0) 0 0 x53.1).1.2.1, (Ab ((x2.1, x6, x25), x40, ([] : List Int), 0, 0, 0, 0, 0, 0) 0 0 x53.1).1.2.2.1, (Ab ((x2.1, x6, x25), x40, ([] : List Int), 0, 0, 0, 0, 0, 0) 0 0 x53.1).1.2.2.2.1, (Ab ((x2.1, x6, x25), x40, ([] : List Int), 0, 0, 0, 0, 0, 0) 0 0 x53.1).1.2.2.2.2.1, (Ab ((x2.1, x6, x25), x40, ([] : List Int), 0, 0, 0, 0, 0, 0) 0 0 x53.1).1.2.2.2.2.2.1, (Ab ((x2.1, x6, x25), x40, ([] : List Int), 0, 0, 0, 0, 0, 0) 0 0 x53.1).1.2.2.2.2.2.2.1, (Ab ((x2.1, x6, x25), x40, ([] : List Int), 0, 0, 0, 0, 0, 0) 0 0 x53.1).1.2.2.2.2.2.2.2.1, (Ab ((x2.1, x6, x25), x40, ([] : List Int), 0, 0, 0, 0, 0, 0) 0 0 x53.1).1.2.2.2.2.2.2.2.2), (Ab ((x2.1, x6, x25), x40, ([] : List Int), 0, 0, 0, 0, 0, 0) 0 0 x53.1).2.1, (Ab ((x2.1, x6, x25), x40, ([] : List Int), 0, 0, 0, 0, 0, 0) 0 0 x53.1).2.2))) (fun x3 => some ((((Ab ((0, ([] : List (Int × Int × Int × Int × Int × Int)), ([] : List (Int × Int))), ([] : List (List Int)), ([] : List Int), 0, 0, 0, 0, 0, 0) 0 0 x3.1).1.1.1, (Ab ((0, ([] : List (Int × Int × Int × Int × Int × Int)), ([] : List (Int × Int))), ([] : List (List Int)), ([] : List Int), 0, 0, 0, 0, 0, 0) 0 0 x3.1).1.1.2.1, (Ab ((0, ([] : List (Int × Int × Int × Int × Int × Int)), ([] : List (Int × Int))), ([] : List (List Int)), ([] : List Int), 0, 0, 0, 0, 0, 0) 0 0 x3.1).1.1.2.2), (Ab ((0, ([] : List (Int × Int × Int × Int × Int × Int)), ([] : List (Int × Int))), ([] : List (List Int)), ([] : List Int), 0, 0, 0, 0, 0, 0) 0 0 x3.1).1.2.1, (Ab ((0, ([] : List (Int × Int × Int × Int × Int × Int)), ([] : List (Int × Int))), ([] : List (List Int)), ([] : List Int), 0, 0, 0, 0, 0, 0) 0 0 x3.1).1.2.2.1, (Ab ((0, ([] : List (Int × Int × Int × Int × Int × Int)), ([] : List (Int × Int))), ([] : List (List Int)), ([] : List Int), 0, 0, 0, 0, 0, 0) 0 0 x3.1).1.2.2.2.1, (Ab ((0, ([] : List (Int × Int × Int × Int × Int × Int)), ([] : List (Int × Int))), ([] : List (List Int)), ([] : List Int), 0, 0, 0, 0, 0, 0) 0 0 x3.1).1.2.2.2.2.1, (Ab ((0, ([] : List (Int × Int × Int × Int × Int × Int)), ([] : List (Int × Int))), ([] : List (List Int)), ([] : List Int), 0, 0, 0, 0, 0, 0) 0 0 x3.1).1.2.2.2.2.2.1, (Ab ((0, ([] : List (Int × Int × Int × Int × Int × Int)), ([] : List (Int × Int))), ([] : List (List Int)), ([] : List Int), 0, 0, 0, 0, 0, 0) 0 0 x3.1).1.2.2.2.2.2.2.1, (Ab ((0, ([] : List (Int × Int × Int × Int × Int × Int)), ([] : List (Int × Int))), ([] : List (List Int)), ([] : List Int), 0, 0, 0, 0, 0, 0) 0 0 x3.1).1.2.2.2.2.2.2.2.1, (Ab ((0, ([] : List (Int × Int × Int × Int × Int × Int)), ([] : List (Int × Int))), ([] : List (List Int)), ([] : List Int), 0, 0, 0, 0, 0, 0) 0 0 x3.1).1.2.2.2.2.2.2.2.2), (Ab ((0, ([] : List (Int × Int × Int × Int × Int × Int)), ([] : List (Int × Int))), ([] : List (List Int)), ([] : List Int), 0, 0, 0, 0, 0, 0) 0 0 x3.1).2.1, (Ab ((0, ([] : List (Int × Int × Int × Int × Int × Int)), ([] : List (Int × Int))), ([] : List (List Int)), ([] : List Int), 0, 0, 0, 0, 0, 0) 0 0 x3.1).2.2))
theorem EG (Y : Nat → Prop) (w0 : World)  (p0 : List UInt8) (r : ((Int × (List (Int × Int × Int × Int × Int × Int)) × (List (Int × Int))) × List (List Int) × List Int × Int × Int × Int × Int × Int × Int) × Int × Int) (H : Ca p0 = some r) (hG : Gk [] w0) :
    Calls Tryd.prog 9 #[.string (bs p0)] w0 fun e w' => ∃ x : Value × Value × Value × Value, e = .returned (.tuple #[.agg #[.int .i64 r.1.1.1, x.1, x.2.1, x.2.2.1, x.2.2.2, .int .i64 r.1.2.2.2.1, .int .i64 r.1.2.2.2.2.1, .int .i64 r.1.2.2.2.2.2.1, .int .i64 r.1.2.2.2.2.2.2.1, .int .i64 r.1.2.2.2.2.2.2.2.1, .int .i64 r.1.2.2.2.2.2.2.2.2], .int .i64 r.2.1, .int .i64 r.2.2]) ∧ Stw ⟨Y, [], w0⟩ [] [row (x.1) 41 Bn r.1.1.2.1, row (x.2.1) 43 Br r.1.1.2.2, row (x.2.2.1) 39 (Rp.slice (Rp.int .u64)) r.1.2.1, row (x.2.2.2) 3 (Rp.int .i64) r.1.2.2.1] w' := by
 refine OU Tryd.func9 Aa Tryd.ntmps9 Aa fun a W => ?_
 have F := Stw.start Y w0
 unfold Ca at H
 refine Ak (Ac ?_)
 refine DX (cs := (FQ)) W F Aa O5 Aa fun b1 a w W F => ?_
 refine DX (cs := [.int .i64 0]) W F Aa Z3 Aa fun b2 a w W F => ?_
 refine DX (cs := [.int .i64 0]) W F Aa Qy Aa fun b3 a w W F => ?_
 refine Af (Ad (Ak (Ac ?_)))
 refine ls W F Aa (Lb (us := []) (vs := [.pointer (some ⟨b1, 0, none⟩), .pointer (some ⟨b2, 0, none⟩), .pointer (some ⟨b3, 0, none⟩)]) W Aa Aa).q fun a w W F => ?_
 refine N9 (vs := [.pointer (some ⟨b1, 0, none⟩), .pointer (some ⟨b2, 0, none⟩), .pointer (some ⟨b3, 0, none⟩)]) W Aa fun a W => ?_
 refine Af (Ad (Ak (Ac ?_)))
 refine ls W F Aa (Ae W Aa).q fun a w W F => ?_
 refine ls W F Aa (F9 (v := Value.agg #[.string (bs p0), .int .i64 1]) QQ W Aa Aa Aa).q fun a w W F => ?_
 refine GU (cs := [.string (bs p0), .int .i64 1]) W F Aa Aa Aa fun b4 a w W F => ?_
 refine ls W F Aa (Ag W Aa).q fun a w W F => ?_
 refine Af (Ad (Ak (Ac ?_)))
 refine ls W F Aa (Ae W Aa).q fun a w W F => ?_
 obtain ⟨x1, h1, H⟩ := An H
 rcases x1 with x2 | x3
 ·
  have H := Fh H
  refine AO (Ml := [(b4, [.string (bs p0), .int .i64 1])]) (Zl := []) (M := (Ot b3 b2 b1)) (Z := []) (β := Unit) (rv := fun x => .int .i64 x2.1) (MM := fun x => [(b4, [.string (bs x2.2.1), .int .i64 x2.2.2])]) (ZZ := fun x => []) W F Lt Aa Aa (fun hL => AM _ _ w b4 (p0, 1) ([115, 119, 105, 116, 99, 104, 101, 115] : List UInt8) _ h1 (hG.go F) hL) fun x a w W F => ?_
  have F : Stw ⟨Y, [], w0⟩ [(b4, [.string (bs x2.2.1), .int .i64 x2.2.2]), (b3, [.int .i64 0]), (b2, [.int .i64 0]), (b1, (FQ))] [] w := F
  refine ls W F Aa (Ai Bw Aa Aa Aa GE W Aa 0 Aa).q fun a w W F => ?_
  refine ls W F Aa (Ai DE Aa Aa Aa T3 W Aa 0 Aa).q fun a w W F => ?_
  refine Co (vs := [.int .i64 x2.1]) (M' := [(b4, [.string (bs x2.2.1), .int .i64 x2.2.2]), (b3, [.int .i64 0]), (b2, [.int .i64 0]), (b1, [.int .i64 x2.1, .slice none 0 0, .slice none 0 0, .slice none 0 0, .slice none 0 0, .int .i64 0, .int .i64 0, .int .i64 0, .int .i64 0, .int .i64 0, .int .i64 0])]) 3 W F Aa Aa Aa T3 Aa Aa Aa Aa Aa fun w F => ?_
  refine Af (Ad ?_)
  obtain ⟨o1, G1, K1, L1⟩ := Ib H
  refine AX (fun a w => ∃ x4 : List UInt8, ∃ x5 : Int, ∃ x6 : List (Int × Int × Int × Int × Int × Int), ∃ v1 : Value, some (Sum.inl (x4, x5, x6)) = some o1 ∧ Fr 97 [{ target := .fn (.func 17) #[.pointer (some ⟨b1, 0, none⟩), .pointer (some ⟨b2, 0, none⟩), .pointer (some ⟨b3, 0, none⟩)], args := #[] }] [(2, .pointer (some ⟨b1, 0, none⟩)), (3, .pointer (some ⟨b2, 0, none⟩)), (4, .pointer (some ⟨b3, 0, none⟩)), (5, .pointer (some ⟨b4, 0, none⟩))] a ∧ Stw ⟨Y, [], w0⟩ [(b4, [.string (bs x4), .int .i64 x5]), (b3, [.int .i64 0]), (b2, [.int .i64 0]), (b1, (FD x2 v1))] [row v1 41 Bn x6] w) ?_ ?_
  ·
   have H := G1
   clear G1 K1
   refine AC ?_
   have F := F.nilRow 41 Bn
   have F := F.frontM (i := 3) Aa Aa
   have F := F.frontM (i := 3) Aa Aa
   have F := F.frontM (i := 3) Aa Aa
   have F := F.frontM (i := 3) Aa Aa
   refine B9 H (fun s a w => ∃ v2 : Value, Fr 97 [{ target := .fn (.func 17) #[.pointer (some ⟨b1, 0, none⟩), .pointer (some ⟨b2, 0, none⟩), .pointer (some ⟨b3, 0, none⟩)], args := #[] }] [(2, .pointer (some ⟨b1, 0, none⟩)), (3, .pointer (some ⟨b2, 0, none⟩)), (4, .pointer (some ⟨b3, 0, none⟩)), (5, .pointer (some ⟨b4, 0, none⟩))] a ∧ Stw ⟨Y, [], w0⟩ [(b4, [.string (bs s.1), .int .i64 s.2.1]), (b3, [.int .i64 0]), (b2, [.int .i64 0]), (b1, (FD x2 v2))] [row v2 41 Bn s.2.2] w) ⟨(Value.slice none 0 0), W.re ⟨rfl, Aa, Aa, Aa, trivial⟩, F⟩ fun s o a w H L2 hR => ?_
   obtain ⟨x7, x8, x9⟩ := s
   obtain ⟨v2, W, F⟩ := hR
   have W : Fr 97 [{ target := .fn (.func 17) #[.pointer (some ⟨b1, 0, none⟩), .pointer (some ⟨b2, 0, none⟩), .pointer (some ⟨b3, 0, none⟩)], args := #[] }] [(2, .pointer (some ⟨b1, 0, none⟩)), (3, .pointer (some ⟨b2, 0, none⟩)), (4, .pointer (some ⟨b3, 0, none⟩)), (5, .pointer (some ⟨b4, 0, none⟩))] a := W
   have F : Stw ⟨Y, [], w0⟩ [(b4, [.string (bs x7), .int .i64 x8]), (b3, [.int .i64 0]), (b2, [.int .i64 0]), (b1, (FD x2 v2))] [row v2 41 Bn x9] w := F
   rw [BU] at H
   refine Ak (Ak (Ac ?_))
   refine ls W F Aa (Ae W Aa).q fun a w W F => ?_
   obtain ⟨x10, h2, H⟩ := An H
   rcases x10 with x11 | x12
   ·
    have H := Fh H
    refine AO (Ml := []) (Zl := []) (M := [(b4, [.string (bs x7), .int .i64 x8]), (b3, [.int .i64 0]), (b2, [.int .i64 0]), (b1, (FD x2 v2))]) (Z := [row v2 41 Bn x9]) (β := Unit) (rv := fun x => .bool x11) (MM := fun x => []) (ZZ := fun x => []) W F O3 Aa Aa (fun hL => Cj _ w b4 (x7, x8) ([108, 105, 110, 107] : List UInt8) _ h2 (Gw F 0 Aa) (hG.go0 F)) fun x a w W F => ?_
    have F : Stw ⟨Y, [], w0⟩ [(b4, [.string (bs x7), .int .i64 x8]), (b3, [.int .i64 0]), (b2, [.int .i64 0]), (b1, (FD x2 v2))] [row v2 41 Bn x9] w := F
    refine Af (Ad ?_)
    refine AD W Aa (fun hb => ?_) fun hb => ?_
    ·
     have H := AW hb H
     rw [hb] at W
     clear hb
     refine Aw (Ad (AC (Ak (Ac ?_))))
     refine ls W F Aa (Ae W Aa).q fun a w W F => ?_
     obtain ⟨x13, h3, H⟩ := An H
     rcases x13 with x14 | x15
     ·
      have H := Fh H
      refine AO (Ml := [(b4, [.string (bs x7), .int .i64 x8])]) (Zl := []) (M := (Ox b3 b2 b1 x2 v2)) (Z := [row v2 41 Bn x9]) (β := Value) (rv := fun x => x) (MM := fun x => [(b4, [.string (bs x14.2.1), .int .i64 x14.2.2])]) (ZZ := fun x => [row x 3 (Rp.int .i64) x14.1]) W F Oj Aa Aa (fun hL => Bx _ _ w b4 (x7, x8) ([108, 105, 110, 107] : List UInt8) 6 _ h3 (hG.go F) hL) fun x a w W F => ?_
      obtain ⟨v3, rfl⟩ : ∃ y, y = x := ⟨x, rfl⟩
      have F : Stw ⟨Y, [], w0⟩ [(b4, [.string (bs x14.2.1), .int .i64 x14.2.2]), (b3, [.int .i64 0]), (b2, [.int .i64 0]), (b1, (FD x2 v2))] [row v3 3 (Rp.int .i64) x14.1, row v2 41 Bn x9] w := F
      refine ls W F Aa (Ag W Aa).q fun a w W F => ?_
      refine Af (Ad ?_)
      refine GL [(true, 0), (true, 1), (true, 2), (true, 3), (true, 4), (true, 5), (true, 6), (true, 7), (true, 8), (true, 9), (true, 10), (true, 11), (true, 12), (true, 13), (true, 14), (true, 15), (true, 16), (true, 17), (true, 18), (true, 19), (true, 20), (true, 21), (false, 22), (false, 23), (true, 24), (true, 25), (false, 26)] (CN ⟨Y, [], w0⟩ [(some 23, b1, [.int .i64 x2.1, v2, .slice none 0 0, .slice none 0 0, .slice none 0 0, .int .i64 0, .int .i64 0, .int .i64 0, .int .i64 0, .int .i64 0, .int .i64 0])] [(some 22, row v3 3 (Rp.int .i64) x14.1)]) (fun i o hi ch a v w h => KZ (fn := Tryd.f9) Aa (by kernel_rfl) hi h) MO (by kernel_rfl) F (fun w F => ⟨_, _, F, (Aq (fun _ => (.tail _ (.tail _ (.tail _ (.head _))))) AA), (Aq (fun _ => (.head _)) AA)⟩) fun w F => ?_
      refine BL (R := []) W Aa Aa (yC fun M Z hN hZ => Ai Bw Aa Aa Aa GE W Aa 0 Aa) Aa Aa fun a W => ?_
      refine BL (R := []) W Aa Aa (yC fun M Z hN hZ => Ai DE Aa Aa Aa HV W Aa 1 Aa) Aa Aa fun a W => ?_
      refine BL (R := [23]) W Aa Aa (yC fun M Z hN hZ => CY (cs := (FD x2 v2)) (v := v2) W Aa (hN ((some 23), b1, (FD x2 v2)) (.head _) Aa) HV Aa) (by kernel_rfl) Aa fun a W => ?_
      refine BL (R := []) W Aa Aa (yC fun M Z hN hZ => Ae W Aa) Aa Aa fun a W => ?_
      obtain ⟨x16, h4, H⟩ := An H
      refine BL (R := []) W Aa Aa (yC fun M Z hN hZ => EM (r := (Rp.int .i64)) GH W Aa Aa (HW F (A3 0 Aa)) h4) Aa Aa fun a W => ?_
      refine BL (R := [22, 21]) W Aa Aa (yC fun M Z hN hZ => AH (y := Value.int .i64 x16) (j := 0) (i := 0) W Aa Aa (ER (hZ ((some 22), row v3 3 (Rp.int .i64) x14.1) (.head _) Aa)) h4 Fl.int.to T3 Aa) (by kernel_rfl) Aa fun a W => ?_
      refine BL (R := []) W Aa Aa (yC fun M Z hN hZ => Ae W Aa) Aa Aa fun a W => ?_
      obtain ⟨x17, h5, H⟩ := An H
      refine BL (R := []) W Aa Aa (yC fun M Z hN hZ => EM (r := (Rp.int .i64)) GH W Aa Aa (HW F (A3 0 Aa)) h5) Aa Aa fun a W => ?_
      refine BL (R := [22, 21]) W Aa Aa (yC fun M Z hN hZ => AH (y := Value.int .i64 x17) (j := 0) (i := 1) W Aa Aa (ER (hZ ((some 22), row v3 3 (Rp.int .i64) x14.1) (.head _) Aa)) h5 Fl.int.to T3 Aa) (by kernel_rfl) Aa fun a W => ?_
      refine BL (R := []) W Aa Aa (yC fun M Z hN hZ => Ae W Aa) Aa Aa fun a W => ?_
      obtain ⟨x18, h6, H⟩ := An H
      refine BL (R := []) W Aa Aa (yC fun M Z hN hZ => EM (r := (Rp.int .i64)) GH W Aa Aa (HW F (A3 0 Aa)) h6) Aa Aa fun a W => ?_
      refine BL (R := [22, 21]) W Aa Aa (yC fun M Z hN hZ => AH (y := Value.int .i64 x18) (j := 0) (i := 2) W Aa Aa (ER (hZ ((some 22), row v3 3 (Rp.int .i64) x14.1) (.head _) Aa)) h6 Fl.int.to T3 Aa) (by kernel_rfl) Aa fun a W => ?_
      refine BL (R := []) W Aa Aa (yC fun M Z hN hZ => Ae W Aa) Aa Aa fun a W => ?_
      obtain ⟨x19, h7, H⟩ := An H
      refine BL (R := []) W Aa Aa (yC fun M Z hN hZ => EM (r := (Rp.int .i64)) GH W Aa Aa (HW F (A3 0 Aa)) h7) Aa Aa fun a W => ?_
      refine BL (R := [22, 21]) W Aa Aa (yC fun M Z hN hZ => AH (y := Value.int .i64 x19) (j := 0) (i := 3) W Aa Aa (ER (hZ ((some 22), row v3 3 (Rp.int .i64) x14.1) (.head _) Aa)) h7 Fl.int.to T3 Aa) (by kernel_rfl) Aa fun a W => ?_
      refine BL (R := []) W Aa Aa (yC fun M Z hN hZ => Ae W Aa) Aa Aa fun a W => ?_
      obtain ⟨x20, h8, H⟩ := An H
      refine BL (R := []) W Aa Aa (yC fun M Z hN hZ => EM (r := (Rp.int .i64)) GH W Aa Aa (HW F (A3 0 Aa)) h8) Aa Aa fun a W => ?_
      refine BL (R := [22, 21]) W Aa Aa (yC fun M Z hN hZ => AH (y := Value.int .i64 x20) (j := 0) (i := 4) W Aa Aa (ER (hZ ((some 22), row v3 3 (Rp.int .i64) x14.1) (.head _) Aa)) h8 Fl.int.to T3 Aa) (by kernel_rfl) Aa fun a W => ?_
      refine BL (R := []) W Aa Aa (yC fun M Z hN hZ => Ae W Aa) Aa Aa fun a W => ?_
      obtain ⟨x21, h9, H⟩ := An H
      refine BL (R := []) W Aa Aa (yC fun M Z hN hZ => EM (r := (Rp.int .i64)) GH W Aa Aa (HW F (A3 0 Aa)) h9) Aa Aa fun a W => ?_
      refine BL (R := [22, 21]) W Aa Aa (yC fun M Z hN hZ => AH (y := Value.int .i64 x21) (j := 0) (i := 5) W Aa Aa (ER (hZ ((some 22), row v3 3 (Rp.int .i64) x14.1) (.head _) Aa)) h9 Fl.int.to T3 Aa) (by kernel_rfl) Aa fun a W => ?_
      refine BL (R := []) W Aa Aa (yC fun M Z hN hZ => F9 (v := Value.agg #[.int .i64 x16, .int .i64 x17, .int .i64 x18, .int .i64 x19, .int .i64 x20, .int .i64 x21]) Qp W Aa Aa Aa) Aa Aa fun a W => ?_
      refine DR Aa ?_
      refine DS (z := Value.agg #[.int .i64 0, .int .i64 0, .int .i64 0, .int .i64 0, .int .i64 0, .int .i64 0]) (cs := [.int .i64 x16, .int .i64 x17, .int .i64 x18, .int .i64 x19, .int .i64 x20, .int .i64 x21]) Bn ([(x16, x17, x18, x19, x20, x21)] : List (Int × Int × Int × Int × Int × Int)) W F Aa OC PX Aa Aa Aa Aa Aa Aa (OL.repL _ _ ([(x16, x17, x18, x19, x20, x21)] : List (Int × Int × Int × Int × Int × Int))) fun v4 a w W F => ?_
      refine BF (N2 := []) (NZ2 := []) (N3 := [(some 23, b1, [.int .i64 x2.1, v2, .slice none 0 0, .slice none 0 0, .slice none 0 0, .int .i64 0, .int .i64 0, .int .i64 0, .int .i64 0, .int .i64 0, .int .i64 0])]) (NZ3 := [(some 22, row v3 3 (Rp.int .i64) x14.1)]) F Aa Aa (Aq (fun _ => (.tail _ (.tail _ (.tail _ (.head _))))) AA) (Aq (fun h => Au (by kernel_rfl) h) AA) ?_
      refine DR Aa ?_
      obtain ⟨x22, h10, H⟩ := An H
      refine EU (r := Bn) (i := 2) W F Aa OC Aa Aa Aa Aa (Gd F 0 Aa) h10 Aa fun v5 a w W F => ?_
      have F : Stw ⟨Y, [], w0⟩ [(b4, [.string (bs x14.2.1), .int .i64 x14.2.2]), (b3, [.int .i64 0]), (b2, [.int .i64 0]), (b1, (FD x2 v2))] [row v5 41 Bn x22, row v4 41 Bn ([(x16, x17, x18, x19, x20, x21)] : List (Int × Int × Int × Int × Int × Int)), row v3 3 (Rp.int .i64) x14.1] w := F
      refine BF (N2 := []) (NZ2 := []) (N3 := [(some 23, b1, [.int .i64 x2.1, v2, .slice none 0 0, .slice none 0 0, .slice none 0 0, .int .i64 0, .int .i64 0, .int .i64 0, .int .i64 0, .int .i64 0, .int .i64 0])]) (NZ3 := [(some 22, row v3 3 (Rp.int .i64) x14.1)]) F Aa Aa (Aq (fun h => Au (by kernel_rfl) h) AA) (Aq (fun h => Au (by kernel_rfl) h) AA) ?_
      refine BL (R := []) W Aa Aa (yC fun M Z hN hZ => Ai Bw Aa Aa Aa GE W Aa 0 Aa) Aa Aa fun a W => ?_
      refine BL (R := []) W Aa Aa (yC fun M Z hN hZ => Ai DE Aa Aa Aa HV W Aa 1 Aa) Aa Aa fun a W => ?_
      refine DR Aa ?_
      refine Hb (M' := [(b4, [.string (bs x14.2.1), .int .i64 x14.2.2]), (b3, [.int .i64 0]), (b2, [.int .i64 0]), (b1, (FD x2 v5))]) 3 W F Aa Aa Aa HV (F.one (k := 0) Aa) Aa Aa fun w F => ?_
      refine BF (N2 := []) (NZ2 := []) (N3 := [(some 23, b1, [.int .i64 x2.1, v2, .slice none 0 0, .slice none 0 0, .slice none 0 0, .int .i64 0, .int .i64 0, .int .i64 0, .int .i64 0, .int .i64 0, .int .i64 0])]) (NZ3 := [(some 22, row v3 3 (Rp.int .i64) x14.1)]) F Aa Aa (Aq (fun h => Au (by kernel_rfl) h) AA) (Aq (fun h => Au (by kernel_rfl) h) AA) ?_
      refine Gb (Bb (Ad ?_))
      have F := F.frontM (i := 3) Aa Aa
      have F := F.frontM (i := 3) Aa Aa
      have F := F.frontM (i := 3) Aa Aa
      have F := F.frontM (i := 3) Aa Aa
      have F := F.sub (M' := [(b4, [.string (bs x14.2.1), .int .i64 x14.2.2]), (b3, [.int .i64 0]), (b2, [.int .i64 0]), (b1, (FD x2 v5))]) (Z' := [row v5 41 Bn x22]) (List.Sublist.refl _) (List.Sublist.cons_cons _ (List.nil_sublist _))
      exact ⟨_, H, (v5), W.re ⟨rfl, Aa, Aa, Aa, trivial⟩, F⟩
     have H := Fg H
     refine B7 (Ml := [(b4, [.string (bs x7), .int .i64 x8])]) (Zl := []) (M := (Ox b3 b2 b1 x2 v2)) (Z := [row v2 41 Bn x9]) (β := Unit) (pv := fun x => .iface 75 (.agg #[.int .i64 x15.1])) (MM := fun x => [(b4, [.string (bs x15.2.1), .int .i64 x15.2.2])]) (ZZ := fun x => []) W F Oj Aa (fun hL => Bx _ _ w b4 (x7, x8) ([108, 105, 110, 107] : List UInt8) 6 _ h3 (hG.go F) hL) fun x w F => ?_
     have F : Stw ⟨Y, [], w0⟩ [(b4, [.string (bs x15.2.1), .int .i64 x15.2.2]), (b3, [.int .i64 0]), (b2, [.int .i64 0]), (b1, (FD x2 v2))] [row v2 41 Bn x9] w := F
     refine BC (C6 (BC (C6 (BC ?_))))
     refine Cc W ?_
     have F := F.nilRow 43 Br
     have F := F.nilRow 39 (Rp.slice (Rp.int .u64))
     have F := F.nilRow 3 (Rp.int .i64)
     have F := F.frontZ (i := 1) Aa Aa
     have F := F.frontZ (i := 2) Aa Aa
     have F := F.frontZ (i := 3) Aa Aa
     have F := F.frontM (i := 1) Aa Aa
     have F := F.frontM (i := 2) Aa Aa
     have F := F.frontM (i := 3) Aa Aa
     refine Di (Ml := (Oo b1 x2 v2 b2 b3)) (Zl := [row v2 41 Bn x9, row (Value.slice none 0 0) 43 Br ([] : List (Int × Int)), row (Value.slice none 0 0) 39 (Rp.slice (Rp.int .u64)) ([] : List (List Int)), row (Value.slice none 0 0) 3 (Rp.int .i64) ([] : List Int)]) (M := [(b4, [.string (bs x15.2.1), .int .i64 x15.2.2])]) (Z := []) (β := Value × Value × Value × Value) (u' := (.panicking ({ v := .iface 75 (.agg #[.int .i64 x15.1]), recovered := true } :: []))) (MM := fun x => [(b1, [.int .i64 ((Ab ((x2.1, x9, ([] : List (Int × Int))), ([] : List (List Int)), ([] : List Int), 0, 0, 0, 0, 0, 0) 0 0 x15.1).1.1.1), x.1, x.2.1, x.2.2.1, x.2.2.2, .int .i64 ((Ab ((x2.1, x9, ([] : List (Int × Int))), ([] : List (List Int)), ([] : List Int), 0, 0, 0, 0, 0, 0) 0 0 x15.1).1.2.2.2.1), .int .i64 ((Ab ((x2.1, x9, ([] : List (Int × Int))), ([] : List (List Int)), ([] : List Int), 0, 0, 0, 0, 0, 0) 0 0 x15.1).1.2.2.2.2.1), .int .i64 ((Ab ((x2.1, x9, ([] : List (Int × Int))), ([] : List (List Int)), ([] : List Int), 0, 0, 0, 0, 0, 0) 0 0 x15.1).1.2.2.2.2.2.1), .int .i64 ((Ab ((x2.1, x9, ([] : List (Int × Int))), ([] : List (List Int)), ([] : List Int), 0, 0, 0, 0, 0, 0) 0 0 x15.1).1.2.2.2.2.2.2.1), .int .i64 ((Ab ((x2.1, x9, ([] : List (Int × Int))), ([] : List (List Int)), ([] : List Int), 0, 0, 0, 0, 0, 0) 0 0 x15.1).1.2.2.2.2.2.2.2.1), .int .i64 ((Ab ((x2.1, x9, ([] : List (Int × Int))), ([] : List (List Int)), ([] : List Int), 0, 0, 0, 0, 0, 0) 0 0 x15.1).1.2.2.2.2.2.2.2.2)]), (b2, [.int .i64 ((Ab ((x2.1, x9, ([] : List (Int × Int))), ([] : List (List Int)), ([] : List Int), 0, 0, 0, 0, 0, 0) 0 0 x15.1).2.1)]), (b3, [.int .i64 ((Ab ((x2.1, x9, ([] : List (Int × Int))), ([] : List (List Int)), ([] : List Int), 0, 0, 0, 0, 0, 0) 0 0 x15.1).2.2)])]) (ZZ := fun x => [row x.1 41 Bn ((Ab ((x2.1, x9, ([] : List (Int × Int))), ([] : List (List Int)), ([] : List Int), 0, 0, 0, 0, 0, 0) 0 0 x15.1).1.1.2.1), row x.2.1 43 Br ((Ab ((x2.1, x9, ([] : List (Int × Int))), ([] : List (List Int)), ([] : List Int), 0, 0, 0, 0, 0, 0) 0 0 x15.1).1.1.2.2), row x.2.2.1 39 (Rp.slice (Rp.int .u64)) ((Ab ((x2.1, x9, ([] : List (Int × Int))), ([] : List (List Int)), ([] : List Int), 0, 0, 0, 0, 0, 0) 0 0 x15.1).1.2.1), row x.2.2.2 3 (Rp.int .i64) ((Ab ((x2.1, x9, ([] : List (Int × Int))), ([] : List (List Int)), ([] : List Int), 0, 0, 0, 0, 0, 0) 0 0 x15.1).1.2.2.1)]) F KL (by simp) (fun hL => AJ _ _ w b1 (v2) (Value.slice none 0 0) (Value.slice none 0 0) (Value.slice none 0 0) b2 b3 ((x2.1, x9, ([] : List (Int × Int))), ([] : List (List Int)), ([] : List Int), 0, 0, 0, 0, 0, 0) 0 0 x15.1 _ Aa hL) fun x w F => ?_
     obtain ⟨v6, v7, v8, v9⟩ := x
     have F : Stw ⟨Y, [], w0⟩ [(b1, [.int .i64 ((Ab ((x2.1, x9, ([] : List (Int × Int))), ([] : List (List Int)), ([] : List Int), 0, 0, 0, 0, 0, 0) 0 0 x15.1).1.1.1), v6, v7, v8, v9, .int .i64 ((Ab ((x2.1, x9, ([] : List (Int × Int))), ([] : List (List Int)), ([] : List Int), 0, 0, 0, 0, 0, 0) 0 0 x15.1).1.2.2.2.1), .int .i64 ((Ab ((x2.1, x9, ([] : List (Int × Int))), ([] : List (List Int)), ([] : List Int), 0, 0, 0, 0, 0, 0) 0 0 x15.1).1.2.2.2.2.1), .int .i64 ((Ab ((x2.1, x9, ([] : List (Int × Int))), ([] : List (List Int)), ([] : List Int), 0, 0, 0, 0, 0, 0) 0 0 x15.1).1.2.2.2.2.2.1), .int .i64 ((Ab ((x2.1, x9, ([] : List (Int × Int))), ([] : List (List Int)), ([] : List Int), 0, 0, 0, 0, 0, 0) 0 0 x15.1).1.2.2.2.2.2.2.1), .int .i64 ((Ab ((x2.1, x9, ([] : List (Int × Int))), ([] : List (List Int)), ([] : List Int), 0, 0, 0, 0, 0, 0) 0 0 x15.1).1.2.2.2.2.2.2.2.1), .int .i64 ((Ab ((x2.1, x9, ([] : List (Int × Int))), ([] : List (List Int)), ([] : List Int), 0, 0, 0, 0, 0, 0) 0 0 x15.1).1.2.2.2.2.2.2.2.2)]), (b2, [.int .i64 ((Ab ((x2.1, x9, ([] : List (Int × Int))), ([] : List (List Int)), ([] : List Int), 0, 0, 0, 0, 0, 0) 0 0 x15.1).2.1)]), (b3, [.int .i64 ((Ab ((x2.1, x9, ([] : List (Int × Int))), ([] : List (List Int)), ([] : List Int), 0, 0, 0, 0, 0, 0) 0 0 x15.1).2.2)]), (b4, [.string (bs x15.2.1), .int .i64 x15.2.2])] [row v6 41 Bn ((Ab ((x2.1, x9, ([] : List (Int × Int))), ([] : List (List Int)), ([] : List Int), 0, 0, 0, 0, 0, 0) 0 0 x15.1).1.1.2.1), row v7 43 Br ((Ab ((x2.1, x9, ([] : List (Int × Int))), ([] : List (List Int)), ([] : List Int), 0, 0, 0, 0, 0, 0) 0 0 x15.1).1.1.2.2), row v8 39 (Rp.slice (Rp.int .u64)) ((Ab ((x2.1, x9, ([] : List (Int × Int))), ([] : List (List Int)), ([] : List Int), 0, 0, 0, 0, 0, 0) 0 0 x15.1).1.2.1), row v9 3 (Rp.int .i64) ((Ab ((x2.1, x9, ([] : List (Int × Int))), ([] : List (List Int)), ([] : List Int), 0, 0, 0, 0, 0, 0) 0 0 x15.1).1.2.2.1)] w := F
     have H := L2 _ H
     have H := L1 _ H
     have H := Ba H
     subst H
     refine Dg F Aa (A2 0 W Aa Aa GI Aa) (A2 1 W Aa Aa T3 Aa) (A2 2 W Aa Aa Ke Aa) ?_
     have F := F.frontZ (i := 3) Aa Aa
     have F := F.frontZ (i := 3) Aa Aa
     have F := F.frontZ (i := 3) Aa Aa
     have F := F.frontZ (i := 3) Aa Aa
     have F := F.sub (M' := []) (Z' := [row v6 41 Bn ((Ab ((x2.1, x9, ([] : List (Int × Int))), ([] : List (List Int)), ([] : List Int), 0, 0, 0, 0, 0, 0) 0 0 x15.1).1.1.2.1), row v7 43 Br ((Ab ((x2.1, x9, ([] : List (Int × Int))), ([] : List (List Int)), ([] : List Int), 0, 0, 0, 0, 0, 0) 0 0 x15.1).1.1.2.2), row v8 39 (Rp.slice (Rp.int .u64)) ((Ab ((x2.1, x9, ([] : List (Int × Int))), ([] : List (List Int)), ([] : List Int), 0, 0, 0, 0, 0, 0) 0 0 x15.1).1.2.1), row v9 3 (Rp.int .i64) ((Ab ((x2.1, x9, ([] : List (Int × Int))), ([] : List (List Int)), ([] : List Int), 0, 0, 0, 0, 0, 0) 0 0 x15.1).1.2.2.1)]) (List.nil_sublist _) (List.Sublist.refl _)
     exact ⟨((v6), (v7), (v8), (v9)), Aa, F⟩
    have H := AV (by rw [hb]; decide) H
    rw [hb] at W
    clear hb
    refine BR ?_
    iterate 2 refine Cr ?_
    refine BQ (Ad ?_)
    have F := F.frontM (i := 3) Aa Aa
    have F := F.frontM (i := 3) Aa Aa
    have F := F.frontM (i := 3) Aa Aa
    have F := F.frontM (i := 3) Aa Aa
    have H := L2 _ H
    exact ⟨_, _, _, (v2), H, W.re ⟨rfl, Aa, Aa, Aa, trivial⟩, F⟩
   have H := Fg H
   refine B7 (Ml := []) (Zl := []) (M := [(b4, [.string (bs x7), .int .i64 x8]), (b3, [.int .i64 0]), (b2, [.int .i64 0]), (b1, (FD x2 v2))]) (Z := [row v2 41 Bn x9]) (β := Unit) (pv := fun x => .iface 75 (.agg #[.int .i64 x12])) (MM := fun x => []) (ZZ := fun x => []) W F O3 Aa (fun hL => Cj _ w b4 (x7, x8) ([108, 105, 110, 107] : List UInt8) _ h2 (Gw F 0 Aa) (hG.go0 F)) fun x w F => ?_
   have F : Stw ⟨Y, [], w0⟩ [(b4, [.string (bs x7), .int .i64 x8]), (b3, [.int .i64 0]), (b2, [.int .i64 0]), (b1, (FD x2 v2))] [row v2 41 Bn x9] w := F
   iterate 3 refine BC ?_
   refine C6 (BC ?_)
   refine Cc W ?_
   have F := F.nilRow 43 Br
   have F := F.nilRow 39 (Rp.slice (Rp.int .u64))
   have F := F.nilRow 3 (Rp.int .i64)
   have F := F.frontZ (i := 1) Aa Aa
   have F := F.frontZ (i := 2) Aa Aa
   have F := F.frontZ (i := 3) Aa Aa
   have F := F.frontM (i := 1) Aa Aa
   have F := F.frontM (i := 2) Aa Aa
   have F := F.frontM (i := 3) Aa Aa
   refine Di (Ml := (Oo b1 x2 v2 b2 b3)) (Zl := [row v2 41 Bn x9, row (Value.slice none 0 0) 43 Br ([] : List (Int × Int)), row (Value.slice none 0 0) 39 (Rp.slice (Rp.int .u64)) ([] : List (List Int)), row (Value.slice none 0 0) 3 (Rp.int .i64) ([] : List Int)]) (M := [(b4, [.string (bs x7), .int .i64 x8])]) (Z := []) (β := Value × Value × Value × Value) (u' := (.panicking ({ v := .iface 75 (.agg #[.int .i64 x12]), recovered := true } :: []))) (MM := fun x => [(b1, [.int .i64 ((Ab ((x2.1, x9, ([] : List (Int × Int))), ([] : List (List Int)), ([] : List Int), 0, 0, 0, 0, 0, 0) 0 0 x12).1.1.1), x.1, x.2.1, x.2.2.1, x.2.2.2, .int .i64 ((Ab ((x2.1, x9, ([] : List (Int × Int))), ([] : List (List Int)), ([] : List Int), 0, 0, 0, 0, 0, 0) 0 0 x12).1.2.2.2.1), .int .i64 ((Ab ((x2.1, x9, ([] : List (Int × Int))), ([] : List (List Int)), ([] : List Int), 0, 0, 0, 0, 0, 0) 0 0 x12).1.2.2.2.2.1), .int .i64 ((Ab ((x2.1, x9, ([] : List (Int × Int))), ([] : List (List Int)), ([] : List Int), 0, 0, 0, 0, 0, 0) 0 0 x12).1.2.2.2.2.2.1), .int .i64 ((Ab ((x2.1, x9, ([] : List (Int × Int))), ([] : List (List Int)), ([] : List Int), 0, 0, 0, 0, 0, 0) 0 0 x12).1.2.2.2.2.2.2.1), .int .i64 ((Ab ((x2.1, x9, ([] : List (Int × Int))), ([] : List (List Int)), ([] : List Int), 0, 0, 0, 0, 0, 0) 0 0 x12).1.2.2.2.2.2.2.2.1), .int .i64 ((Ab ((x2.1, x9, ([] : List (Int × Int))), ([] : List (List Int)), ([] : List Int), 0, 0, 0, 0, 0, 0) 0 0 x12).1.2.2.2.2.2.2.2.2)]), (b2, [.int .i64 ((Ab ((x2.1, x9, ([] : List (Int × Int))), ([] : List (List Int)), ([] : List Int), 0, 0, 0, 0, 0, 0) 0 0 x12).2.1)]), (b3, [.int .i64 ((Ab ((x2.1, x9, ([] : List (Int × Int))), ([] : List (List Int)), ([] : List Int), 0, 0, 0, 0, 0, 0) 0 0 x12).2.2)])]) (ZZ := fun x => [row x.1 41 Bn ((Ab ((x2.1, x9, ([] : List (Int × Int))), ([] : List (List Int)), ([] : List Int), 0, 0, 0, 0, 0, 0) 0 0 x12).1.1.2.1), row x.2.1 43 Br ((Ab ((x2.1, x9, ([] : List (Int × Int))), ([] : List (List Int)), ([] : List Int), 0, 0, 0, 0, 0, 0) 0 0 x12).1.1.2.2), row x.2.2.1 39 (Rp.slice (Rp.int .u64)) ((Ab ((x2.1, x9, ([] : List (Int × Int))), ([] : List (List Int)), ([] : List Int), 0, 0, 0, 0, 0, 0) 0 0 x12).1.2.1), row x.2.2.2 3 (Rp.int .i64) ((Ab ((x2.1, x9, ([] : List (Int × Int))), ([] : List (List Int)), ([] : List Int), 0, 0, 0, 0, 0, 0) 0 0 x12).1.2.2.1)]) F KL (by simp) (fun hL => AJ _ _ w b1 (v2) (Value.slice none 0 0) (Value.slice none 0 0) (Value.slice none 0 0) b2 b3 ((x2.1, x9, ([] : List (Int × Int))), ([] : List (List Int)), ([] : List Int), 0, 0, 0, 0, 0, 0) 0 0 x12 _ Aa hL) fun x w F => ?_
   obtain ⟨v10, v11, v12, v13⟩ := x
   have F : Stw ⟨Y, [], w0⟩ [(b1, [.int .i64 ((Ab ((x2.1, x9, ([] : List (Int × Int))), ([] : List (List Int)), ([] : List Int), 0, 0, 0, 0, 0, 0) 0 0 x12).1.1.1), v10, v11, v12, v13, .int .i64 ((Ab ((x2.1, x9, ([] : List (Int × Int))), ([] : List (List Int)), ([] : List Int), 0, 0, 0, 0, 0, 0) 0 0 x12).1.2.2.2.1), .int .i64 ((Ab ((x2.1, x9, ([] : List (Int × Int))), ([] : List (List Int)), ([] : List Int), 0, 0, 0, 0, 0, 0) 0 0 x12).1.2.2.2.2.1), .int .i64 ((Ab ((x2.1, x9, ([] : List (Int × Int))), ([] : List (List Int)), ([] : List Int), 0, 0, 0, 0, 0, 0) 0 0 x12).1.2.2.2.2.2.1), .int .i64 ((Ab ((x2.1, x9, ([] : List (Int × Int))), ([] : List (List Int)), ([] : List Int), 0, 0, 0, 0, 0, 0) 0 0 x12).1.2.2.2.2.2.2.1), .int .i64 ((Ab ((x2.1, x9, ([] : List (Int × Int))), ([] : List (List Int)), ([] : List Int), 0, 0, 0, 0, 0, 0) 0 0 x12).1.2.2.2.2.2.2.2.1), .int .i64 ((Ab ((x2.1, x9, ([] : List (Int × Int))), ([] : List (List Int)), ([] : List Int), 0, 0, 0, 0, 0, 0) 0 0 x12).1.2.2.2.2.2.2.2.2)]), (b2, [.int .i64 ((Ab ((x2.1, x9, ([] : List (Int × Int))), ([] : List (List Int)), ([] : List Int), 0, 0, 0, 0, 0, 0) 0 0 x12).2.1)]), (b3, [.int .i64 ((Ab ((x2.1, x9, ([] : List (Int × Int))), ([] : List (List Int)), ([] : List Int), 0, 0, 0, 0, 0, 0) 0 0 x12).2.2)]), (b4, [.string (bs x7), .int .i64 x8])] [row v10 41 Bn ((Ab ((x2.1, x9, ([] : List (Int × Int))), ([] : List (List Int)), ([] : List Int), 0, 0, 0, 0, 0, 0) 0 0 x12).1.1.2.1), row v11 43 Br ((Ab ((x2.1, x9, ([] : List (Int × Int))), ([] : List (List Int)), ([] : List Int), 0, 0, 0, 0, 0, 0) 0 0 x12).1.1.2.2), row v12 39 (Rp.slice (Rp.int .u64)) ((Ab ((x2.1, x9, ([] : List (Int × Int))), ([] : List (List Int)), ([] : List Int), 0, 0, 0, 0, 0, 0) 0 0 x12).1.2.1), row v13 3 (Rp.int .i64) ((Ab ((x2.1, x9, ([] : List (Int × Int))), ([] : List (List Int)), ([] : List Int), 0, 0, 0, 0, 0, 0) 0 0 x12).1.2.2.1)] w := F
   have H := L2 _ H
   have H := L1 _ H
   have H := Ba H
   subst H
   refine Dg F Aa (A2 0 W Aa Aa GI Aa) (A2 1 W Aa Aa T3 Aa) (A2 2 W Aa Aa Ke Aa) ?_
   have F := F.frontZ (i := 3) Aa Aa
   have F := F.frontZ (i := 3) Aa Aa
   have F := F.frontZ (i := 3) Aa Aa
   have F := F.frontZ (i := 3) Aa Aa
   have F := F.sub (M' := []) (Z' := [row v10 41 Bn ((Ab ((x2.1, x9, ([] : List (Int × Int))), ([] : List (List Int)), ([] : List Int), 0, 0, 0, 0, 0, 0) 0 0 x12).1.1.2.1), row v11 43 Br ((Ab ((x2.1, x9, ([] : List (Int × Int))), ([] : List (List Int)), ([] : List Int), 0, 0, 0, 0, 0, 0) 0 0 x12).1.1.2.2), row v12 39 (Rp.slice (Rp.int .u64)) ((Ab ((x2.1, x9, ([] : List (Int × Int))), ([] : List (List Int)), ([] : List Int), 0, 0, 0, 0, 0, 0) 0 0 x12).1.2.1), row v13 3 (Rp.int .i64) ((Ab ((x2.1, x9, ([] : List (Int × Int))), ([] : List (List Int)), ([] : List Int), 0, 0, 0, 0, 0, 0) 0 0 x12).1.2.2.1)]) (List.nil_sublist _) (List.Sublist.refl _)
   exact ⟨((v10), (v11), (v12), (v13)), Aa, F⟩
  rintro a w ⟨x4, x5, x6, v1, hj, W, F⟩
  have H := K1 _ hj
  clear hj G1 K1 L1
  obtain ⟨o3, G3, K3, L3⟩ := Ib H
  refine AX (fun a w => ∃ x23 : List UInt8, ∃ x24 : Int, ∃ x25 : List (Int × Int), ∃ v14 : Value, some (Sum.inl (x23, x24, x25)) = some o3 ∧ Fr 97 [{ target := .fn (.func 17) #[.pointer (some ⟨b1, 0, none⟩), .pointer (some ⟨b2, 0, none⟩), .pointer (some ⟨b3, 0, none⟩)], args := #[] }] [(2, .pointer (some ⟨b1, 0, none⟩)), (3, .pointer (some ⟨b2, 0, none⟩)), (4, .pointer (some ⟨b3, 0, none⟩)), (5, .pointer (some ⟨b4, 0, none⟩))] a ∧ Stw ⟨Y, [], w0⟩ [(b4, [.string (bs x23), .int .i64 x24]), (b3, [.int .i64 0]), (b2, [.int .i64 0]), (b1, (FC x2 v1 v14))] [row v1 41 Bn x6, row v14 43 Br x25] w) ?_ ?_
  ·
   have H := G3
   clear G3 K3
   refine AC ?_
   have F := F.nilRow 43 Br
   have F := F.frontZ (i := 1) Aa Aa
   have F := F.frontM (i := 3) Aa Aa
   have F := F.frontM (i := 3) Aa Aa
   have F := F.frontM (i := 3) Aa Aa
   have F := F.frontM (i := 3) Aa Aa
   refine B9 H (fun s a w => ∃ v15 : Value, Fr 97 [{ target := .fn (.func 17) #[.pointer (some ⟨b1, 0, none⟩), .pointer (some ⟨b2, 0, none⟩), .pointer (some ⟨b3, 0, none⟩)], args := #[] }] [(2, .pointer (some ⟨b1, 0, none⟩)), (3, .pointer (some ⟨b2, 0, none⟩)), (4, .pointer (some ⟨b3, 0, none⟩)), (5, .pointer (some ⟨b4, 0, none⟩))] a ∧ Stw ⟨Y, [], w0⟩ [(b4, [.string (bs s.1), .int .i64 s.2.1]), (b3, [.int .i64 0]), (b2, [.int .i64 0]), (b1, (FC x2 v1 v15))] [row v1 41 Bn x6, row v15 43 Br s.2.2] w) ⟨(Value.slice none 0 0), W.re ⟨rfl, Aa, Aa, Aa, trivial⟩, F⟩ fun s o a w H L4 hR => ?_
   obtain ⟨x26, x27, x28⟩ := s
   obtain ⟨v15, W, F⟩ := hR
   have W : Fr 97 [{ target := .fn (.func 17) #[.pointer (some ⟨b1, 0, none⟩), .pointer (some ⟨b2, 0, none⟩), .pointer (some ⟨b3, 0, none⟩)], args := #[] }] [(2, .pointer (some ⟨b1, 0, none⟩)), (3, .pointer (some ⟨b2, 0, none⟩)), (4, .pointer (some ⟨b3, 0, none⟩)), (5, .pointer (some ⟨b4, 0, none⟩))] a := W
   have F : Stw ⟨Y, [], w0⟩ [(b4, [.string (bs x26), .int .i64 x27]), (b3, [.int .i64 0]), (b2, [.int .i64 0]), (b1, (FC x2 v1 v15))] [row v1 41 Bn x6, row v15 43 Br x28] w := F
   rw [BS] at H
   refine Ak (Ak (Ac ?_))
   refine ls W F Aa (Ae W Aa).q fun a w W F => ?_
   obtain ⟨x29, h11, H⟩ := An H
   rcases x29 with x30 | x31
   ·
    have H := Fh H
    refine AO (Ml := []) (Zl := []) (M := [(b4, [.string (bs x26), .int .i64 x27]), (b3, [.int .i64 0]), (b2, [.int .i64 0]), (b1, (FC x2 v1 v15))]) (Z := [row v1 41 Bn x6, row v15 43 Br x28]) (β := Unit) (rv := fun x => .bool x30) (MM := fun x => []) (ZZ := fun x => []) W F O3 Aa Aa (fun hL => Cj _ w b4 (x26, x27) ([104, 111, 115, 116] : List UInt8) _ h11 (Gw F 0 Aa) (hG.go0 F)) fun x a w W F => ?_
    have F : Stw ⟨Y, [], w0⟩ [(b4, [.string (bs x26), .int .i64 x27]), (b3, [.int .i64 0]), (b2, [.int .i64 0]), (b1, (FC x2 v1 v15))] [row v1 41 Bn x6, row v15 43 Br x28] w := F
    refine Af (Ad ?_)
    refine AD W Aa (fun hb => ?_) fun hb => ?_
    ·
     have H := AW hb H
     rw [hb] at W
     clear hb
     refine Aw (Ad (AC (Ak (Ac ?_))))
     refine ls W F Aa (Ae W Aa).q fun a w W F => ?_
     obtain ⟨x32, h12, H⟩ := An H
     rcases x32 with x33 | x34
     ·
      have H := Fh H
      refine AO (Ml := [(b4, [.string (bs x26), .int .i64 x27])]) (Zl := []) (M := [(b3, [.int .i64 0]), (b2, [.int .i64 0]), (b1, [.int .i64 x2.1, v1, v15, .slice none 0 0, .slice none 0 0, .int .i64 0, .int .i64 0, .int .i64 0, .int .i64 0, .int .i64 0, .int .i64 0])]) (Z := [row v1 41 Bn x6, row v15 43 Br x28]) (β := Value) (rv := fun x => x) (MM := fun x => [(b4, [.string (bs x33.2.1), .int .i64 x33.2.2])]) (ZZ := fun x => [row x 3 (Rp.int .i64) x33.1]) W F Oj Aa Aa (fun hL => Bx _ _ w b4 (x26, x27) ([104, 111, 115, 116] : List UInt8) 2 _ h12 (hG.go F) hL) fun x a w W F => ?_
      obtain ⟨v16, rfl⟩ : ∃ y, y = x := ⟨x, rfl⟩
      have F : Stw ⟨Y, [], w0⟩ [(b4, [.string (bs x33.2.1), .int .i64 x33.2.2]), (b3, [.int .i64 0]), (b2, [.int .i64 0]), (b1, (FC x2 v1 v15))] [row v16 3 (Rp.int .i64) x33.1, row v1 41 Bn x6, row v15 43 Br x28] w := F
      refine ls W F Aa (Ag W Aa).q fun a w W F => ?_
      refine Af (Ad ?_)
      refine GL [(true, 0), (true, 1), (true, 2), (true, 3), (true, 4), (true, 5), (true, 6), (true, 7), (true, 8), (true, 9), (false, 10), (false, 11), (true, 12), (true, 13), (false, 14)] (CN ⟨Y, [], w0⟩ [(some 11, b1, [.int .i64 x2.1, v1, v15, .slice none 0 0, .slice none 0 0, .int .i64 0, .int .i64 0, .int .i64 0, .int .i64 0, .int .i64 0, .int .i64 0])] [(some 10, row v16 3 (Rp.int .i64) x33.1)]) (fun i o hi ch a v w h => KZ (fn := Tryd.f9) Aa (by kernel_rfl) hi h) MO (by kernel_rfl) F (fun w F => ⟨_, _, F, (Aq (fun _ => (.tail _ (.tail _ (.tail _ (.head _))))) AA), (Aq (fun _ => (.head _)) AA)⟩) fun w F => ?_
      refine BL (R := []) W Aa Aa (yC fun M Z hN hZ => Ai Bw Aa Aa Aa GE W Aa 0 Aa) Aa Aa fun a W => ?_
      refine BL (R := []) W Aa Aa (yC fun M Z hN hZ => Ai DE Aa Aa Aa Hu W Aa 2 Aa) Aa Aa fun a W => ?_
      refine BL (R := [11]) W Aa Aa (yC fun M Z hN hZ => CY (cs := (FC x2 v1 v15)) (v := v15) W Aa (hN ((some 11), b1, (FC x2 v1 v15)) (.head _) Aa) Hu Aa) (by kernel_rfl) Aa fun a W => ?_
      refine BL (R := []) W Aa Aa (yC fun M Z hN hZ => Ae W Aa) Aa Aa fun a W => ?_
      obtain ⟨x35, h13, H⟩ := An H
      refine BL (R := []) W Aa Aa (yC fun M Z hN hZ => EM (r := (Rp.int .i64)) GH W Aa Aa (HW F (A3 0 Aa)) h13) Aa Aa fun a W => ?_
      refine BL (R := [10, 9]) W Aa Aa (yC fun M Z hN hZ => AH (y := Value.int .i64 x35) (j := 0) (i := 0) W Aa Aa (ER (hZ ((some 10), row v16 3 (Rp.int .i64) x33.1) (.head _) Aa)) h13 Fl.int.to T3 Aa) (by kernel_rfl) Aa fun a W => ?_
      refine BL (R := []) W Aa Aa (yC fun M Z hN hZ => Ae W Aa) Aa Aa fun a W => ?_
      obtain ⟨x36, h14, H⟩ := An H
      refine BL (R := []) W Aa Aa (yC fun M Z hN hZ => EM (r := (Rp.int .i64)) GH W Aa Aa (HW F (A3 0 Aa)) h14) Aa Aa fun a W => ?_
      refine BL (R := [10, 9]) W Aa Aa (yC fun M Z hN hZ => AH (y := Value.int .i64 x36) (j := 0) (i := 1) W Aa Aa (ER (hZ ((some 10), row v16 3 (Rp.int .i64) x33.1) (.head _) Aa)) h14 Fl.int.to T3 Aa) (by kernel_rfl) Aa fun a W => ?_
      refine BL (R := []) W Aa Aa (yC fun M Z hN hZ => F9 (v := Value.agg #[.int .i64 x35, .int .i64 x36]) QG W Aa Aa Aa) Aa Aa fun a W => ?_
      refine DR Aa ?_
      refine DS (z := Value.agg #[.int .i64 0, .int .i64 0]) (cs := [.int .i64 x35, .int .i64 x36]) Br ([(x35, x36)] : List (Int × Int)) W F Aa Oa Qh Aa Aa Aa Aa Aa Aa (Ow.repL _ _ ([(x35, x36)] : List (Int × Int))) fun v17 a w W F => ?_
      refine BF (N2 := []) (NZ2 := []) (N3 := [(some 11, b1, [.int .i64 x2.1, v1, v15, .slice none 0 0, .slice none 0 0, .int .i64 0, .int .i64 0, .int .i64 0, .int .i64 0, .int .i64 0, .int .i64 0])]) (NZ3 := [(some 10, row v16 3 (Rp.int .i64) x33.1)]) F Aa Aa (Aq (fun _ => (.tail _ (.tail _ (.tail _ (.head _))))) AA) (Aq (fun h => Au (by kernel_rfl) h) AA) ?_
      refine DR Aa ?_
      obtain ⟨x37, h15, H⟩ := An H
      refine EU (r := Br) (i := 3) W F Aa Oa Aa Aa Aa Aa (Gd F 0 Aa) h15 Aa fun v18 a w W F => ?_
      have F : Stw ⟨Y, [], w0⟩ [(b4, [.string (bs x33.2.1), .int .i64 x33.2.2]), (b3, [.int .i64 0]), (b2, [.int .i64 0]), (b1, (FC x2 v1 v15))] [row v18 43 Br x37, row v17 43 Br ([(x35, x36)] : List (Int × Int)), row v16 3 (Rp.int .i64) x33.1, row v1 41 Bn x6] w := F
      refine BF (N2 := []) (NZ2 := []) (N3 := [(some 11, b1, [.int .i64 x2.1, v1, v15, .slice none 0 0, .slice none 0 0, .int .i64 0, .int .i64 0, .int .i64 0, .int .i64 0, .int .i64 0, .int .i64 0])]) (NZ3 := [(some 10, row v16 3 (Rp.int .i64) x33.1)]) F Aa Aa (Aq (fun h => Au (by kernel_rfl) h) AA) (Aq (fun h => Au (by kernel_rfl) h) AA) ?_
      refine BL (R := []) W Aa Aa (yC fun M Z hN hZ => Ai Bw Aa Aa Aa GE W Aa 0 Aa) Aa Aa fun a W => ?_
      refine BL (R := []) W Aa Aa (yC fun M Z hN hZ => Ai DE Aa Aa Aa Hu W Aa 2 Aa) Aa Aa fun a W => ?_
      refine DR Aa ?_
      refine Hb (M' := [(b4, [.string (bs x33.2.1), .int .i64 x33.2.2]), (b3, [.int .i64 0]), (b2, [.int .i64 0]), (b1, (FC x2 v1 v18))]) 3 W F Aa Aa Aa Hu (F.one (k := 0) Aa) Aa Aa fun w F => ?_
      refine BF (N2 := []) (NZ2 := []) (N3 := [(some 11, b1, [.int .i64 x2.1, v1, v15, .slice none 0 0, .slice none 0 0, .int .i64 0, .int .i64 0, .int .i64 0, .int .i64 0, .int .i64 0, .int .i64 0])]) (NZ3 := [(some 10, row v16 3 (Rp.int .i64) x33.1)]) F Aa Aa (Aq (fun h => Au (by kernel_rfl) h) AA) (Aq (fun h => Au (by kernel_rfl) h) AA) ?_
      refine Gb (Bb (Ad ?_))
      have F := F.frontZ (i := 3) Aa Aa
      have F := F.frontM (i := 3) Aa Aa
      have F := F.frontM (i := 3) Aa Aa
      have F := F.frontM (i := 3) Aa Aa
      have F := F.frontM (i := 3) Aa Aa
      have F := F.sub (M' := [(b4, [.string (bs x33.2.1), .int .i64 x33.2.2]), (b3, [.int .i64 0]), (b2, [.int .i64 0]), (b1, (FC x2 v1 v18))]) (Z' := [row v1 41 Bn x6, row v18 43 Br x37]) (List.Sublist.refl _) (List.Sublist.cons_cons _ (List.Sublist.cons_cons _ (List.nil_sublist _)))
      exact ⟨_, H, (v18), W.re ⟨rfl, Aa, Aa, Aa, trivial⟩, F⟩
     have H := Fg H
     refine B7 (Ml := [(b4, [.string (bs x26), .int .i64 x27])]) (Zl := []) (M := [(b3, [.int .i64 0]), (b2, [.int .i64 0]), (b1, [.int .i64 x2.1, v1, v15, .slice none 0 0, .slice none 0 0, .int .i64 0, .int .i64 0, .int .i64 0, .int .i64 0, .int .i64 0, .int .i64 0])]) (Z := [row v1 41 Bn x6, row v15 43 Br x28]) (β := Unit) (pv := fun x => .iface 75 (.agg #[.int .i64 x34.1])) (MM := fun x => [(b4, [.string (bs x34.2.1), .int .i64 x34.2.2])]) (ZZ := fun x => []) W F Oj Aa (fun hL => Bx _ _ w b4 (x26, x27) ([104, 111, 115, 116] : List UInt8) 2 _ h12 (hG.go F) hL) fun x w F => ?_
     have F : Stw ⟨Y, [], w0⟩ [(b4, [.string (bs x34.2.1), .int .i64 x34.2.2]), (b3, [.int .i64 0]), (b2, [.int .i64 0]), (b1, (FC x2 v1 v15))] [row v1 41 Bn x6, row v15 43 Br x28] w := F
     refine BC (C6 (BC (C6 (BC ?_))))
     refine Cc W ?_
     have F := F.nilRow 39 (Rp.slice (Rp.int .u64))
     have F := F.nilRow 3 (Rp.int .i64)
     have F := F.frontZ (i := 1) Aa Aa
     have F := F.frontZ (i := 3) Aa Aa
     have F := F.frontZ (i := 3) Aa Aa
     have F := F.frontM (i := 1) Aa Aa
     have F := F.frontM (i := 2) Aa Aa
     have F := F.frontM (i := 3) Aa Aa
     refine Di (Ml := [(b1, [.int .i64 x2.1, v1, v15, .slice none 0 0, .slice none 0 0, .int .i64 0, .int .i64 0, .int .i64 0, .int .i64 0, .int .i64 0, .int .i64 0]), (b2, [.int .i64 0]), (b3, [.int .i64 0])]) (Zl := [row v1 41 Bn x6, row v15 43 Br x28, row (Value.slice none 0 0) 39 (Rp.slice (Rp.int .u64)) ([] : List (List Int)), row (Value.slice none 0 0) 3 (Rp.int .i64) ([] : List Int)]) (M := [(b4, [.string (bs x34.2.1), .int .i64 x34.2.2])]) (Z := []) (β := Value × Value × Value × Value) (u' := (.panicking ({ v := .iface 75 (.agg #[.int .i64 x34.1]), recovered := true } :: []))) (MM := fun x => [(b1, [.int .i64 ((Ab ((x2.1, x6, x28), ([] : List (List Int)), ([] : List Int), 0, 0, 0, 0, 0, 0) 0 0 x34.1).1.1.1), x.1, x.2.1, x.2.2.1, x.2.2.2, .int .i64 ((Ab ((x2.1, x6, x28), ([] : List (List Int)), ([] : List Int), 0, 0, 0, 0, 0, 0) 0 0 x34.1).1.2.2.2.1), .int .i64 ((Ab ((x2.1, x6, x28), ([] : List (List Int)), ([] : List Int), 0, 0, 0, 0, 0, 0) 0 0 x34.1).1.2.2.2.2.1), .int .i64 ((Ab ((x2.1, x6, x28), ([] : List (List Int)), ([] : List Int), 0, 0, 0, 0, 0, 0) 0 0 x34.1).1.2.2.2.2.2.1), .int .i64 ((Ab ((x2.1, x6, x28), ([] : List (List Int)), ([] : List Int), 0, 0, 0, 0, 0, 0) 0 0 x34.1).1.2.2.2.2.2.2.1), .int .i64 ((Ab ((x2.1, x6, x28), ([] : List (List Int)), ([] : List Int), 0, 0, 0, 0, 0, 0) 0 0 x34.1).1.2.2.2.2.2.2.2.1), .int .i64 ((Ab ((x2.1, x6, x28), ([] : List (List Int)), ([] : List Int), 0, 0, 0, 0, 0, 0) 0 0 x34.1).1.2.2.2.2.2.2.2.2)]), (b2, [.int .i64 ((Ab ((x2.1, x6, x28), ([] : List (List Int)), ([] : List Int), 0, 0, 0, 0, 0, 0) 0 0 x34.1).2.1)]), (b3, [.int .i64 ((Ab ((x2.1, x6, x28), ([] : List (List Int)), ([] : List Int), 0, 0, 0, 0, 0, 0) 0 0 x34.1).2.2)])]) (ZZ := fun x => [row x.1 41 Bn ((Ab ((x2.1, x6, x28), ([] : List (List Int)), ([] : List Int), 0, 0, 0, 0, 0, 0) 0 0 x34.1).1.1.2.1), row x.2.1 43 Br ((Ab ((x2.1, x6, x28), ([] : List (List Int)), ([] : List Int), 0, 0, 0, 0, 0, 0) 0 0 x34.1).1.1.2.2), row x.2.2.1 39 (Rp.slice (Rp.int .u64)) ((Ab ((x2.1, x6, x28), ([] : List (List Int)), ([] : List Int), 0, 0, 0, 0, 0, 0) 0 0 x34.1).1.2.1), row x.2.2.2 3 (Rp.int .i64) ((Ab ((x2.1, x6, x28), ([] : List (List Int)), ([] : List Int), 0, 0, 0, 0, 0, 0) 0 0 x34.1).1.2.2.1)]) F KL (by simp) (fun hL => AJ _ _ w b1 (v1) (v15) (Value.slice none 0 0) (Value.slice none 0 0) b2 b3 ((x2.1, x6, x28), ([] : List (List Int)), ([] : List Int), 0, 0, 0, 0, 0, 0) 0 0 x34.1 _ Aa hL) fun x w F => ?_
     obtain ⟨v19, v20, v21, v22⟩ := x
     have F : Stw ⟨Y, [], w0⟩ [(b1, [.int .i64 ((Ab ((x2.1, x6, x28), ([] : List (List Int)), ([] : List Int), 0, 0, 0, 0, 0, 0) 0 0 x34.1).1.1.1), v19, v20, v21, v22, .int .i64 ((Ab ((x2.1, x6, x28), ([] : List (List Int)), ([] : List Int), 0, 0, 0, 0, 0, 0) 0 0 x34.1).1.2.2.2.1), .int .i64 ((Ab ((x2.1, x6, x28), ([] : List (List Int)), ([] : List Int), 0, 0, 0, 0, 0, 0) 0 0 x34.1).1.2.2.2.2.1), .int .i64 ((Ab ((x2.1, x6, x28), ([] : List (List Int)), ([] : List Int), 0, 0, 0, 0, 0, 0) 0 0 x34.1).1.2.2.2.2.2.1), .int .i64 ((Ab ((x2.1, x6, x28), ([] : List (List Int)), ([] : List Int), 0, 0, 0, 0, 0, 0) 0 0 x34.1).1.2.2.2.2.2.2.1), .int .i64 ((Ab ((x2.1, x6, x28), ([] : List (List Int)), ([] : List Int), 0, 0, 0, 0, 0, 0) 0 0 x34.1).1.2.2.2.2.2.2.2.1), .int .i64 ((Ab ((x2.1, x6, x28), ([] : List (List Int)), ([] : List Int), 0, 0, 0, 0, 0, 0) 0 0 x34.1).1.2.2.2.2.2.2.2.2)]), (b2, [.int .i64 ((Ab ((x2.1, x6, x28), ([] : List (List Int)), ([] : List Int), 0, 0, 0, 0, 0, 0) 0 0 x34.1).2.1)]), (b3, [.int .i64 ((Ab ((x2.1, x6, x28), ([] : List (List Int)), ([] : List Int), 0, 0, 0, 0, 0, 0) 0 0 x34.1).2.2)]), (b4, [.string (bs x34.2.1), .int .i64 x34.2.2])] [row v19 41 Bn ((Ab ((x2.1, x6, x28), ([] : List (List Int)), ([] : List Int), 0, 0, 0, 0, 0, 0) 0 0 x34.1).1.1.2.1), row v20 43 Br ((Ab ((x2.1, x6, x28), ([] : List (List Int)), ([] : List Int), 0, 0, 0, 0, 0, 0) 0 0 x34.1).1.1.2.2), row v21 39 (Rp.slice (Rp.int .u64)) ((Ab ((x2.1, x6, x28), ([] : List (List Int)), ([] : List Int), 0, 0, 0, 0, 0, 0) 0 0 x34.1).1.2.1), row v22 3 (Rp.int .i64) ((Ab ((x2.1, x6, x28), ([] : List (List Int)), ([] : List Int), 0, 0, 0, 0, 0, 0) 0 0 x34.1).1.2.2.1)] w := F
     have H := L4 _ H
     have H := L3 _ H
     have H := Ba H
     subst H
     refine Dg F Aa (A2 0 W Aa Aa GI Aa) (A2 1 W Aa Aa T3 Aa) (A2 2 W Aa Aa Ke Aa) ?_
     have F := F.frontZ (i := 3) Aa Aa
     have F := F.frontZ (i := 3) Aa Aa
     have F := F.frontZ (i := 3) Aa Aa
     have F := F.frontZ (i := 3) Aa Aa
     have F := F.sub (M' := []) (Z' := [row v19 41 Bn ((Ab ((x2.1, x6, x28), ([] : List (List Int)), ([] : List Int), 0, 0, 0, 0, 0, 0) 0 0 x34.1).1.1.2.1), row v20 43 Br ((Ab ((x2.1, x6, x28), ([] : List (List Int)), ([] : List Int), 0, 0, 0, 0, 0, 0) 0 0 x34.1).1.1.2.2), row v21 39 (Rp.slice (Rp.int .u64)) ((Ab ((x2.1, x6, x28), ([] : List (List Int)), ([] : List Int), 0, 0, 0, 0, 0, 0) 0 0 x34.1).1.2.1), row v22 3 (Rp.int .i64) ((Ab ((x2.1, x6, x28), ([] : List (List Int)), ([] : List Int), 0, 0, 0, 0, 0, 0) 0 0 x34.1).1.2.2.1)]) (List.nil_sublist _) (List.Sublist.refl _)
     exact ⟨((v19), (v20), (v21), (v22)), Aa, F⟩
    have H := AV (by rw [hb]; decide) H
    rw [hb] at W
    clear hb
    refine BR ?_
    iterate 2 refine Cr ?_
    refine BQ (Ad ?_)
    have F := F.frontZ (i := 1) Aa Aa
    have F := F.frontZ (i := 1) Aa Aa
    have F := F.frontM (i := 3) Aa Aa
    have F := F.frontM (i := 3) Aa Aa
    have F := F.frontM (i := 3) Aa Aa
    have F := F.frontM (i := 3) Aa Aa
    have H := L4 _ H
    exact ⟨_, _, _, (v15), H, W.re ⟨rfl, Aa, Aa, Aa, trivial⟩, F⟩
   have H := Fg H
   refine B7 (Ml := []) (Zl := []) (M := [(b4, [.string (bs x26), .int .i64 x27]), (b3, [.int .i64 0]), (b2, [.int .i64 0]), (b1, (FC x2 v1 v15))]) (Z := [row v1 41 Bn x6, row v15 43 Br x28]) (β := Unit) (pv := fun x => .iface 75 (.agg #[.int .i64 x31])) (MM := fun x => []) (ZZ := fun x => []) W F O3 Aa (fun hL => Cj _ w b4 (x26, x27) ([104, 111, 115, 116] : List UInt8) _ h11 (Gw F 0 Aa) (hG.go0 F)) fun x w F => ?_
   have F : Stw ⟨Y, [], w0⟩ [(b4, [.string (bs x26), .int .i64 x27]), (b3, [.int .i64 0]), (b2, [.int .i64 0]), (b1, (FC x2 v1 v15))] [row v1 41 Bn x6, row v15 43 Br x28] w := F
   iterate 3 refine BC ?_
   refine C6 (BC ?_)
   refine Cc W ?_
   have F := F.nilRow 39 (Rp.slice (Rp.int .u64))
   have F := F.nilRow 3 (Rp.int .i64)
   have F := F.frontZ (i := 1) Aa Aa
   have F := F.frontZ (i := 3) Aa Aa
   have F := F.frontZ (i := 3) Aa Aa
   have F := F.frontM (i := 1) Aa Aa
   have F := F.frontM (i := 2) Aa Aa
   have F := F.frontM (i := 3) Aa Aa
   refine Di (Ml := [(b1, [.int .i64 x2.1, v1, v15, .slice none 0 0, .slice none 0 0, .int .i64 0, .int .i64 0, .int .i64 0, .int .i64 0, .int .i64 0, .int .i64 0]), (b2, [.int .i64 0]), (b3, [.int .i64 0])]) (Zl := [row v1 41 Bn x6, row v15 43 Br x28, row (Value.slice none 0 0) 39 (Rp.slice (Rp.int .u64)) ([] : List (List Int)), row (Value.slice none 0 0) 3 (Rp.int .i64) ([] : List Int)]) (M := [(b4, [.string (bs x26), .int .i64 x27])]) (Z := []) (β := Value × Value × Value × Value) (u' := (.panicking ({ v := .iface 75 (.agg #[.int .i64 x31]), recovered := true } :: []))) (MM := fun x => [(b1, [.int .i64 ((Ab ((x2.1, x6, x28), ([] : List (List Int)), ([] : List Int), 0, 0, 0, 0, 0, 0) 0 0 x31).1.1.1), x.1, x.2.1, x.2.2.1, x.2.2.2, .int .i64 ((Ab ((x2.1, x6, x28), ([] : List (List Int)), ([] : List Int), 0, 0, 0, 0, 0, 0) 0 0 x31).1.2.2.2.1), .int .i64 ((Ab ((x2.1, x6, x28), ([] : List (List Int)), ([] : List Int), 0, 0, 0, 0, 0, 0) 0 0 x31).1.2.2.2.2.1), .int .i64 ((Ab ((x2.1, x6, x28), ([] : List (List Int)), ([] : List Int), 0, 0, 0, 0, 0, 0) 0 0 x31).1.2.2.2.2.2.1), .int .i64 ((Ab ((x2.1, x6, x28), ([] : List (List Int)), ([] : List Int), 0, 0, 0, 0, 0, 0) 0 0 x31).1.2.2.2.2.2.2.1), .int .i64 ((Ab ((x2.1, x6, x28), ([] : List (List Int)), ([] : List Int), 0, 0, 0, 0, 0, 0) 0 0 x31).1.2.2.2.2.2.2.2.1), .int .i64 ((Ab ((x2.1, x6, x28), ([] : List (List Int)), ([] : List Int), 0, 0, 0, 0, 0, 0) 0 0 x31).1.2.2.2.2.2.2.2.2)]), (b2, [.int .i64 ((Ab ((x2.1, x6, x28), ([] : List (List Int)), ([] : List Int), 0, 0, 0, 0, 0, 0) 0 0 x31).2.1)]), (b3, [.int .i64 ((Ab ((x2.1, x6, x28), ([] : List (List Int)), ([] : List Int), 0, 0, 0, 0, 0, 0) 0 0 x31).2.2)])]) (ZZ := fun x => [row x.1 41 Bn ((Ab ((x2.1, x6, x28), ([] : List (List Int)), ([] : List Int), 0, 0, 0, 0, 0, 0) 0 0 x31).1.1.2.1), row x.2.1 43 Br ((Ab ((x2.1, x6, x28), ([] : List (List Int)), ([] : List Int), 0, 0, 0, 0, 0, 0) 0 0 x31).1.1.2.2), row x.2.2.1 39 (Rp.slice (Rp.int .u64)) ((Ab ((x2.1, x6, x28), ([] : List (List Int)), ([] : List Int), 0, 0, 0, 0, 0, 0) 0 0 x31).1.2.1), row x.2.2.2 3 (Rp.int .i64) ((Ab ((x2.1, x6, x28), ([] : List (List Int)), ([] : List Int), 0, 0, 0, 0, 0, 0) 0 0 x31).1.2.2.1)]) F KL (by simp) (fun hL => AJ _ _ w b1 (v1) (v15) (Value.slice none 0 0) (Value.slice none 0 0) b2 b3 ((x2.1, x6, x28), ([] : List (List Int)), ([] : List Int), 0, 0, 0, 0, 0, 0) 0 0 x31 _ Aa hL) fun x w F => ?_
   obtain ⟨v23, v24, v25, v26⟩ := x
   have F : Stw ⟨Y, [], w0⟩ [(b1, [.int .i64 ((Ab ((x2.1, x6, x28), ([] : List (List Int)), ([] : List Int), 0, 0, 0, 0, 0, 0) 0 0 x31).1.1.1), v23, v24, v25, v26, .int .i64 ((Ab ((x2.1, x6, x28), ([] : List (List Int)), ([] : List Int), 0, 0, 0, 0, 0, 0) 0 0 x31).1.2.2.2.1), .int .i64 ((Ab ((x2.1, x6, x28), ([] : List (List Int)), ([] : List Int), 0, 0, 0, 0, 0, 0) 0 0 x31).1.2.2.2.2.1), .int .i64 ((Ab ((x2.1, x6, x28), ([] : List (List Int)), ([] : List Int), 0, 0, 0, 0, 0, 0) 0 0 x31).1.2.2.2.2.2.1), .int .i64 ((Ab ((x2.1, x6, x28), ([] : List (List Int)), ([] : List Int), 0, 0, 0, 0, 0, 0) 0 0 x31).1.2.2.2.2.2.2.1), .int .i64 ((Ab ((x2.1, x6, x28), ([] : List (List Int)), ([] : List Int), 0, 0, 0, 0, 0, 0) 0 0 x31).1.2.2.2.2.2.2.2.1), .int .i64 ((Ab ((x2.1, x6, x28), ([] : List (List Int)), ([] : List Int), 0, 0, 0, 0, 0, 0) 0 0 x31).1.2.2.2.2.2.2.2.2)]), (b2, [.int .i64 ((Ab ((x2.1, x6, x28), ([] : List (List Int)), ([] : List Int), 0, 0, 0, 0, 0, 0) 0 0 x31).2.1)]), (b3, [.int .i64 ((Ab ((x2.1, x6, x28), ([] : List (List Int)), ([] : List Int), 0, 0, 0, 0, 0, 0) 0 0 x31).2.2)]), (b4, [.string (bs x26), .int .i64 x27])] [row v23 41 Bn ((Ab ((x2.1, x6, x28), ([] : List (List Int)), ([] : List Int), 0, 0, 0, 0, 0, 0) 0 0 x31).1.1.2.1), row v24 43 Br ((Ab ((x2.1, x6, x28), ([] : List (List Int)), ([] : List Int), 0, 0, 0, 0, 0, 0) 0 0 x31).1.1.2.2), row v25 39 (Rp.slice (Rp.int .u64)) ((Ab ((x2.1, x6, x28), ([] : List (List Int)), ([] : List Int), 0, 0, 0, 0, 0, 0) 0 0 x31).1.2.1), row v26 3 (Rp.int .i64) ((Ab ((x2.1, x6, x28), ([] : List (List Int)), ([] : List Int), 0, 0, 0, 0, 0, 0) 0 0 x31).1.2.2.1)] w := F
   have H := L4 _ H
   have H := L3 _ H
   have H := Ba H
   subst H
   refine Dg F Aa (A2 0 W Aa Aa GI Aa) (A2 1 W Aa Aa T3 Aa) (A2 2 W Aa Aa Ke Aa) ?_
   have F := F.frontZ (i := 3) Aa Aa
   have F := F.frontZ (i := 3) Aa Aa
   have F := F.frontZ (i := 3) Aa Aa
   have F := F.frontZ (i := 3) Aa Aa
   have F := F.sub (M' := []) (Z' := [row v23 41 Bn ((Ab ((x2.1, x6, x28), ([] : List (List Int)), ([] : List Int), 0, 0, 0, 0, 0, 0) 0 0 x31).1.1.2.1), row v24 43 Br ((Ab ((x2.1, x6, x28), ([] : List (List Int)), ([] : List Int), 0, 0, 0, 0, 0, 0) 0 0 x31).1.1.2.2), row v25 39 (Rp.slice (Rp.int .u64)) ((Ab ((x2.1, x6, x28), ([] : List (List Int)), ([] : List Int), 0, 0, 0, 0, 0, 0) 0 0 x31).1.2.1), row v26 3 (Rp.int .i64) ((Ab ((x2.1, x6, x28), ([] : List (List Int)), ([] : List Int), 0, 0, 0, 0, 0, 0) 0 0 x31).1.2.2.1)]) (List.nil_sublist _) (List.Sublist.refl _)
   exact ⟨((v23), (v24), (v25), (v26)), Aa, F⟩
  rintro a w ⟨x23, x24, x25, v14, hj, W, F⟩
  have H := K3 _ hj
  clear hj G3 K3 L3
  obtain ⟨o5, G5, K5, L5⟩ := Ib H
  refine AX (fun a w => ∃ x38 : List UInt8, ∃ x39 : Int, ∃ x40 : List (List Int), ∃ v27 : Value, some (Sum.inl (x38, x39, x40)) = some o5 ∧ Fr 97 [{ target := .fn (.func 17) #[.pointer (some ⟨b1, 0, none⟩), .pointer (some ⟨b2, 0, none⟩), .pointer (some ⟨b3, 0, none⟩)], args := #[] }] [(2, .pointer (some ⟨b1, 0, none⟩)), (3, .pointer (some ⟨b2, 0, none⟩)), (4, .pointer (some ⟨b3, 0, none⟩)), (5, .pointer (some ⟨b4, 0, none⟩))] a ∧ Stw ⟨Y, [], w0⟩ [(b4, [.string (bs x38), .int .i64 x39]), (b3, [.int .i64 0]), (b2, [.int .i64 0]), (b1, (E8 x2 v1 v14 v27))] [row v1 41 Bn x6, row v14 43 Br x25, row v27 39 (Rp.slice (Rp.int .u64)) x40] w) ?_ ?_
  ·
   have H := G5
   clear G5 K5
   refine AC ?_
   have F := F.nilRow 39 (Rp.slice (Rp.int .u64))
   have F := F.frontZ (i := 2) Aa Aa
   have F := F.frontZ (i := 2) Aa Aa
   have F := F.frontM (i := 3) Aa Aa
   have F := F.frontM (i := 3) Aa Aa
   have F := F.frontM (i := 3) Aa Aa
   have F := F.frontM (i := 3) Aa Aa
   refine B9 H (fun s a w => ∃ v28 : Value, Fr 97 [{ target := .fn (.func 17) #[.pointer (some ⟨b1, 0, none⟩), .pointer (some ⟨b2, 0, none⟩), .pointer (some ⟨b3, 0, none⟩)], args := #[] }] [(2, .pointer (some ⟨b1, 0, none⟩)), (3, .pointer (some ⟨b2, 0, none⟩)), (4, .pointer (some ⟨b3, 0, none⟩)), (5, .pointer (some ⟨b4, 0, none⟩))] a ∧ Stw ⟨Y, [], w0⟩ [(b4, [.string (bs s.1), .int .i64 s.2.1]), (b3, [.int .i64 0]), (b2, [.int .i64 0]), (b1, (E8 x2 v1 v14 v28))] [row v1 41 Bn x6, row v14 43 Br x25, row v28 39 (Rp.slice (Rp.int .u64)) s.2.2] w) ⟨(Value.slice none 0 0), W.re ⟨rfl, Aa, Aa, Aa, trivial⟩, F⟩ fun s o a w H L6 hR => ?_
   obtain ⟨x41, x42, x43⟩ := s
   obtain ⟨v28, W, F⟩ := hR
   have W : Fr 97 [{ target := .fn (.func 17) #[.pointer (some ⟨b1, 0, none⟩), .pointer (some ⟨b2, 0, none⟩), .pointer (some ⟨b3, 0, none⟩)], args := #[] }] [(2, .pointer (some ⟨b1, 0, none⟩)), (3, .pointer (some ⟨b2, 0, none⟩)), (4, .pointer (some ⟨b3, 0, none⟩)), (5, .pointer (some ⟨b4, 0, none⟩))] a := W
   have F : Stw ⟨Y, [], w0⟩ [(b4, [.string (bs x41), .int .i64 x42]), (b3, [.int .i64 0]), (b2, [.int .i64 0]), (b1, (E8 x2 v1 v14 v28))] [row v1 41 Bn x6, row v14 43 Br x25, row v28 39 (Rp.slice (Rp.int .u64)) x43] w := F
   rw [BV] at H
   refine Ak (Ak (Ac ?_))
   refine ls W F Aa (Ae W Aa).q fun a w W F => ?_
   obtain ⟨x44, h16, H⟩ := An H
   rcases x44 with x45 | x46
   ·
    have H := Fh H
    refine AO (Ml := []) (Zl := []) (M := [(b4, [.string (bs x41), .int .i64 x42]), (b3, [.int .i64 0]), (b2, [.int .i64 0]), (b1, (E8 x2 v1 v14 v28))]) (Z := [row v1 41 Bn x6, row v14 43 Br x25, row v28 39 (Rp.slice (Rp.int .u64)) x43]) (β := Unit) (rv := fun x => .bool x45) (MM := fun x => []) (ZZ := fun x => []) W F O3 Aa Aa (fun hL => Cj _ w b4 (x41, x42) ([119, 101, 105, 103, 104, 116, 115] : List UInt8) _ h16 (Gw F 0 Aa) (hG.go0 F)) fun x a w W F => ?_
    have F : Stw ⟨Y, [], w0⟩ [(b4, [.string (bs x41), .int .i64 x42]), (b3, [.int .i64 0]), (b2, [.int .i64 0]), (b1, (E8 x2 v1 v14 v28))] [row v1 41 Bn x6, row v14 43 Br x25, row v28 39 (Rp.slice (Rp.int .u64)) x43] w := F
    refine Af (Ad ?_)
    refine AD W Aa (fun hb => ?_) fun hb => ?_
    ·
     have H := AW hb H
     rw [hb] at W
     clear hb
     refine Aw (Ad (AC ?_))
     refine GL [(true, 0), (true, 1), (true, 2), (false, 3), (false, 4), (false, 5), (true, 6), (false, 7)] (CN ⟨Y, [], w0⟩ [(some 5, b1, [.int .i64 x2.1, v1, v14, v28, .slice none 0 0, .int .i64 0, .int .i64 0, .int .i64 0, .int .i64 0, .int .i64 0, .int .i64 0])] []) (fun i o hi ch a v w h => KZ (fn := Tryd.f9) Aa (by kernel_rfl) hi h) MO (by kernel_rfl) F (fun w F => ⟨_, _, F, (Aq (fun _ => (.tail _ (.tail _ (.tail _ (.head _))))) AA), AA⟩) fun w F => ?_
     refine BL (R := []) W Aa Aa (yC fun M Z hN hZ => Ai Bw Aa Aa Aa HY W Aa 3 Aa) Aa Aa fun a W => ?_
     refine BL (R := [5]) W Aa Aa (yC fun M Z hN hZ => CY (cs := (E8 x2 v1 v14 v28)) (v := v28) W Aa (hN ((some 5), b1, (E8 x2 v1 v14 v28)) (.head _) Aa) HY Aa) (by kernel_rfl) Aa fun a W => ?_
     refine BL (R := []) W Aa Aa (yC fun M Z hN hZ => Ae W Aa) Aa Aa fun a W => ?_
     refine DR Aa ?_
     obtain ⟨x47, h17, H⟩ := An H
     rcases x47 with x48 | x49
     ·
      have H := Fh H
      refine AO (Ml := [(b4, [.string (bs x41), .int .i64 x42])]) (Zl := []) (M := (LB b3 b2 b1 x2 v1 v14 v28)) (Z := [row v1 41 Bn x6, row v14 43 Br x25, row v28 39 (Rp.slice (Rp.int .u64)) x43]) (β := Value) (rv := fun x => x) (MM := fun x => [(b4, [.string (bs x48.2.1), .int .i64 x48.2.2])]) (ZZ := fun x => [row x 45 (Rp.int .u64) x48.1]) W F Qe Aa Aa (fun hL => E5 _ _ w b4 (x41, x42) ([119, 101, 105, 103, 104, 116, 115] : List UInt8) _ h17 (hG.go F) hL) fun x a w W F => ?_
      obtain ⟨v29, rfl⟩ : ∃ y, y = x := ⟨x, rfl⟩
      have F : Stw ⟨Y, [], w0⟩ [(b4, [.string (bs x48.2.1), .int .i64 x48.2.2]), (b3, [.int .i64 0]), (b2, [.int .i64 0]), (b1, (E8 x2 v1 v14 v28))] [row v29 45 (Rp.int .u64) x48.1, row v1 41 Bn x6, row v14 43 Br x25, row v28 39 (Rp.slice (Rp.int .u64)) x43] w := F
      refine BF (N2 := []) (NZ2 := []) (N3 := [(some 5, b1, [.int .i64 x2.1, v1, v14, v28, .slice none 0 0, .int .i64 0, .int .i64 0, .int .i64 0, .int .i64 0, .int .i64 0, .int .i64 0])]) (NZ3 := []) F Aa Aa (Aq (fun _ => (.tail _ (.tail _ (.tail _ (.head _))))) AA) AA ?_
      refine DR Aa ?_
      have F := F.freeze
      refine DS (z := Value.slice none 0 0) (cs := [v29]) (Rp.slice (Rp.int .u64)) ([x48.1] : List (List Int)) W F Aa Od Qm Aa Aa Aa (Fc Aa (FS (F.oneF (k := 0) Aa)) Aa Ix) Aa Aa ⟨[v29], _, Aa, ⟨_, Aa, (F.item (i := 0) Aa)⟩, Aa⟩ fun v30 a w W F => ?_
      refine BF (N2 := []) (NZ2 := []) (N3 := [(some 5, b1, [.int .i64 x2.1, v1, v14, v28, .slice none 0 0, .int .i64 0, .int .i64 0, .int .i64 0, .int .i64 0, .int .i64 0, .int .i64 0])]) (NZ3 := []) F Aa Aa (Aq (fun _ => (.tail _ (.tail _ (.tail _ (.head _))))) AA) AA ?_
      refine DR Aa ?_
      obtain ⟨x50, h18, H⟩ := An H
      refine EU (r := (Rp.slice (Rp.int .u64))) (i := 4) W F Aa Od Aa Aa Aa Aa (Gd F 0 Aa) h18 Aa fun v31 a w W F => ?_
      have F : Stw ⟨Y, [], w0⟩ [(b4, [.string (bs x48.2.1), .int .i64 x48.2.2]), (b3, [.int .i64 0]), (b2, [.int .i64 0]), (b1, (E8 x2 v1 v14 v28))] [row v31 39 (Rp.slice (Rp.int .u64)) x50, row v30 39 (Rp.slice (Rp.int .u64)) ([x48.1] : List (List Int)), J2 v29 (Rp.int .u64) x48.1, row v1 41 Bn x6, row v14 43 Br x25] w := F
      refine BF (N2 := []) (NZ2 := []) (N3 := [(some 5, b1, [.int .i64 x2.1, v1, v14, v28, .slice none 0 0, .int .i64 0, .int .i64 0, .int .i64 0, .int .i64 0, .int .i64 0, .int .i64 0])]) (NZ3 := []) F Aa Aa (Aq (fun h => Au (by kernel_rfl) h) AA) AA ?_
      refine BL (R := []) W Aa Aa (yC fun M Z hN hZ => Ai Bw Aa Aa Aa HY W Aa 3 Aa) Aa Aa fun a W => ?_
      refine DR Aa ?_
      refine Hb (M' := [(b4, [.string (bs x48.2.1), .int .i64 x48.2.2]), (b3, [.int .i64 0]), (b2, [.int .i64 0]), (b1, (E8 x2 v1 v14 v31))]) 3 W F Aa Aa Aa HY (F.one (k := 0) Aa) Aa Aa fun w F => ?_
      refine BF (N2 := []) (NZ2 := []) (N3 := [(some 5, b1, [.int .i64 x2.1, v1, v14, v28, .slice none 0 0, .int .i64 0, .int .i64 0, .int .i64 0, .int .i64 0, .int .i64 0, .int .i64 0])]) (NZ3 := []) F Aa Aa (Aq (fun h => Au (by kernel_rfl) h) AA) AA ?_
      refine Gb (Bb (Ad ?_))
      have F := F.frontZ (i := 4) Aa Aa
      have F := F.frontZ (i := 4) Aa Aa
      have F := F.frontM (i := 3) Aa Aa
      have F := F.frontM (i := 3) Aa Aa
      have F := F.frontM (i := 3) Aa Aa
      have F := F.frontM (i := 3) Aa Aa
      have F := F.sub (M' := [(b4, [.string (bs x48.2.1), .int .i64 x48.2.2]), (b3, [.int .i64 0]), (b2, [.int .i64 0]), (b1, (E8 x2 v1 v14 v31))]) (Z' := [row v1 41 Bn x6, row v14 43 Br x25, row v31 39 (Rp.slice (Rp.int .u64)) x50]) (List.Sublist.refl _) (List.Sublist.cons_cons _ (List.Sublist.cons_cons _ (List.Sublist.cons_cons _ (List.nil_sublist _))))
      exact ⟨_, H, (v31), W.re ⟨rfl, Aa, Aa, Aa, trivial⟩, F⟩
     have H := Fg H
     refine B7 (Ml := [(b4, [.string (bs x41), .int .i64 x42])]) (Zl := []) (M := (LB b3 b2 b1 x2 v1 v14 v28)) (Z := [row v1 41 Bn x6, row v14 43 Br x25, row v28 39 (Rp.slice (Rp.int .u64)) x43]) (β := Unit) (pv := fun x => .iface 75 (.agg #[.int .i64 x49.1])) (MM := fun x => [(b4, [.string (bs x49.2.1), .int .i64 x49.2.2])]) (ZZ := fun x => []) W F Qe Aa (fun hL => E5 _ _ w b4 (x41, x42) ([119, 101, 105, 103, 104, 116, 115] : List UInt8) _ h17 (hG.go F) hL) fun x w F => ?_
     have F : Stw ⟨Y, [], w0⟩ [(b4, [.string (bs x49.2.1), .int .i64 x49.2.2]), (b3, [.int .i64 0]), (b2, [.int .i64 0]), (b1, (E8 x2 v1 v14 v28))] [row v1 41 Bn x6, row v14 43 Br x25, row v28 39 (Rp.slice (Rp.int .u64)) x43] w := F
     refine Pd (C6 (BC (C6 (BC ?_))))
     refine Cc W ?_
     have F := F.nilRow 3 (Rp.int .i64)
     have F := F.frontZ (i := 3) Aa Aa
     have F := F.frontZ (i := 3) Aa Aa
     have F := F.frontZ (i := 3) Aa Aa
     have F := F.frontM (i := 1) Aa Aa
     have F := F.frontM (i := 2) Aa Aa
     have F := F.frontM (i := 3) Aa Aa
     refine Di (Ml := (MJ b1 x2 v1 v14 v28 b2 b3)) (Zl := [row v1 41 Bn x6, row v14 43 Br x25, row v28 39 (Rp.slice (Rp.int .u64)) x43, row (Value.slice none 0 0) 3 (Rp.int .i64) ([] : List Int)]) (M := [(b4, [.string (bs x49.2.1), .int .i64 x49.2.2])]) (Z := []) (β := Value × Value × Value × Value) (u' := (.panicking ({ v := .iface 75 (.agg #[.int .i64 x49.1]), recovered := true } :: []))) (MM := fun x => [(b1, [.int .i64 ((Ab ((x2.1, x6, x25), x43, ([] : List Int), 0, 0, 0, 0, 0, 0) 0 0 x49.1).1.1.1), x.1, x.2.1, x.2.2.1, x.2.2.2, .int .i64 ((Ab ((x2.1, x6, x25), x43, ([] : List Int), 0, 0, 0, 0, 0, 0) 0 0 x49.1).1.2.2.2.1), .int .i64 ((Ab ((x2.1, x6, x25), x43, ([] : List Int), 0, 0, 0, 0, 0, 0) 0 0 x49.1).1.2.2.2.2.1), .int .i64 ((Ab ((x2.1, x6, x25), x43, ([] : List Int), 0, 0, 0, 0, 0, 0) 0 0 x49.1).1.2.2.2.2.2.1), .int .i64 ((Ab ((x2.1, x6, x25), x43, ([] : List Int), 0, 0, 0, 0, 0, 0) 0 0 x49.1).1.2.2.2.2.2.2.1), .int .i64 ((Ab ((x2.1, x6, x25), x43, ([] : List Int), 0, 0, 0, 0, 0, 0) 0 0 x49.1).1.2.2.2.2.2.2.2.1), .int .i64 ((Ab ((x2.1, x6, x25), x43, ([] : List Int), 0, 0, 0, 0, 0, 0) 0 0 x49.1).1.2.2.2.2.2.2.2.2)]), (b2, (LU x2 x6 x25 x43 x49)), (b3, (LJ x2 x6 x25 x43 x49))]) (ZZ := fun x => [row x.1 41 Bn ((Ab ((x2.1, x6, x25), x43, ([] : List Int), 0, 0, 0, 0, 0, 0) 0 0 x49.1).1.1.2.1), row x.2.1 43 Br ((Ab ((x2.1, x6, x25), x43, ([] : List Int), 0, 0, 0, 0, 0, 0) 0 0 x49.1).1.1.2.2), row x.2.2.1 39 (Rp.slice (Rp.int .u64)) ((Ab ((x2.1, x6, x25), x43, ([] : List Int), 0, 0, 0, 0, 0, 0) 0 0 x49.1).1.2.1), row x.2.2.2 3 (Rp.int .i64) ((Ab ((x2.1, x6, x25), x43, ([] : List Int), 0, 0, 0, 0, 0, 0) 0 0 x49.1).1.2.2.1)]) F KL (by simp) (fun hL => AJ _ _ w b1 (v1) (v14) (v28) (Value.slice none 0 0) b2 b3 ((x2.1, x6, x25), x43, ([] : List Int), 0, 0, 0, 0, 0, 0) 0 0 x49.1 _ Aa hL) fun x w F => ?_
     obtain ⟨v32, v33, v34, v35⟩ := x
     have F : Stw ⟨Y, [], w0⟩ [(b1, (Om x2 x6 x25 x43 x49 v32 v33 v34 v35)), (b2, (LU x2 x6 x25 x43 x49)), (b3, (LJ x2 x6 x25 x43 x49)), (b4, [.string (bs x49.2.1), .int .i64 x49.2.2])] [row v32 41 Bn ((Ab ((x2.1, x6, x25), x43, ([] : List Int), 0, 0, 0, 0, 0, 0) 0 0 x49.1).1.1.2.1), row v33 43 Br ((Ab ((x2.1, x6, x25), x43, ([] : List Int), 0, 0, 0, 0, 0, 0) 0 0 x49.1).1.1.2.2), row v34 39 (Rp.slice (Rp.int .u64)) ((Ab ((x2.1, x6, x25), x43, ([] : List Int), 0, 0, 0, 0, 0, 0) 0 0 x49.1).1.2.1), row v35 3 (Rp.int .i64) ((Ab ((x2.1, x6, x25), x43, ([] : List Int), 0, 0, 0, 0, 0, 0) 0 0 x49.1).1.2.2.1)] w := F
     have H := L6 _ H
     have H := L5 _ H
     have H := Ba H
     subst H
     refine Dg F Aa (A2 0 W Aa Aa GI Aa) (A2 1 W Aa Aa T3 Aa) (A2 2 W Aa Aa Ke Aa) ?_
     have F := F.frontZ (i := 3) Aa Aa
     have F := F.frontZ (i := 3) Aa Aa
     have F := F.frontZ (i := 3) Aa Aa
     have F := F.frontZ (i := 3) Aa Aa
     have F := F.sub (M' := []) (Z' := [row v32 41 Bn ((Ab ((x2.1, x6, x25), x43, ([] : List Int), 0, 0, 0, 0, 0, 0) 0 0 x49.1).1.1.2.1), row v33 43 Br ((Ab ((x2.1, x6, x25), x43, ([] : List Int), 0, 0, 0, 0, 0, 0) 0 0 x49.1).1.1.2.2), row v34 39 (Rp.slice (Rp.int .u64)) ((Ab ((x2.1, x6, x25), x43, ([] : List Int), 0, 0, 0, 0, 0, 0) 0 0 x49.1).1.2.1), row v35 3 (Rp.int .i64) ((Ab ((x2.1, x6, x25), x43, ([] : List Int), 0, 0, 0, 0, 0, 0) 0 0 x49.1).1.2.2.1)]) (List.nil_sublist _) (List.Sublist.refl _)
     exact ⟨((v32), (v33), (v34), (v35)), Aa, F⟩
    have H := AV (by rw [hb]; decide) H
    rw [hb] at W
    clear hb
    refine BR ?_
    iterate 2 refine Cr ?_
    refine BQ (Ad ?_)
    have F := F.frontZ (i := 2) Aa Aa
    have F := F.frontZ (i := 2) Aa Aa
    have F := F.frontZ (i := 2) Aa Aa
    have F := F.frontM (i := 3) Aa Aa
    have F := F.frontM (i := 3) Aa Aa
    have F := F.frontM (i := 3) Aa Aa
    have F := F.frontM (i := 3) Aa Aa
    have H := L6 _ H
    exact ⟨_, _, _, (v28), H, W.re ⟨rfl, Aa, Aa, Aa, trivial⟩, F⟩
   have H := Fg H
   refine B7 (Ml := []) (Zl := []) (M := [(b4, [.string (bs x41), .int .i64 x42]), (b3, [.int .i64 0]), (b2, [.int .i64 0]), (b1, (E8 x2 v1 v14 v28))]) (Z := [row v1 41 Bn x6, row v14 43 Br x25, row v28 39 (Rp.slice (Rp.int .u64)) x43]) (β := Unit) (pv := fun x => .iface 75 (.agg #[.int .i64 x46])) (MM := fun x => []) (ZZ := fun x => []) W F O3 Aa (fun hL => Cj _ w b4 (x41, x42) ([119, 101, 105, 103, 104, 116, 115] : List UInt8) _ h16 (Gw F 0 Aa) (hG.go0 F)) fun x w F => ?_
   have F : Stw ⟨Y, [], w0⟩ [(b4, [.string (bs x41), .int .i64 x42]), (b3, [.int .i64 0]), (b2, [.int .i64 0]), (b1, (E8 x2 v1 v14 v28))] [row v1 41 Bn x6, row v14 43 Br x25, row v28 39 (Rp.slice (Rp.int .u64)) x43] w := F
   iterate 3 refine BC ?_
   refine C6 (BC ?_)
   refine Cc W ?_
   have F := F.nilRow 3 (Rp.int .i64)
   have F := F.frontZ (i := 3) Aa Aa
   have F := F.frontZ (i := 3) Aa Aa
   have F := F.frontZ (i := 3) Aa Aa
   have F := F.frontM (i := 1) Aa Aa
   have F := F.frontM (i := 2) Aa Aa
   have F := F.frontM (i := 3) Aa Aa
   refine Di (Ml := (MJ b1 x2 v1 v14 v28 b2 b3)) (Zl := [row v1 41 Bn x6, row v14 43 Br x25, row v28 39 (Rp.slice (Rp.int .u64)) x43, row (Value.slice none 0 0) 3 (Rp.int .i64) ([] : List Int)]) (M := [(b4, [.string (bs x41), .int .i64 x42])]) (Z := []) (β := Value × Value × Value × Value) (u' := (.panicking ({ v := .iface 75 (.agg #[.int .i64 x46]), recovered := true } :: []))) (MM := fun x => [(b1, [.int .i64 ((Ab ((x2.1, x6, x25), x43, ([] : List Int), 0, 0, 0, 0, 0, 0) 0 0 x46).1.1.1), x.1, x.2.1, x.2.2.1, x.2.2.2, .int .i64 ((Ab ((x2.1, x6, x25), x43, ([] : List Int), 0, 0, 0, 0, 0, 0) 0 0 x46).1.2.2.2.1), .int .i64 ((Ab ((x2.1, x6, x25), x43, ([] : List Int), 0, 0, 0, 0, 0, 0) 0 0 x46).1.2.2.2.2.1), .int .i64 ((Ab ((x2.1, x6, x25), x43, ([] : List Int), 0, 0, 0, 0, 0, 0) 0 0 x46).1.2.2.2.2.2.1), .int .i64 ((Ab ((x2.1, x6, x25), x43, ([] : List Int), 0, 0, 0, 0, 0, 0) 0 0 x46).1.2.2.2.2.2.2.1), .int .i64 ((Ab ((x2.1, x6, x25), x43, ([] : List Int), 0, 0, 0, 0, 0, 0) 0 0 x46).1.2.2.2.2.2.2.2.1), .int .i64 ((Ab ((x2.1, x6, x25), x43, ([] : List Int), 0, 0, 0, 0, 0, 0) 0 0 x46).1.2.2.2.2.2.2.2.2)]), (b2, [.int .i64 ((Ab ((x2.1, x6, x25), x43, ([] : List Int), 0, 0, 0, 0, 0, 0) 0 0 x46).2.1)]), (b3, [.int .i64 ((Ab ((x2.1, x6, x25), x43, ([] : List Int), 0, 0, 0, 0, 0, 0) 0 0 x46).2.2)])]) (ZZ := fun x => [row x.1 41 Bn ((Ab ((x2.1, x6, x25), x43, ([] : List Int), 0, 0, 0, 0, 0, 0) 0 0 x46).1.1.2.1), row x.2.1 43 Br ((Ab ((x2.1, x6, x25), x43, ([] : List Int), 0, 0, 0, 0, 0, 0) 0 0 x46).1.1.2.2), row x.2.2.1 39 (Rp.slice (Rp.int .u64)) ((Ab ((x2.1, x6, x25), x43, ([] : List Int), 0, 0, 0, 0, 0, 0) 0 0 x46).1.2.1), row x.2.2.2 3 (Rp.int .i64) ((Ab ((x2.1, x6, x25), x43, ([] : List Int), 0, 0, 0, 0, 0, 0) 0 0 x46).1.2.2.1)]) F KL (by simp) (fun hL => AJ _ _ w b1 (v1) (v14) (v28) (Value.slice none 0 0) b2 b3 ((x2.1, x6, x25), x43, ([] : List Int), 0, 0, 0, 0, 0, 0) 0 0 x46 _ Aa hL) fun x w F => ?_
   obtain ⟨v36, v37, v38, v39⟩ := x
   have F : Stw ⟨Y, [], w0⟩ [(b1, [.int .i64 ((Ab ((x2.1, x6, x25), x43, ([] : List Int), 0, 0, 0, 0, 0, 0) 0 0 x46).1.1.1), v36, v37, v38, v39, .int .i64 ((Ab ((x2.1, x6, x25), x43, ([] : List Int), 0, 0, 0, 0, 0, 0) 0 0 x46).1.2.2.2.1), .int .i64 ((Ab ((x2.1, x6, x25), x43, ([] : List Int), 0, 0, 0, 0, 0, 0) 0 0 x46).1.2.2.2.2.1), .int .i64 ((Ab ((x2.1, x6, x25), x43, ([] : List Int), 0, 0, 0, 0, 0, 0) 0 0 x46).1.2.2.2.2.2.1), .int .i64 ((Ab ((x2.1, x6, x25), x43, ([] : List Int), 0, 0, 0, 0, 0, 0) 0 0 x46).1.2.2.2.2.2.2.1), .int .i64 ((Ab ((x2.1, x6, x25), x43, ([] : List Int), 0, 0, 0, 0, 0, 0) 0 0 x46).1.2.2.2.2.2.2.2.1), .int .i64 ((Ab ((x2.1, x6, x25), x43, ([] : List Int), 0, 0, 0, 0, 0, 0) 0 0 x46).1.2.2.2.2.2.2.2.2)]), (b2, [.int .i64 ((Ab ((x2.1, x6, x25), x43, ([] : List Int), 0, 0, 0, 0, 0, 0) 0 0 x46).2.1)]), (b3, [.int .i64 ((Ab ((x2.1, x6, x25), x43, ([] : List Int), 0, 0, 0, 0, 0, 0) 0 0 x46).2.2)]), (b4, [.string (bs x41), .int .i64 x42])] [row v36 41 Bn ((Ab ((x2.1, x6, x25), x43, ([] : List Int), 0, 0, 0, 0, 0, 0) 0 0 x46).1.1.2.1), row v37 43 Br ((Ab ((x2.1, x6, x25), x43, ([] : List Int), 0, 0, 0, 0, 0, 0) 0 0 x46).1.1.2.2), row v38 39 (Rp.slice (Rp.int .u64)) ((Ab ((x2.1, x6, x25), x43, ([] : List Int), 0, 0, 0, 0, 0, 0) 0 0 x46).1.2.1), row v39 3 (Rp.int .i64) ((Ab ((x2.1, x6, x25), x43, ([] : List Int), 0, 0, 0, 0, 0, 0) 0 0 x46).1.2.2.1)] w := F
   have H := L6 _ H
   have H := L5 _ H
   have H := Ba H
   subst H
   refine Dg F Aa (A2 0 W Aa Aa GI Aa) (A2 1 W Aa Aa T3 Aa) (A2 2 W Aa Aa Ke Aa) ?_
   have F := F.frontZ (i := 3) Aa Aa
   have F := F.frontZ (i := 3) Aa Aa
   have F := F.frontZ (i := 3) Aa Aa
   have F := F.frontZ (i := 3) Aa Aa
   have F := F.sub (M' := []) (Z' := [row v36 41 Bn ((Ab ((x2.1, x6, x25), x43, ([] : List Int), 0, 0, 0, 0, 0, 0) 0 0 x46).1.1.2.1), row v37 43 Br ((Ab ((x2.1, x6, x25), x43, ([] : List Int), 0, 0, 0, 0, 0, 0) 0 0 x46).1.1.2.2), row v38 39 (Rp.slice (Rp.int .u64)) ((Ab ((x2.1, x6, x25), x43, ([] : List Int), 0, 0, 0, 0, 0, 0) 0 0 x46).1.2.1), row v39 3 (Rp.int .i64) ((Ab ((x2.1, x6, x25), x43, ([] : List Int), 0, 0, 0, 0, 0, 0) 0 0 x46).1.2.2.1)]) (List.nil_sublist _) (List.Sublist.refl _)
   exact ⟨((v36), (v37), (v38), (v39)), Aa, F⟩
  rintro a w ⟨x38, x39, x40, v27, hj, W, F⟩
  have H := K5 _ hj
  clear hj G5 K5 L5
  refine Ak (Ac ?_)
  refine ls W F Aa (Ae W Aa).q fun a w W F => ?_
  obtain ⟨x51, h19, H⟩ := An H
  rcases x51 with x52 | x53
  ·
   have H := Fh H
   refine AO (Ml := [(b4, [.string (bs x38), .int .i64 x39])]) (Zl := []) (M := (LB b3 b2 b1 x2 v1 v14 v27)) (Z := [row v1 41 Bn x6, row v14 43 Br x25, row v27 39 (Rp.slice (Rp.int .u64)) x40]) (β := Value) (rv := fun x => x) (MM := fun x => [(b4, [.string (bs x52.2.1), .int .i64 x52.2.2])]) (ZZ := fun x => [row x 3 (Rp.int .i64) x52.1]) W F Oj Aa Aa (fun hL => Bx _ _ w b4 (x38, x39) ([115, 116, 97, 114, 116, 115] : List UInt8) (-1) _ h19 (hG.go F) hL) fun x a w W F => ?_
   obtain ⟨v40, rfl⟩ : ∃ y, y = x := ⟨x, rfl⟩
   have F : Stw ⟨Y, [], w0⟩ [(b4, [.string (bs x52.2.1), .int .i64 x52.2.2]), (b3, [.int .i64 0]), (b2, [.int .i64 0]), (b1, (E8 x2 v1 v14 v27))] [row v40 3 (Rp.int .i64) x52.1, row v1 41 Bn x6, row v14 43 Br x25, row v27 39 (Rp.slice (Rp.int .u64)) x40] w := F
   refine ls W F Aa (Ai Bw Aa Aa Aa KN W Aa 4 Aa).q fun a w W F => ?_
   refine Hb (M' := [(b4, [.string (bs x52.2.1), .int .i64 x52.2.2]), (b3, [.int .i64 0]), (b2, [.int .i64 0]), (b1, (My x2 v1 v14 v27 v40))]) 3 W F Aa Aa Aa KN (F.one (k := 0) Aa) Aa Aa fun w F => ?_
   refine Af (Ad (Ak (Ac ?_)))
   refine ls W F Aa (Ae W Aa).q fun a w W F => ?_
   obtain ⟨x54, h20, H⟩ := An H
   rcases x54 with x55 | x56
   ·
    have H := Fh H
    refine AO (Ml := [(b4, [.string (bs x52.2.1), .int .i64 x52.2.2])]) (Zl := []) (M := [(b3, [.int .i64 0]), (b2, [.int .i64 0]), (b1, [.int .i64 x2.1, v1, v14, v27, v40, .int .i64 0, .int .i64 0, .int .i64 0, .int .i64 0, .int .i64 0, .int .i64 0])]) (Z := [row v40 3 (Rp.int .i64) x52.1, row v1 41 Bn x6, row v14 43 Br x25, row v27 39 (Rp.slice (Rp.int .u64)) x40]) (β := Unit) (rv := fun x => .int .i64 x55.1) (MM := fun x => [(b4, [.string (bs x55.2.1), .int .i64 x55.2.2])]) (ZZ := fun x => []) W F Lt Aa Aa (fun hL => AM _ _ w b4 x52.2 ([114, 97, 116, 101] : List UInt8) _ h20 (hG.go F) hL) fun x a w W F => ?_
    have F : Stw ⟨Y, [], w0⟩ [(b4, [.string (bs x55.2.1), .int .i64 x55.2.2]), (b3, [.int .i64 0]), (b2, [.int .i64 0]), (b1, (My x2 v1 v14 v27 v40))] [row v40 3 (Rp.int .i64) x52.1, row v1 41 Bn x6, row v14 43 Br x25, row v27 39 (Rp.slice (Rp.int .u64)) x40] w := F
    refine ls W F Aa (Ai Bw Aa Aa Aa T3 W Aa 5 Aa).q fun a w W F => ?_
    refine Co (vs := [.int .i64 x55.1]) (M' := [(b4, [.string (bs x55.2.1), .int .i64 x55.2.2]), (b3, [.int .i64 0]), (b2, [.int .i64 0]), (b1, (Nw x2 v1 v14 v27 v40 x55))]) 3 W F Aa Aa Aa T3 Aa Aa Aa Aa Aa fun w F => ?_
    refine Af (Ad (Ak (Ac ?_)))
    refine ls W F Aa (Ae W Aa).q fun a w W F => ?_
    obtain ⟨x57, h21, H⟩ := An H
    rcases x57 with x58 | x59
    ·
     have H := Fh H
     refine AO (Ml := [(b4, [.string (bs x55.2.1), .int .i64 x55.2.2])]) (Zl := []) (M := [(b3, [.int .i64 0]), (b2, [.int .i64 0]), (b1, [.int .i64 x2.1, v1, v14, v27, v40, .int .i64 x55.1, .int .i64 0, .int .i64 0, .int .i64 0, .int .i64 0, .int .i64 0])]) (Z := [row v40 3 (Rp.int .i64) x52.1, row v1 41 Bn x6, row v14 43 Br x25, row v27 39 (Rp.slice (Rp.int .u64)) x40]) (β := Unit) (rv := fun x => .int .i64 x58.1) (MM := fun x => [(b4, [.string (bs x58.2.1), .int .i64 x58.2.2])]) (ZZ := fun x => []) W F Lt Aa Aa (fun hL => AM _ _ w b4 x55.2 ([114, 111, 111, 109] : List UInt8) _ h21 (hG.go F) hL) fun x a w W F => ?_
     have F : Stw ⟨Y, [], w0⟩ [(b4, [.string (bs x58.2.1), .int .i64 x58.2.2]), (b3, [.int .i64 0]), (b2, [.int .i64 0]), (b1, (Nw x2 v1 v14 v27 v40 x55))] [row v40 3 (Rp.int .i64) x52.1, row v1 41 Bn x6, row v14 43 Br x25, row v27 39 (Rp.slice (Rp.int .u64)) x40] w := F
     refine ls W F Aa (Ai Bw Aa Aa Aa T3 W Aa 6 Aa).q fun a w W F => ?_
     refine Co (vs := [.int .i64 x58.1]) (M' := [(b4, [.string (bs x58.2.1), .int .i64 x58.2.2]), (b3, [.int .i64 0]), (b2, [.int .i64 0]), (b1, (JN x2 v1 v14 v27 v40 x55 x58))]) 3 W F Aa Aa Aa T3 Aa Aa Aa Aa Aa fun w F => ?_
     refine Af (Ad (Ak (Ac ?_)))
     refine ls W F Aa (Ae W Aa).q fun a w W F => ?_
     obtain ⟨x60, h22, H⟩ := An H
     rcases x60 with x61 | x62
     ·
      have H := Fh H
      refine AO (Ml := [(b4, [.string (bs x58.2.1), .int .i64 x58.2.2])]) (Zl := []) (M := [(b3, [.int .i64 0]), (b2, [.int .i64 0]), (b1, (JN x2 v1 v14 v27 v40 x55 x58))]) (Z := [row v40 3 (Rp.int .i64) x52.1, row v1 41 Bn x6, row v14 43 Br x25, row v27 39 (Rp.slice (Rp.int .u64)) x40]) (β := Unit) (rv := fun x => .int .i64 x61.1) (MM := fun x => [(b4, [.string (bs x61.2.1), .int .i64 x61.2.2])]) (ZZ := fun x => []) W F Lt Aa Aa (fun hL => AM _ _ w b4 x58.2 ([119, 105, 100, 101] : List UInt8) _ h22 (hG.go F) hL) fun x a w W F => ?_
      have F : Stw ⟨Y, [], w0⟩ [(b4, [.string (bs x61.2.1), .int .i64 x61.2.2]), (b3, [.int .i64 0]), (b2, [.int .i64 0]), (b1, (JN x2 v1 v14 v27 v40 x55 x58))] [row v40 3 (Rp.int .i64) x52.1, row v1 41 Bn x6, row v14 43 Br x25, row v27 39 (Rp.slice (Rp.int .u64)) x40] w := F
      refine ls W F Aa (Ai Bw Aa Aa Aa T3 W Aa 7 Aa).q fun a w W F => ?_
      refine Co (vs := [.int .i64 x61.1]) (M' := [(b4, [.string (bs x61.2.1), .int .i64 x61.2.2]), (b3, [.int .i64 0]), (b2, [.int .i64 0]), (b1, (JQ x2 v1 v14 v27 v40 x55 x58 x61))]) 3 W F Aa Aa Aa T3 Aa Aa Aa Aa Aa fun w F => ?_
      refine Af (Ad (Ak (Ac ?_)))
      refine ls W F Aa (Ae W Aa).q fun a w W F => ?_
      obtain ⟨x63, h23, H⟩ := An H
      rcases x63 with x64 | x65
      ·
       have H := Fh H
       refine AO (Ml := [(b4, [.string (bs x61.2.1), .int .i64 x61.2.2])]) (Zl := []) (M := [(b3, [.int .i64 0]), (b2, [.int .i64 0]), (b1, (JQ x2 v1 v14 v27 v40 x55 x58 x61))]) (Z := [row v40 3 (Rp.int .i64) x52.1, row v1 41 Bn x6, row v14 43 Br x25, row v27 39 (Rp.slice (Rp.int .u64)) x40]) (β := Unit) (rv := fun x => .int .i64 x64.1) (MM := fun x => [(b4, [.string (bs x64.2.1), .int .i64 x64.2.2])]) (ZZ := fun x => []) W F Lt Aa Aa (fun hL => AM _ _ w b4 x61.2 ([108, 101, 97, 100] : List UInt8) _ h23 (hG.go F) hL) fun x a w W F => ?_
       have F : Stw ⟨Y, [], w0⟩ [(b4, [.string (bs x64.2.1), .int .i64 x64.2.2]), (b3, [.int .i64 0]), (b2, [.int .i64 0]), (b1, (JQ x2 v1 v14 v27 v40 x55 x58 x61))] [row v40 3 (Rp.int .i64) x52.1, row v1 41 Bn x6, row v14 43 Br x25, row v27 39 (Rp.slice (Rp.int .u64)) x40] w := F
       refine ls W F Aa (Ai Bw Aa Aa Aa T3 W Aa 8 Aa).q fun a w W F => ?_
       refine Co (vs := [.int .i64 x64.1]) (M' := [(b4, [.string (bs x64.2.1), .int .i64 x64.2.2]), (b3, [.int .i64 0]), (b2, [.int .i64 0]), (b1, (JM x2 v1 v14 v27 v40 x55 x58 x61 x64))]) 3 W F Aa Aa Aa T3 Aa Aa Aa Aa Aa fun w F => ?_
       refine Af (Ad (Ak (Ac ?_)))
       refine ls W F Aa (Ae W Aa).q fun a w W F => ?_
       obtain ⟨x66, h24, H⟩ := An H
       rcases x66 with x67 | x68
       ·
        have H := Fh H
        refine AO (Ml := [(b4, [.string (bs x64.2.1), .int .i64 x64.2.2])]) (Zl := []) (M := [(b3, [.int .i64 0]), (b2, [.int .i64 0]), (b1, (JM x2 v1 v14 v27 v40 x55 x58 x61 x64))]) (Z := [row v40 3 (Rp.int .i64) x52.1, row v1 41 Bn x6, row v14 43 Br x25, row v27 39 (Rp.slice (Rp.int .u64)) x40]) (β := Unit) (rv := fun x => .int .i64 x67.1) (MM := fun x => [(b4, [.string (bs x67.2.1), .int .i64 x67.2.2])]) (ZZ := fun x => []) W F Lt Aa Aa (fun hL => AM _ _ w b4 x64.2 ([109, 97, 114, 103, 105, 110] : List UInt8) _ h24 (hG.go F) hL) fun x a w W F => ?_
        have F : Stw ⟨Y, [], w0⟩ [(b4, [.string (bs x67.2.1), .int .i64 x67.2.2]), (b3, [.int .i64 0]), (b2, [.int .i64 0]), (b1, (JM x2 v1 v14 v27 v40 x55 x58 x61 x64))] [row v40 3 (Rp.int .i64) x52.1, row v1 41 Bn x6, row v14 43 Br x25, row v27 39 (Rp.slice (Rp.int .u64)) x40] w := F
        refine ls W F Aa (Ai Bw Aa Aa Aa T3 W Aa 9 Aa).q fun a w W F => ?_
        refine Co (vs := [.int .i64 x67.1]) (M' := [(b4, [.string (bs x67.2.1), .int .i64 x67.2.2]), (b3, [.int .i64 0]), (b2, [.int .i64 0]), (b1, [.int .i64 x2.1, v1, v14, v27, v40, .int .i64 x55.1, .int .i64 x58.1, .int .i64 x61.1, .int .i64 x64.1, .int .i64 x67.1, .int .i64 0])]) 3 W F Aa Aa Aa T3 Aa Aa Aa Aa Aa fun w F => ?_
        refine Af (Ad (Ak (Ac ?_)))
        refine ls W F Aa (Ae W Aa).q fun a w W F => ?_
        obtain ⟨x69, h25, H⟩ := An H
        rcases x69 with x70 | x71
        ·
         have H := Fh H
         refine AO (Ml := [(b4, [.string (bs x67.2.1), .int .i64 x67.2.2])]) (Zl := []) (M := [(b3, [.int .i64 0]), (b2, [.int .i64 0]), (b1, [.int .i64 x2.1, v1, v14, v27, v40, .int .i64 x55.1, .int .i64 x58.1, .int .i64 x61.1, .int .i64 x64.1, .int .i64 x67.1, .int .i64 0])]) (Z := [row v40 3 (Rp.int .i64) x52.1, row v1 41 Bn x6, row v14 43 Br x25, row v27 39 (Rp.slice (Rp.int .u64)) x40]) (β := Unit) (rv := fun x => .int .i64 x70.1) (MM := fun x => [(b4, [.string (bs x70.2.1), .int .i64 x70.2.2])]) (ZZ := fun x => []) W F Lt Aa Aa (fun hL => AM _ _ w b4 x67.2 ([114, 101, 116, 114, 121] : List UInt8) _ h25 (hG.go F) hL) fun x a w W F => ?_
         have F : Stw ⟨Y, [], w0⟩ [(b4, [.string (bs x70.2.1), .int .i64 x70.2.2]), (b3, [.int .i64 0]), (b2, [.int .i64 0]), (b1, [.int .i64 x2.1, v1, v14, v27, v40, .int .i64 x55.1, .int .i64 x58.1, .int .i64 x61.1, .int .i64 x64.1, .int .i64 x67.1, .int .i64 0])] [row v40 3 (Rp.int .i64) x52.1, row v1 41 Bn x6, row v14 43 Br x25, row v27 39 (Rp.slice (Rp.int .u64)) x40] w := F
         refine ls W F Aa (Ai Bw Aa Aa Aa T3 W Aa 10 Aa).q fun a w W F => ?_
         refine Co (vs := [.int .i64 x70.1]) (M' := [(b4, [.string (bs x70.2.1), .int .i64 x70.2.2]), (b3, [.int .i64 0]), (b2, [.int .i64 0]), (b1, [.int .i64 x2.1, v1, v14, v27, v40, .int .i64 x55.1, .int .i64 x58.1, .int .i64 x61.1, .int .i64 x64.1, .int .i64 x67.1, .int .i64 x70.1])]) 3 W F Aa Aa Aa T3 Aa Aa Aa Aa Aa fun w F => ?_
         refine Af (Ad (Ak (Ac ?_)))
         refine ls W F Aa (Ae W Aa).q fun a w W F => ?_
         obtain ⟨x72, hx72, H⟩ := An H
         have hx72 := Ba hx72
         rcases x72 with x73 | x74
         ·
          have H := Fh H
          refine AO (Ml := []) (Zl := []) (M := [(b4, [.string (bs x70.2.1), .int .i64 x70.2.2]), (b3, [.int .i64 0]), (b2, [.int .i64 0]), (b1, [.int .i64 x2.1, v1, v14, v27, v40, .int .i64 x55.1, .int .i64 x58.1, .int .i64 x61.1, .int .i64 x64.1, .int .i64 x67.1, .int .i64 x70.1])]) (Z := [row v40 3 (Rp.int .i64) x52.1, row v1 41 Bn x6, row v14 43 Br x25, row v27 39 (Rp.slice (Rp.int .u64)) x40]) (β := Unit) (rv := fun x => .tuple #[]) (MM := fun x => []) (ZZ := fun x => []) W F Qi Aa Aa (fun hL => Fd _ w b4 x70.2 _ hx72 (Gw F 0 Aa)) fun x a w W F => ?_
          have F : Stw ⟨Y, [], w0⟩ [(b4, [.string (bs x70.2.1), .int .i64 x70.2.2]), (b3, [.int .i64 0]), (b2, [.int .i64 0]), (b1, [.int .i64 x2.1, v1, v14, v27, v40, .int .i64 x55.1, .int .i64 x58.1, .int .i64 x61.1, .int .i64 x64.1, .int .i64 x67.1, .int .i64 x70.1])] [row v40 3 (Rp.int .i64) x52.1, row v1 41 Bn x6, row v14 43 Br x25, row v27 39 (Rp.slice (Rp.int .u64)) x40] w := F
          refine Af (Ad (Ak (Ac ?_)))
          refine ls W F Aa (Az (v := Value.agg #[.int .i64 x2.1, v1, v14, v27, v40, .int .i64 x55.1, .int .i64 x58.1, .int .i64 x61.1, .int .i64 x64.1, .int .i64 x67.1, .int .i64 x70.1]) 3 W Aa Aa GI Aa).q fun a w W F => ?_
          refine Co (vs := [.int .i64 x2.1, v1, v14, v27, v40, .int .i64 x55.1, .int .i64 x58.1, .int .i64 x61.1, .int .i64 x64.1, .int .i64 x67.1, .int .i64 x70.1]) (M' := [(b4, [.string (bs x70.2.1), .int .i64 x70.2.2]), (b3, [.int .i64 0]), (b2, [.int .i64 0]), (b1, [.int .i64 x2.1, v1, v14, v27, v40, .int .i64 x55.1, .int .i64 x58.1, .int .i64 x61.1, .int .i64 x64.1, .int .i64 x67.1, .int .i64 x70.1])]) 3 W F Aa Aa Aa GI Aa Aa Aa (Av Aa (Av (F.one (k := 1) Aa) (Av (F.one (k := 2) Aa) (Av (F.one (k := 3) Aa) (Av (F.one (k := 0) Aa) (Av Aa (Av Aa (Av Aa (Av Aa (Av Aa (Av Aa GC))))))))))) Aa fun w F => ?_
          refine Co (vs := [.int .i64 0]) (M' := [(b4, [.string (bs x70.2.1), .int .i64 x70.2.2]), (b3, [.int .i64 0]), (b2, [.int .i64 0]), (b1, [.int .i64 x2.1, v1, v14, v27, v40, .int .i64 x55.1, .int .i64 x58.1, .int .i64 x61.1, .int .i64 x64.1, .int .i64 x67.1, .int .i64 x70.1])]) 2 W F Aa Aa Aa T3 Aa Aa Aa Aa Aa fun w F => ?_
          refine Co (vs := [.int .i64 0]) (M' := [(b4, [.string (bs x70.2.1), .int .i64 x70.2.2]), (b3, [.int .i64 0]), (b2, [.int .i64 0]), (b1, [.int .i64 x2.1, v1, v14, v27, v40, .int .i64 x55.1, .int .i64 x58.1, .int .i64 x61.1, .int .i64 x64.1, .int .i64 x67.1, .int .i64 x70.1])]) 1 W F Aa Aa Aa Ke Aa Aa Aa Aa Aa fun w F => ?_
          refine Af (Ad (AP ?_))
          refine Mq (.inl Aa) W ?_
          have F := F.frontZ (i := 3) Aa Aa
          have F := F.frontZ (i := 3) Aa Aa
          have F := F.frontZ (i := 3) Aa Aa
          have F := F.frontM (i := 1) Aa Aa
          have F := F.frontM (i := 2) Aa Aa
          have F := F.frontM (i := 3) Aa Aa
          refine Di (Ml := [(b1, [.int .i64 x2.1, v1, v14, v27, v40, .int .i64 x55.1, .int .i64 x58.1, .int .i64 x61.1, .int .i64 x64.1, .int .i64 x67.1, .int .i64 x70.1]), (b2, [.int .i64 0]), (b3, [.int .i64 0])]) (Zl := [row v1 41 Bn x6, row v14 43 Br x25, row v27 39 (Rp.slice (Rp.int .u64)) x40, row v40 3 (Rp.int .i64) x52.1]) (M := [(b4, [.string (bs x70.2.1), .int .i64 x70.2.2])]) (Z := []) (β := Unit) (u' := .returning) (MM := fun x => [(b1, [.int .i64 (((x2.1, x6, x25), x40, x52.1, x55.1, x58.1, x61.1, x64.1, x67.1, x70.1).1.1), (v1), (v14), (v27), (v40), .int .i64 (((x2.1, x6, x25), x40, x52.1, x55.1, x58.1, x61.1, x64.1, x67.1, x70.1).2.2.2.1), .int .i64 (((x2.1, x6, x25), x40, x52.1, x55.1, x58.1, x61.1, x64.1, x67.1, x70.1).2.2.2.2.1), .int .i64 (((x2.1, x6, x25), x40, x52.1, x55.1, x58.1, x61.1, x64.1, x67.1, x70.1).2.2.2.2.2.1), .int .i64 (((x2.1, x6, x25), x40, x52.1, x55.1, x58.1, x61.1, x64.1, x67.1, x70.1).2.2.2.2.2.2.1), .int .i64 (((x2.1, x6, x25), x40, x52.1, x55.1, x58.1, x61.1, x64.1, x67.1, x70.1).2.2.2.2.2.2.2.1), .int .i64 (((x2.1, x6, x25), x40, x52.1, x55.1, x58.1, x61.1, x64.1, x67.1, x70.1).2.2.2.2.2.2.2.2)]), (b2, [.int .i64 0]), (b3, [.int .i64 0])]) (ZZ := fun x => [row (v1) 41 Bn (((x2.1, x6, x25), x40, x52.1, x55.1, x58.1, x61.1, x64.1, x67.1, x70.1).1.2.1), row (v14) 43 Br (((x2.1, x6, x25), x40, x52.1, x55.1, x58.1, x61.1, x64.1, x67.1, x70.1).1.2.2), row (v27) 39 (Rp.slice (Rp.int .u64)) (((x2.1, x6, x25), x40, x52.1, x55.1, x58.1, x61.1, x64.1, x67.1, x70.1).2.1), row (v40) 3 (Rp.int .i64) (((x2.1, x6, x25), x40, x52.1, x55.1, x58.1, x61.1, x64.1, x67.1, x70.1).2.2.1)]) F KL (by simp) (fun hL => Gx _ _ w b1 (v1) (v14) (v27) (v40) b2 b3 ((x2.1, x6, x25), x40, x52.1, x55.1, x58.1, x61.1, x64.1, x67.1, x70.1) 0 0 _ Aa hL) fun _ w F => ?_
          have F : Stw ⟨Y, [], w0⟩ [(b1, [.int .i64 (((x2.1, x6, x25), x40, x52.1, x55.1, x58.1, x61.1, x64.1, x67.1, x70.1).1.1), (v1), (v14), (v27), (v40), .int .i64 (((x2.1, x6, x25), x40, x52.1, x55.1, x58.1, x61.1, x64.1, x67.1, x70.1).2.2.2.1), .int .i64 (((x2.1, x6, x25), x40, x52.1, x55.1, x58.1, x61.1, x64.1, x67.1, x70.1).2.2.2.2.1), .int .i64 (((x2.1, x6, x25), x40, x52.1, x55.1, x58.1, x61.1, x64.1, x67.1, x70.1).2.2.2.2.2.1), .int .i64 (((x2.1, x6, x25), x40, x52.1, x55.1, x58.1, x61.1, x64.1, x67.1, x70.1).2.2.2.2.2.2.1), .int .i64 (((x2.1, x6, x25), x40, x52.1, x55.1, x58.1, x61.1, x64.1, x67.1, x70.1).2.2.2.2.2.2.2.1), .int .i64 (((x2.1, x6, x25), x40, x52.1, x55.1, x58.1, x61.1, x64.1, x67.1, x70.1).2.2.2.2.2.2.2.2)]), (b2, [.int .i64 0]), (b3, [.int .i64 0]), (b4, [.string (bs x70.2.1), .int .i64 x70.2.2])] [row (v1) 41 Bn (((x2.1, x6, x25), x40, x52.1, x55.1, x58.1, x61.1, x64.1, x67.1, x70.1).1.2.1), row (v14) 43 Br (((x2.1, x6, x25), x40, x52.1, x55.1, x58.1, x61.1, x64.1, x67.1, x70.1).1.2.2), row (v27) 39 (Rp.slice (Rp.int .u64)) (((x2.1, x6, x25), x40, x52.1, x55.1, x58.1, x61.1, x64.1, x67.1, x70.1).2.1), row (v40) 3 (Rp.int .i64) (((x2.1, x6, x25), x40, x52.1, x55.1, x58.1, x61.1, x64.1, x67.1, x70.1).2.2.1)] w := F
          have H := Ba H
          subst H
          refine Dg F Aa (A2 0 W Aa Aa GI Aa) (A2 1 W Aa Aa T3 Aa) (A2 2 W Aa Aa Ke Aa) ?_
          have F := F.frontZ (i := 3) Aa Aa
          have F := F.frontZ (i := 3) Aa Aa
          have F := F.frontZ (i := 3) Aa Aa
          have F := F.frontZ (i := 3) Aa Aa
          have F := F.sub (M' := []) (Z' := [row (v1) 41 Bn (((x2.1, x6, x25), x40, x52.1, x55.1, x58.1, x61.1, x64.1, x67.1, x70.1).1.2.1), row (v14) 43 Br (((x2.1, x6, x25), x40, x52.1, x55.1, x58.1, x61.1, x64.1, x67.1, x70.1).1.2.2), row (v27) 39 (Rp.slice (Rp.int .u64)) (((x2.1, x6, x25), x40, x52.1, x55.1, x58.1, x61.1, x64.1, x67.1, x70.1).2.1), row (v40) 3 (Rp.int .i64) (((x2.1, x6, x25), x40, x52.1, x55.1, x58.1, x61.1, x64.1, x67.1, x70.1).2.2.1)]) (List.nil_sublist _) (List.Sublist.refl _)
          exact ⟨(((v1)), ((v14)), ((v27)), ((v40))), Aa, F⟩
         have H := Fg H
         refine B7 (Ml := []) (Zl := []) (M := [(b4, [.string (bs x70.2.1), .int .i64 x70.2.2]), (b3, [.int .i64 0]), (b2, [.int .i64 0]), (b1, [.int .i64 x2.1, v1, v14, v27, v40, .int .i64 x55.1, .int .i64 x58.1, .int .i64 x61.1, .int .i64 x64.1, .int .i64 x67.1, .int .i64 x70.1])]) (Z := [row v40 3 (Rp.int .i64) x52.1, row v1 41 Bn x6, row v14 43 Br x25, row v27 39 (Rp.slice (Rp.int .u64)) x40]) (β := Unit) (pv := fun x => .iface 75 (.agg #[.int .i64 x74])) (MM := fun x => []) (ZZ := fun x => []) W F Qi Aa (fun hL => Fd _ w b4 x70.2 _ hx72 (Gw F 0 Aa)) fun x w F => ?_
         have F : Stw ⟨Y, [], w0⟩ [(b4, [.string (bs x70.2.1), .int .i64 x70.2.2]), (b3, [.int .i64 0]), (b2, [.int .i64 0]), (b1, [.int .i64 x2.1, v1, v14, v27, v40, .int .i64 x55.1, .int .i64 x58.1, .int .i64 x61.1, .int .i64 x64.1, .int .i64 x67.1, .int .i64 x70.1])] [row v40 3 (Rp.int .i64) x52.1, row v1 41 Bn x6, row v14 43 Br x25, row v27 39 (Rp.slice (Rp.int .u64)) x40] w := F
         refine BC ?_
         refine Cc W ?_
         have F := F.frontZ (i := 3) Aa Aa
         have F := F.frontZ (i := 3) Aa Aa
         have F := F.frontZ (i := 3) Aa Aa
         have F := F.frontM (i := 1) Aa Aa
         have F := F.frontM (i := 2) Aa Aa
         have F := F.frontM (i := 3) Aa Aa
         refine Di (Ml := [(b1, [.int .i64 x2.1, v1, v14, v27, v40, .int .i64 x55.1, .int .i64 x58.1, .int .i64 x61.1, .int .i64 x64.1, .int .i64 x67.1, .int .i64 x70.1]), (b2, [.int .i64 0]), (b3, [.int .i64 0])]) (Zl := [row v1 41 Bn x6, row v14 43 Br x25, row v27 39 (Rp.slice (Rp.int .u64)) x40, row v40 3 (Rp.int .i64) x52.1]) (M := [(b4, [.string (bs x70.2.1), .int .i64 x70.2.2])]) (Z := []) (β := Value × Value × Value × Value) (u' := (.panicking ({ v := .iface 75 (.agg #[.int .i64 x74]), recovered := true } :: []))) (MM := fun x => [(b1, [.int .i64 ((Ab ((x2.1, x6, x25), x40, x52.1, x55.1, x58.1, x61.1, x64.1, x67.1, x70.1) 0 0 x74).1.1.1), x.1, x.2.1, x.2.2.1, x.2.2.2, .int .i64 ((Ab ((x2.1, x6, x25), x40, x52.1, x55.1, x58.1, x61.1, x64.1, x67.1, x70.1) 0 0 x74).1.2.2.2.1), .int .i64 ((Ab ((x2.1, x6, x25), x40, x52.1, x55.1, x58.1, x61.1, x64.1, x67.1, x70.1) 0 0 x74).1.2.2.2.2.1), .int .i64 ((Ab ((x2.1, x6, x25), x40, x52.1, x55.1, x58.1, x61.1, x64.1, x67.1, x70.1) 0 0 x74).1.2.2.2.2.2.1), .int .i64 ((Ab ((x2.1, x6, x25), x40, x52.1, x55.1, x58.1, x61.1, x64.1, x67.1, x70.1) 0 0 x74).1.2.2.2.2.2.2.1), .int .i64 ((Ab ((x2.1, x6, x25), x40, x52.1, x55.1, x58.1, x61.1, x64.1, x67.1, x70.1) 0 0 x74).1.2.2.2.2.2.2.2.1), .int .i64 ((Ab ((x2.1, x6, x25), x40, x52.1, x55.1, x58.1, x61.1, x64.1, x67.1, x70.1) 0 0 x74).1.2.2.2.2.2.2.2.2)]), (b2, [.int .i64 ((Ab ((x2.1, x6, x25), x40, x52.1, x55.1, x58.1, x61.1, x64.1, x67.1, x70.1) 0 0 x74).2.1)]), (b3, [.int .i64 ((Ab ((x2.1, x6, x25), x40, x52.1, x55.1, x58.1, x61.1, x64.1, x67.1, x70.1) 0 0 x74).2.2)])]) (ZZ := fun x => [row x.1 41 Bn ((Ab ((x2.1, x6, x25), x40, x52.1, x55.1, x58.1, x61.1, x64.1, x67.1, x70.1) 0 0 x74).1.1.2.1), row x.2.1 43 Br ((Ab ((x2.1, x6, x25), x40, x52.1, x55.1, x58.1, x61.1, x64.1, x67.1, x70.1) 0 0 x74).1.1.2.2), row x.2.2.1 39 (Rp.slice (Rp.int .u64)) ((Ab ((x2.1, x6, x25), x40, x52.1, x55.1, x58.1, x61.1, x64.1, x67.1, x70.1) 0 0 x74).1.2.1), row x.2.2.2 3 (Rp.int .i64) ((Ab ((x2.1, x6, x25), x40, x52.1, x55.1, x58.1, x61.1, x64.1, x67.1, x70.1) 0 0 x74).1.2.2.1)]) F KL (by simp) (fun hL => AJ _ _ w b1 (v1) (v14) (v27) (v40) b2 b3 ((x2.1, x6, x25), x40, x52.1, x55.1, x58.1, x61.1, x64.1, x67.1, x70.1) 0 0 x74 _ Aa hL) fun x w F => ?_
         obtain ⟨v41, v42, v43, v44⟩ := x
         have F : Stw ⟨Y, [], w0⟩ [(b1, [.int .i64 ((Ab ((x2.1, x6, x25), x40, x52.1, x55.1, x58.1, x61.1, x64.1, x67.1, x70.1) 0 0 x74).1.1.1), v41, v42, v43, v44, .int .i64 ((Ab ((x2.1, x6, x25), x40, x52.1, x55.1, x58.1, x61.1, x64.1, x67.1, x70.1) 0 0 x74).1.2.2.2.1), .int .i64 ((Ab ((x2.1, x6, x25), x40, x52.1, x55.1, x58.1, x61.1, x64.1, x67.1, x70.1) 0 0 x74).1.2.2.2.2.1), .int .i64 ((Ab ((x2.1, x6, x25), x40, x52.1, x55.1, x58.1, x61.1, x64.1, x67.1, x70.1) 0 0 x74).1.2.2.2.2.2.1), .int .i64 ((Ab ((x2.1, x6, x25), x40, x52.1, x55.1, x58.1, x61.1, x64.1, x67.1, x70.1) 0 0 x74).1.2.2.2.2.2.2.1), .int .i64 ((Ab ((x2.1, x6, x25), x40, x52.1, x55.1, x58.1, x61.1, x64.1, x67.1, x70.1) 0 0 x74).1.2.2.2.2.2.2.2.1), .int .i64 ((Ab ((x2.1, x6, x25), x40, x52.1, x55.1, x58.1, x61.1, x64.1, x67.1, x70.1) 0 0 x74).1.2.2.2.2.2.2.2.2)]), (b2, [.int .i64 ((Ab ((x2.1, x6, x25), x40, x52.1, x55.1, x58.1, x61.1, x64.1, x67.1, x70.1) 0 0 x74).2.1)]), (b3, [.int .i64 ((Ab ((x2.1, x6, x25), x40, x52.1, x55.1, x58.1, x61.1, x64.1, x67.1, x70.1) 0 0 x74).2.2)]), (b4, [.string (bs x70.2.1), .int .i64 x70.2.2])] [row v41 41 Bn ((Ab ((x2.1, x6, x25), x40, x52.1, x55.1, x58.1, x61.1, x64.1, x67.1, x70.1) 0 0 x74).1.1.2.1), row v42 43 Br ((Ab ((x2.1, x6, x25), x40, x52.1, x55.1, x58.1, x61.1, x64.1, x67.1, x70.1) 0 0 x74).1.1.2.2), row v43 39 (Rp.slice (Rp.int .u64)) ((Ab ((x2.1, x6, x25), x40, x52.1, x55.1, x58.1, x61.1, x64.1, x67.1, x70.1) 0 0 x74).1.2.1), row v44 3 (Rp.int .i64) ((Ab ((x2.1, x6, x25), x40, x52.1, x55.1, x58.1, x61.1, x64.1, x67.1, x70.1) 0 0 x74).1.2.2.1)] w := F
         have H := Ba H
         subst H
         refine Dg F Aa (A2 0 W Aa Aa GI Aa) (A2 1 W Aa Aa T3 Aa) (A2 2 W Aa Aa Ke Aa) ?_
         have F := F.frontZ (i := 3) Aa Aa
         have F := F.frontZ (i := 3) Aa Aa
         have F := F.frontZ (i := 3) Aa Aa
         have F := F.frontZ (i := 3) Aa Aa
         have F := F.sub (M' := []) (Z' := [row v41 41 Bn ((Ab ((x2.1, x6, x25), x40, x52.1, x55.1, x58.1, x61.1, x64.1, x67.1, x70.1) 0 0 x74).1.1.2.1), row v42 43 Br ((Ab ((x2.1, x6, x25), x40, x52.1, x55.1, x58.1, x61.1, x64.1, x67.1, x70.1) 0 0 x74).1.1.2.2), row v43 39 (Rp.slice (Rp.int .u64)) ((Ab ((x2.1, x6, x25), x40, x52.1, x55.1, x58.1, x61.1, x64.1, x67.1, x70.1) 0 0 x74).1.2.1), row v44 3 (Rp.int .i64) ((Ab ((x2.1, x6, x25), x40, x52.1, x55.1, x58.1, x61.1, x64.1, x67.1, x70.1) 0 0 x74).1.2.2.1)]) (List.nil_sublist _) (List.Sublist.refl _)
         exact ⟨((v41), (v42), (v43), (v44)), Aa, F⟩
        have H := Fg H
        refine B7 (Ml := [(b4, [.string (bs x67.2.1), .int .i64 x67.2.2])]) (Zl := []) (M := [(b3, [.int .i64 0]), (b2, [.int .i64 0]), (b1, [.int .i64 x2.1, v1, v14, v27, v40, .int .i64 x55.1, .int .i64 x58.1, .int .i64 x61.1, .int .i64 x64.1, .int .i64 x67.1, .int .i64 0])]) (Z := [row v40 3 (Rp.int .i64) x52.1, row v1 41 Bn x6, row v14 43 Br x25, row v27 39 (Rp.slice (Rp.int .u64)) x40]) (β := Unit) (pv := fun x => .iface 75 (.agg #[.int .i64 x71.1])) (MM := fun x => [(b4, [.string (bs x71.2.1), .int .i64 x71.2.2])]) (ZZ := fun x => []) W F Lt Aa (fun hL => AM _ _ w b4 x67.2 ([114, 101, 116, 114, 121] : List UInt8) _ h25 (hG.go F) hL) fun x w F => ?_
        have F : Stw ⟨Y, [], w0⟩ [(b4, [.string (bs x71.2.1), .int .i64 x71.2.2]), (b3, [.int .i64 0]), (b2, [.int .i64 0]), (b1, [.int .i64 x2.1, v1, v14, v27, v40, .int .i64 x55.1, .int .i64 x58.1, .int .i64 x61.1, .int .i64 x64.1, .int .i64 x67.1, .int .i64 0])] [row v40 3 (Rp.int .i64) x52.1, row v1 41 Bn x6, row v14 43 Br x25, row v27 39 (Rp.slice (Rp.int .u64)) x40] w := F
        refine BC ?_
        refine Cc W ?_
        have F := F.frontZ (i := 3) Aa Aa
        have F := F.frontZ (i := 3) Aa Aa
        have F := F.frontZ (i := 3) Aa Aa
        have F := F.frontM (i := 1) Aa Aa
        have F := F.frontM (i := 2) Aa Aa
        have F := F.frontM (i := 3) Aa Aa
        refine Di (Ml := [(b1, [.int .i64 x2.1, v1, v14, v27, v40, .int .i64 x55.1, .int .i64 x58.1, .int .i64 x61.1, .int .i64 x64.1, .int .i64 x67.1, .int .i64 0]), (b2, [.int .i64 0]), (b3, [.int .i64 0])]) (Zl := [row v1 41 Bn x6, row v14 43 Br x25, row v27 39 (Rp.slice (Rp.int .u64)) x40, row v40 3 (Rp.int .i64) x52.1]) (M := [(b4, [.string (bs x71.2.1), .int .i64 x71.2.2])]) (Z := []) (β := Value × Value × Value × Value) (u' := (.panicking ({ v := .iface 75 (.agg #[.int .i64 x71.1]), recovered := true } :: []))) (MM := fun x => [(b1, [.int .i64 ((Ab ((x2.1, x6, x25), x40, x52.1, x55.1, x58.1, x61.1, x64.1, x67.1, 0) 0 0 x71.1).1.1.1), x.1, x.2.1, x.2.2.1, x.2.2.2, .int .i64 ((Ab ((x2.1, x6, x25), x40, x52.1, x55.1, x58.1, x61.1, x64.1, x67.1, 0) 0 0 x71.1).1.2.2.2.1), .int .i64 ((Ab ((x2.1, x6, x25), x40, x52.1, x55.1, x58.1, x61.1, x64.1, x67.1, 0) 0 0 x71.1).1.2.2.2.2.1), .int .i64 ((Ab ((x2.1, x6, x25), x40, x52.1, x55.1, x58.1, x61.1, x64.1, x67.1, 0) 0 0 x71.1).1.2.2.2.2.2.1), .int .i64 ((Ab ((x2.1, x6, x25), x40, x52.1, x55.1, x58.1, x61.1, x64.1, x67.1, 0) 0 0 x71.1).1.2.2.2.2.2.2.1), .int .i64 ((Ab ((x2.1, x6, x25), x40, x52.1, x55.1, x58.1, x61.1, x64.1, x67.1, 0) 0 0 x71.1).1.2.2.2.2.2.2.2.1), .int .i64 ((Ab ((x2.1, x6, x25), x40, x52.1, x55.1, x58.1, x61.1, x64.1, x67.1, 0) 0 0 x71.1).1.2.2.2.2.2.2.2.2)]), (b2, [.int .i64 ((Ab ((x2.1, x6, x25), x40, x52.1, x55.1, x58.1, x61.1, x64.1, x67.1, 0) 0 0 x71.1).2.1)]), (b3, [.int .i64 ((Ab ((x2.1, x6, x25), x40, x52.1, x55.1, x58.1, x61.1, x64.1, x67.1, 0) 0 0 x71.1).2.2)])]) (ZZ := fun x => [row x.1 41 Bn ((Ab ((x2.1, x6, x25), x40, x52.1, x55.1, x58.1, x61.1, x64.1, x67.1, 0) 0 0 x71.1).1.1.2.1), row x.2.1 43 Br ((Ab ((x2.1, x6, x25), x40, x52.1, x55.1, x58.1, x61.1, x64.1, x67.1, 0) 0 0 x71.1).1.1.2.2), row x.2.2.1 39 (Rp.slice (Rp.int .u64)) ((Ab ((x2.1, x6, x25), x40, x52.1, x55.1, x58.1, x61.1, x64.1, x67.1, 0) 0 0 x71.1).1.2.1), row x.2.2.2 3 (Rp.int .i64) ((Ab ((x2.1, x6, x25), x40, x52.1, x55.1, x58.1, x61.1, x64.1, x67.1, 0) 0 0 x71.1).1.2.2.1)]) F KL (by simp) (fun hL => AJ _ _ w b1 (v1) (v14) (v27) (v40) b2 b3 ((x2.1, x6, x25), x40, x52.1, x55.1, x58.1, x61.1, x64.1, x67.1, 0) 0 0 x71.1 _ Aa hL) fun x w F => ?_
        obtain ⟨v45, v46, v47, v48⟩ := x
        have F : Stw ⟨Y, [], w0⟩ [(b1, [.int .i64 ((Ab ((x2.1, x6, x25), x40, x52.1, x55.1, x58.1, x61.1, x64.1, x67.1, 0) 0 0 x71.1).1.1.1), v45, v46, v47, v48, .int .i64 ((Ab ((x2.1, x6, x25), x40, x52.1, x55.1, x58.1, x61.1, x64.1, x67.1, 0) 0 0 x71.1).1.2.2.2.1), .int .i64 ((Ab ((x2.1, x6, x25), x40, x52.1, x55.1, x58.1, x61.1, x64.1, x67.1, 0) 0 0 x71.1).1.2.2.2.2.1), .int .i64 ((Ab ((x2.1, x6, x25), x40, x52.1, x55.1, x58.1, x61.1, x64.1, x67.1, 0) 0 0 x71.1).1.2.2.2.2.2.1), .int .i64 ((Ab ((x2.1, x6, x25), x40, x52.1, x55.1, x58.1, x61.1, x64.1, x67.1, 0) 0 0 x71.1).1.2.2.2.2.2.2.1), .int .i64 ((Ab ((x2.1, x6, x25), x40, x52.1, x55.1, x58.1, x61.1, x64.1, x67.1, 0) 0 0 x71.1).1.2.2.2.2.2.2.2.1), .int .i64 ((Ab ((x2.1, x6, x25), x40, x52.1, x55.1, x58.1, x61.1, x64.1, x67.1, 0) 0 0 x71.1).1.2.2.2.2.2.2.2.2)]), (b2, [.int .i64 ((Ab ((x2.1, x6, x25), x40, x52.1, x55.1, x58.1, x61.1, x64.1, x67.1, 0) 0 0 x71.1).2.1)]), (b3, [.int .i64 ((Ab ((x2.1, x6, x25), x40, x52.1, x55.1, x58.1, x61.1, x64.1, x67.1, 0) 0 0 x71.1).2.2)]), (b4, [.string (bs x71.2.1), .int .i64 x71.2.2])] [row v45 41 Bn ((Ab ((x2.1, x6, x25), x40, x52.1, x55.1, x58.1, x61.1, x64.1, x67.1, 0) 0 0 x71.1).1.1.2.1), row v46 43 Br ((Ab ((x2.1, x6, x25), x40, x52.1, x55.1, x58.1, x61.1, x64.1, x67.1, 0) 0 0 x71.1).1.1.2.2), row v47 39 (Rp.slice (Rp.int .u64)) ((Ab ((x2.1, x6, x25), x40, x52.1, x55.1, x58.1, x61.1, x64.1, x67.1, 0) 0 0 x71.1).1.2.1), row v48 3 (Rp.int .i64) ((Ab ((x2.1, x6, x25), x40, x52.1, x55.1, x58.1, x61.1, x64.1, x67.1, 0) 0 0 x71.1).1.2.2.1)] w := F
        have H := Ba H
        subst H
        refine Dg F Aa (A2 0 W Aa Aa GI Aa) (A2 1 W Aa Aa T3 Aa) (A2 2 W Aa Aa Ke Aa) ?_
        have F := F.frontZ (i := 3) Aa Aa
        have F := F.frontZ (i := 3) Aa Aa
        have F := F.frontZ (i := 3) Aa Aa
        have F := F.frontZ (i := 3) Aa Aa
        have F := F.sub (M' := []) (Z' := [row v45 41 Bn ((Ab ((x2.1, x6, x25), x40, x52.1, x55.1, x58.1, x61.1, x64.1, x67.1, 0) 0 0 x71.1).1.1.2.1), row v46 43 Br ((Ab ((x2.1, x6, x25), x40, x52.1, x55.1, x58.1, x61.1, x64.1, x67.1, 0) 0 0 x71.1).1.1.2.2), row v47 39 (Rp.slice (Rp.int .u64)) ((Ab ((x2.1, x6, x25), x40, x52.1, x55.1, x58.1, x61.1, x64.1, x67.1, 0) 0 0 x71.1).1.2.1), row v48 3 (Rp.int .i64) ((Ab ((x2.1, x6, x25), x40, x52.1, x55.1, x58.1, x61.1, x64.1, x67.1, 0) 0 0 x71.1).1.2.2.1)]) (List.nil_sublist _) (List.Sublist.refl _)
        exact ⟨((v45), (v46), (v47), (v48)), Aa, F⟩
       have H := Fg H
       refine B7 (Ml := [(b4, [.string (bs x64.2.1), .int .i64 x64.2.2])]) (Zl := []) (M := [(b3, [.int .i64 0]), (b2, [.int .i64 0]), (b1, (JM x2 v1 v14 v27 v40 x55 x58 x61 x64))]) (Z := [row v40 3 (Rp.int .i64) x52.1, row v1 41 Bn x6, row v14 43 Br x25, row v27 39 (Rp.slice (Rp.int .u64)) x40]) (β := Unit) (pv := fun x => .iface 75 (.agg #[.int .i64 x68.1])) (MM := fun x => [(b4, [.string (bs x68.2.1), .int .i64 x68.2.2])]) (ZZ := fun x => []) W F Lt Aa (fun hL => AM _ _ w b4 x64.2 ([109, 97, 114, 103, 105, 110] : List UInt8) _ h24 (hG.go F) hL) fun x w F => ?_
       have F : Stw ⟨Y, [], w0⟩ [(b4, [.string (bs x68.2.1), .int .i64 x68.2.2]), (b3, [.int .i64 0]), (b2, [.int .i64 0]), (b1, (JM x2 v1 v14 v27 v40 x55 x58 x61 x64))] [row v40 3 (Rp.int .i64) x52.1, row v1 41 Bn x6, row v14 43 Br x25, row v27 39 (Rp.slice (Rp.int .u64)) x40] w := F
       refine BC ?_
       refine Cc W ?_
       have F := F.frontZ (i := 3) Aa Aa
       have F := F.frontZ (i := 3) Aa Aa
       have F := F.frontZ (i := 3) Aa Aa
       have F := F.frontM (i := 1) Aa Aa
       have F := F.frontM (i := 2) Aa Aa
       have F := F.frontM (i := 3) Aa Aa
       refine Di (Ml := [(b1, (JM x2 v1 v14 v27 v40 x55 x58 x61 x64)), (b2, [.int .i64 0]), (b3, [.int .i64 0])]) (Zl := [row v1 41 Bn x6, row v14 43 Br x25, row v27 39 (Rp.slice (Rp.int .u64)) x40, row v40 3 (Rp.int .i64) x52.1]) (M := [(b4, [.string (bs x68.2.1), .int .i64 x68.2.2])]) (Z := []) (β := Value × Value × Value × Value) (u' := (.panicking ({ v := .iface 75 (.agg #[.int .i64 x68.1]), recovered := true } :: []))) (MM := fun x => [(b1, [.int .i64 ((Ab ((x2.1, x6, x25), x40, x52.1, x55.1, x58.1, x61.1, x64.1, 0, 0) 0 0 x68.1).1.1.1), x.1, x.2.1, x.2.2.1, x.2.2.2, .int .i64 ((Ab ((x2.1, x6, x25), x40, x52.1, x55.1, x58.1, x61.1, x64.1, 0, 0) 0 0 x68.1).1.2.2.2.1), .int .i64 ((Ab ((x2.1, x6, x25), x40, x52.1, x55.1, x58.1, x61.1, x64.1, 0, 0) 0 0 x68.1).1.2.2.2.2.1), .int .i64 ((Ab ((x2.1, x6, x25), x40, x52.1, x55.1, x58.1, x61.1, x64.1, 0, 0) 0 0 x68.1).1.2.2.2.2.2.1), .int .i64 ((Ab ((x2.1, x6, x25), x40, x52.1, x55.1, x58.1, x61.1, x64.1, 0, 0) 0 0 x68.1).1.2.2.2.2.2.2.1), .int .i64 ((Ab ((x2.1, x6, x25), x40, x52.1, x55.1, x58.1, x61.1, x64.1, 0, 0) 0 0 x68.1).1.2.2.2.2.2.2.2.1), .int .i64 ((Ab ((x2.1, x6, x25), x40, x52.1, x55.1, x58.1, x61.1, x64.1, 0, 0) 0 0 x68.1).1.2.2.2.2.2.2.2.2)]), (b2, [.int .i64 ((Ab ((x2.1, x6, x25), x40, x52.1, x55.1, x58.1, x61.1, x64.1, 0, 0) 0 0 x68.1).2.1)]), (b3, [.int .i64 ((Ab ((x2.1, x6, x25), x40, x52.1, x55.1, x58.1, x61.1, x64.1, 0, 0) 0 0 x68.1).2.2)])]) (ZZ := fun x => [row x.1 41 Bn ((Ab ((x2.1, x6, x25), x40, x52.1, x55.1, x58.1, x61.1, x64.1, 0, 0) 0 0 x68.1).1.1.2.1), row x.2.1 43 Br ((Ab ((x2.1, x6, x25), x40, x52.1, x55.1, x58.1, x61.1, x64.1, 0, 0) 0 0 x68.1).1.1.2.2), row x.2.2.1 39 (Rp.slice (Rp.int .u64)) ((Ab ((x2.1, x6, x25), x40, x52.1, x55.1, x58.1, x61.1, x64.1, 0, 0) 0 0 x68.1).1.2.1), row x.2.2.2 3 (Rp.int .i64) ((Ab ((x2.1, x6, x25), x40, x52.1, x55.1, x58.1, x61.1, x64.1, 0, 0) 0 0 x68.1).1.2.2.1)]) F KL (by simp) (fun hL => AJ _ _ w b1 (v1) (v14) (v27) (v40) b2 b3 ((x2.1, x6, x25), x40, x52.1, x55.1, x58.1, x61.1, x64.1, 0, 0) 0 0 x68.1 _ Aa hL) fun x w F => ?_
       obtain ⟨v49, v50, v51, v52⟩ := x
       have F : Stw ⟨Y, [], w0⟩ [(b1, [.int .i64 ((Ab ((x2.1, x6, x25), x40, x52.1, x55.1, x58.1, x61.1, x64.1, 0, 0) 0 0 x68.1).1.1.1), v49, v50, v51, v52, .int .i64 ((Ab ((x2.1, x6, x25), x40, x52.1, x55.1, x58.1, x61.1, x64.1, 0, 0) 0 0 x68.1).1.2.2.2.1), .int .i64 ((Ab ((x2.1, x6, x25), x40, x52.1, x55.1, x58.1, x61.1, x64.1, 0, 0) 0 0 x68.1).1.2.2.2.2.1), .int .i64 ((Ab ((x2.1, x6, x25), x40, x52.1, x55.1, x58.1, x61.1, x64.1, 0, 0) 0 0 x68.1).1.2.2.2.2.2.1), .int .i64 ((Ab ((x2.1, x6, x25), x40, x52.1, x55.1, x58.1, x61.1, x64.1, 0, 0) 0 0 x68.1).1.2.2.2.2.2.2.1), .int .i64 ((Ab ((x2.1, x6, x25), x40, x52.1, x55.1, x58.1, x61.1, x64.1, 0, 0) 0 0 x68.1).1.2.2.2.2.2.2.2.1), .int .i64 ((Ab ((x2.1, x6, x25), x40, x52.1, x55.1, x58.1, x61.1, x64.1, 0, 0) 0 0 x68.1).1.2.2.2.2.2.2.2.2)]), (b2, [.int .i64 ((Ab ((x2.1, x6, x25), x40, x52.1, x55.1, x58.1, x61.1, x64.1, 0, 0) 0 0 x68.1).2.1)]), (b3, [.int .i64 ((Ab ((x2.1, x6, x25), x40, x52.1, x55.1, x58.1, x61.1, x64.1, 0, 0) 0 0 x68.1).2.2)]), (b4, [.string (bs x68.2.1), .int .i64 x68.2.2])] [row v49 41 Bn ((Ab ((x2.1, x6, x25), x40, x52.1, x55.1, x58.1, x61.1, x64.1, 0, 0) 0 0 x68.1).1.1.2.1), row v50 43 Br ((Ab ((x2.1, x6, x25), x40, x52.1, x55.1, x58.1, x61.1, x64.1, 0, 0) 0 0 x68.1).1.1.2.2), row v51 39 (Rp.slice (Rp.int .u64)) ((Ab ((x2.1, x6, x25), x40, x52.1, x55.1, x58.1, x61.1, x64.1, 0, 0) 0 0 x68.1).1.2.1), row v52 3 (Rp.int .i64) ((Ab ((x2.1, x6, x25), x40, x52.1, x55.1, x58.1, x61.1, x64.1, 0, 0) 0 0 x68.1).1.2.2.1)] w := F
       have H := Ba H
       subst H
       refine Dg F Aa (A2 0 W Aa Aa GI Aa) (A2 1 W Aa Aa T3 Aa) (A2 2 W Aa Aa Ke Aa) ?_
       have F := F.frontZ (i := 3) Aa Aa
       have F := F.frontZ (i := 3) Aa Aa
       have F := F.frontZ (i := 3) Aa Aa
       have F := F.frontZ (i := 3) Aa Aa
       have F := F.sub (M' := []) (Z' := [row v49 41 Bn ((Ab ((x2.1, x6, x25), x40, x52.1, x55.1, x58.1, x61.1, x64.1, 0, 0) 0 0 x68.1).1.1.2.1), row v50 43 Br ((Ab ((x2.1, x6, x25), x40, x52.1, x55.1, x58.1, x61.1, x64.1, 0, 0) 0 0 x68.1).1.1.2.2), row v51 39 (Rp.slice (Rp.int .u64)) ((Ab ((x2.1, x6, x25), x40, x52.1, x55.1, x58.1, x61.1, x64.1, 0, 0) 0 0 x68.1).1.2.1), row v52 3 (Rp.int .i64) ((Ab ((x2.1, x6, x25), x40, x52.1, x55.1, x58.1, x61.1, x64.1, 0, 0) 0 0 x68.1).1.2.2.1)]) (List.nil_sublist _) (List.Sublist.refl _)
       exact ⟨((v49), (v50), (v51), (v52)), Aa, F⟩
      have H := Fg H
      refine B7 (Ml := [(b4, [.string (bs x61.2.1), .int .i64 x61.2.2])]) (Zl := []) (M := [(b3, [.int .i64 0]), (b2, [.int .i64 0]), (b1, (JQ x2 v1 v14 v27 v40 x55 x58 x61))]) (Z := [row v40 3 (Rp.int .i64) x52.1, row v1 41 Bn x6, row v14 43 Br x25, row v27 39 (Rp.slice (Rp.int .u64)) x40]) (β := Unit) (pv := fun x => .iface 75 (.agg #[.int .i64 x65.1])) (MM := fun x => [(b4, [.string (bs x65.2.1), .int .i64 x65.2.2])]) (ZZ := fun x => []) W F Lt Aa (fun hL => AM _ _ w b4 x61.2 ([108, 101, 97, 100] : List UInt8) _ h23 (hG.go F) hL) fun x w F => ?_
      have F : Stw ⟨Y, [], w0⟩ [(b4, [.string (bs x65.2.1), .int .i64 x65.2.2]), (b3, [.int .i64 0]), (b2, [.int .i64 0]), (b1, (JQ x2 v1 v14 v27 v40 x55 x58 x61))] [row v40 3 (Rp.int .i64) x52.1, row v1 41 Bn x6, row v14 43 Br x25, row v27 39 (Rp.slice (Rp.int .u64)) x40] w := F
      refine BC ?_
      refine Cc W ?_
      have F := F.frontZ (i := 3) Aa Aa
      have F := F.frontZ (i := 3) Aa Aa
      have F := F.frontZ (i := 3) Aa Aa
      have F := F.frontM (i := 1) Aa Aa
      have F := F.frontM (i := 2) Aa Aa
      have F := F.frontM (i := 3) Aa Aa
      refine Di (Ml := [(b1, (JQ x2 v1 v14 v27 v40 x55 x58 x61)), (b2, [.int .i64 0]), (b3, [.int .i64 0])]) (Zl := [row v1 41 Bn x6, row v14 43 Br x25, row v27 39 (Rp.slice (Rp.int .u64)) x40, row v40 3 (Rp.int .i64) x52.1]) (M := [(b4, [.string (bs x65.2.1), .int .i64 x65.2.2])]) (Z := []) (β := Value × Value × Value × Value) (u' := (.panicking ({ v := .iface 75 (.agg #[.int .i64 x65.1]), recovered := true } :: []))) (MM := fun x => [(b1, [.int .i64 ((Ab ((x2.1, x6, x25), x40, x52.1, x55.1, x58.1, x61.1, 0, 0, 0) 0 0 x65.1).1.1.1), x.1, x.2.1, x.2.2.1, x.2.2.2, .int .i64 ((Ab ((x2.1, x6, x25), x40, x52.1, x55.1, x58.1, x61.1, 0, 0, 0) 0 0 x65.1).1.2.2.2.1), .int .i64 ((Ab ((x2.1, x6, x25), x40, x52.1, x55.1, x58.1, x61.1, 0, 0, 0) 0 0 x65.1).1.2.2.2.2.1), .int .i64 ((Ab ((x2.1, x6, x25), x40, x52.1, x55.1, x58.1, x61.1, 0, 0, 0) 0 0 x65.1).1.2.2.2.2.2.1), .int .i64 ((Ab ((x2.1, x6, x25), x40, x52.1, x55.1, x58.1, x61.1, 0, 0, 0) 0 0 x65.1).1.2.2.2.2.2.2.1), .int .i64 ((Ab ((x2.1, x6, x25), x40, x52.1, x55.1, x58.1, x61.1, 0, 0, 0) 0 0 x65.1).1.2.2.2.2.2.2.2.1), .int .i64 ((Ab ((x2.1, x6, x25), x40, x52.1, x55.1, x58.1, x61.1, 0, 0, 0) 0 0 x65.1).1.2.2.2.2.2.2.2.2)]), (b2, [.int .i64 ((Ab ((x2.1, x6, x25), x40, x52.1, x55.1, x58.1, x61.1, 0, 0, 0) 0 0 x65.1).2.1)]), (b3, [.int .i64 ((Ab ((x2.1, x6, x25), x40, x52.1, x55.1, x58.1, x61.1, 0, 0, 0) 0 0 x65.1).2.2)])]) (ZZ := fun x => [row x.1 41 Bn ((Ab ((x2.1, x6, x25), x40, x52.1, x55.1, x58.1, x61.1, 0, 0, 0) 0 0 x65.1).1.1.2.1), row x.2.1 43 Br ((Ab ((x2.1, x6, x25), x40, x52.1, x55.1, x58.1, x61.1, 0, 0, 0) 0 0 x65.1).1.1.2.2), row x.2.2.1 39 (Rp.slice (Rp.int .u64)) ((Ab ((x2.1, x6, x25), x40, x52.1, x55.1, x58.1, x61.1, 0, 0, 0) 0 0 x65.1).1.2.1), row x.2.2.2 3 (Rp.int .i64) ((Ab ((x2.1, x6, x25), x40, x52.1, x55.1, x58.1, x61.1, 0, 0, 0) 0 0 x65.1).1.2.2.1)]) F KL (by simp) (fun hL => AJ _ _ w b1 (v1) (v14) (v27) (v40) b2 b3 ((x2.1, x6, x25), x40, x52.1, x55.1, x58.1, x61.1, 0, 0, 0) 0 0 x65.1 _ Aa hL) fun x w F => ?_
      obtain ⟨v53, v54, v55, v56⟩ := x
      have F : Stw ⟨Y, [], w0⟩ [(b1, [.int .i64 ((Ab ((x2.1, x6, x25), x40, x52.1, x55.1, x58.1, x61.1, 0, 0, 0) 0 0 x65.1).1.1.1), v53, v54, v55, v56, .int .i64 ((Ab ((x2.1, x6, x25), x40, x52.1, x55.1, x58.1, x61.1, 0, 0, 0) 0 0 x65.1).1.2.2.2.1), .int .i64 ((Ab ((x2.1, x6, x25), x40, x52.1, x55.1, x58.1, x61.1, 0, 0, 0) 0 0 x65.1).1.2.2.2.2.1), .int .i64 ((Ab ((x2.1, x6, x25), x40, x52.1, x55.1, x58.1, x61.1, 0, 0, 0) 0 0 x65.1).1.2.2.2.2.2.1), .int .i64 ((Ab ((x2.1, x6, x25), x40, x52.1, x55.1, x58.1, x61.1, 0, 0, 0) 0 0 x65.1).1.2.2.2.2.2.2.1), .int .i64 ((Ab ((x2.1, x6, x25), x40, x52.1, x55.1, x58.1, x61.1, 0, 0, 0) 0 0 x65.1).1.2.2.2.2.2.2.2.1), .int .i64 ((Ab ((x2.1, x6, x25), x40, x52.1, x55.1, x58.1, x61.1, 0, 0, 0) 0 0 x65.1).1.2.2.2.2.2.2.2.2)]), (b2, [.int .i64 ((Ab ((x2.1, x6, x25), x40, x52.1, x55.1, x58.1, x61.1, 0, 0, 0) 0 0 x65.1).2.1)]), (b3, [.int .i64 ((Ab ((x2.1, x6, x25), x40, x52.1, x55.1, x58.1, x61.1, 0, 0, 0) 0 0 x65.1).2.2)]), (b4, [.string (bs x65.2.1), .int .i64 x65.2.2])] [row v53 41 Bn ((Ab ((x2.1, x6, x25), x40, x52.1, x55.1, x58.1, x61.1, 0, 0, 0) 0 0 x65.1).1.1.2.1), row v54 43 Br ((Ab ((x2.1, x6, x25), x40, x52.1, x55.1, x58.1, x61.1, 0, 0, 0) 0 0 x65.1).1.1.2.2), row v55 39 (Rp.slice (Rp.int .u64)) ((Ab ((x2.1, x6, x25), x40, x52.1, x55.1, x58.1, x61.1, 0, 0, 0) 0 0 x65.1).1.2.1), row v56 3 (Rp.int .i64) ((Ab ((x2.1, x6, x25), x40, x52.1, x55.1, x58.1, x61.1, 0, 0, 0) 0 0 x65.1).1.2.2.1)] w := F
      have H := Ba H
      subst H
      refine Dg F Aa (A2 0 W Aa Aa GI Aa) (A2 1 W Aa Aa T3 Aa) (A2 2 W Aa Aa Ke Aa) ?_
      have F := F.frontZ (i := 3) Aa Aa
      have F := F.frontZ (i := 3) Aa Aa
      have F := F.frontZ (i := 3) Aa Aa
      have F := F.frontZ (i := 3) Aa Aa
      have F := F.sub (M' := []) (Z' := [row v53 41 Bn ((Ab ((x2.1, x6, x25), x40, x52.1, x55.1, x58.1, x61.1, 0, 0, 0) 0 0 x65.1).1.1.2.1), row v54 43 Br ((Ab ((x2.1, x6, x25), x40, x52.1, x55.1, x58.1, x61.1, 0, 0, 0) 0 0 x65.1).1.1.2.2), row v55 39 (Rp.slice (Rp.int .u64)) ((Ab ((x2.1, x6, x25), x40, x52.1, x55.1, x58.1, x61.1, 0, 0, 0) 0 0 x65.1).1.2.1), row v56 3 (Rp.int .i64) ((Ab ((x2.1, x6, x25), x40, x52.1, x55.1, x58.1, x61.1, 0, 0, 0) 0 0 x65.1).1.2.2.1)]) (List.nil_sublist _) (List.Sublist.refl _)
      exact ⟨((v53), (v54), (v55), (v56)), Aa, F⟩
     have H := Fg H
     refine B7 (Ml := [(b4, [.string (bs x58.2.1), .int .i64 x58.2.2])]) (Zl := []) (M := [(b3, [.int .i64 0]), (b2, [.int .i64 0]), (b1, (JN x2 v1 v14 v27 v40 x55 x58))]) (Z := [row v40 3 (Rp.int .i64) x52.1, row v1 41 Bn x6, row v14 43 Br x25, row v27 39 (Rp.slice (Rp.int .u64)) x40]) (β := Unit) (pv := fun x => .iface 75 (.agg #[.int .i64 x62.1])) (MM := fun x => [(b4, [.string (bs x62.2.1), .int .i64 x62.2.2])]) (ZZ := fun x => []) W F Lt Aa (fun hL => AM _ _ w b4 x58.2 ([119, 105, 100, 101] : List UInt8) _ h22 (hG.go F) hL) fun x w F => ?_
     have F : Stw ⟨Y, [], w0⟩ [(b4, [.string (bs x62.2.1), .int .i64 x62.2.2]), (b3, [.int .i64 0]), (b2, [.int .i64 0]), (b1, (JN x2 v1 v14 v27 v40 x55 x58))] [row v40 3 (Rp.int .i64) x52.1, row v1 41 Bn x6, row v14 43 Br x25, row v27 39 (Rp.slice (Rp.int .u64)) x40] w := F
     refine BC ?_
     refine Cc W ?_
     have F := F.frontZ (i := 3) Aa Aa
     have F := F.frontZ (i := 3) Aa Aa
     have F := F.frontZ (i := 3) Aa Aa
     have F := F.frontM (i := 1) Aa Aa
     have F := F.frontM (i := 2) Aa Aa
     have F := F.frontM (i := 3) Aa Aa
     refine Di (Ml := [(b1, (JN x2 v1 v14 v27 v40 x55 x58)), (b2, [.int .i64 0]), (b3, [.int .i64 0])]) (Zl := [row v1 41 Bn x6, row v14 43 Br x25, row v27 39 (Rp.slice (Rp.int .u64)) x40, row v40 3 (Rp.int .i64) x52.1]) (M := [(b4, [.string (bs x62.2.1), .int .i64 x62.2.2])]) (Z := []) (β := Value × Value × Value × Value) (u' := (.panicking ({ v := .iface 75 (.agg #[.int .i64 x62.1]), recovered := true } :: []))) (MM := fun x => [(b1, [.int .i64 ((Ab ((x2.1, x6, x25), x40, x52.1, x55.1, x58.1, 0, 0, 0, 0) 0 0 x62.1).1.1.1), x.1, x.2.1, x.2.2.1, x.2.2.2, .int .i64 ((Ab ((x2.1, x6, x25), x40, x52.1, x55.1, x58.1, 0, 0, 0, 0) 0 0 x62.1).1.2.2.2.1), .int .i64 ((Ab ((x2.1, x6, x25), x40, x52.1, x55.1, x58.1, 0, 0, 0, 0) 0 0 x62.1).1.2.2.2.2.1), .int .i64 ((Ab ((x2.1, x6, x25), x40, x52.1, x55.1, x58.1, 0, 0, 0, 0) 0 0 x62.1).1.2.2.2.2.2.1), .int .i64 ((Ab ((x2.1, x6, x25), x40, x52.1, x55.1, x58.1, 0, 0, 0, 0) 0 0 x62.1).1.2.2.2.2.2.2.1), .int .i64 ((Ab ((x2.1, x6, x25), x40, x52.1, x55.1, x58.1, 0, 0, 0, 0) 0 0 x62.1).1.2.2.2.2.2.2.2.1), .int .i64 ((Ab ((x2.1, x6, x25), x40, x52.1, x55.1, x58.1, 0, 0, 0, 0) 0 0 x62.1).1.2.2.2.2.2.2.2.2)]), (b2, [.int .i64 ((Ab ((x2.1, x6, x25), x40, x52.1, x55.1, x58.1, 0, 0, 0, 0) 0 0 x62.1).2.1)]), (b3, [.int .i64 ((Ab ((x2.1, x6, x25), x40, x52.1, x55.1, x58.1, 0, 0, 0, 0) 0 0 x62.1).2.2)])]) (ZZ := fun x => [row x.1 41 Bn ((Ab ((x2.1, x6, x25), x40, x52.1, x55.1, x58.1, 0, 0, 0, 0) 0 0 x62.1).1.1.2.1), row x.2.1 43 Br ((Ab ((x2.1, x6, x25), x40, x52.1, x55.1, x58.1, 0, 0, 0, 0) 0 0 x62.1).1.1.2.2), row x.2.2.1 39 (Rp.slice (Rp.int .u64)) ((Ab ((x2.1, x6, x25), x40, x52.1, x55.1, x58.1, 0, 0, 0, 0) 0 0 x62.1).1.2.1), row x.2.2.2 3 (Rp.int .i64) ((Ab ((x2.1, x6, x25), x40, x52.1, x55.1, x58.1, 0, 0, 0, 0) 0 0 x62.1).1.2.2.1)]) F KL (by simp) (fun hL => AJ _ _ w b1 (v1) (v14) (v27) (v40) b2 b3 ((x2.1, x6, x25), x40, x52.1, x55.1, x58.1, 0, 0, 0, 0) 0 0 x62.1 _ Aa hL) fun x w F => ?_
     obtain ⟨v57, v58, v59, v60⟩ := x
     have F : Stw ⟨Y, [], w0⟩ [(b1, [.int .i64 ((Ab ((x2.1, x6, x25), x40, x52.1, x55.1, x58.1, 0, 0, 0, 0) 0 0 x62.1).1.1.1), v57, v58, v59, v60, .int .i64 ((Ab ((x2.1, x6, x25), x40, x52.1, x55.1, x58.1, 0, 0, 0, 0) 0 0 x62.1).1.2.2.2.1), .int .i64 ((Ab ((x2.1, x6, x25), x40, x52.1, x55.1, x58.1, 0, 0, 0, 0) 0 0 x62.1).1.2.2.2.2.1), .int .i64 ((Ab ((x2.1, x6, x25), x40, x52.1, x55.1, x58.1, 0, 0, 0, 0) 0 0 x62.1).1.2.2.2.2.2.1), .int .i64 ((Ab ((x2.1, x6, x25), x40, x52.1, x55.1, x58.1, 0, 0, 0, 0) 0 0 x62.1).1.2.2.2.2.2.2.1), .int .i64 ((Ab ((x2.1, x6, x25), x40, x52.1, x55.1, x58.1, 0, 0, 0, 0) 0 0 x62.1).1.2.2.2.2.2.2.2.1), .int .i64 ((Ab ((x2.1, x6, x25), x40, x52.1, x55.1, x58.1, 0, 0, 0, 0) 0 0 x62.1).1.2.2.2.2.2.2.2.2)]), (b2, [.int .i64 ((Ab ((x2.1, x6, x25), x40, x52.1, x55.1, x58.1, 0, 0, 0, 0) 0 0 x62.1).2.1)]), (b3, [.int .i64 ((Ab ((x2.1, x6, x25), x40, x52.1, x55.1, x58.1, 0, 0, 0, 0) 0 0 x62.1).2.2)]), (b4, [.string (bs x62.2.1), .int .i64 x62.2.2])] [row v57 41 Bn ((Ab ((x2.1, x6, x25), x40, x52.1, x55.1, x58.1, 0, 0, 0, 0) 0 0 x62.1).1.1.2.1), row v58 43 Br ((Ab ((x2.1, x6, x25), x40, x52.1, x55.1, x58.1, 0, 0, 0, 0) 0 0 x62.1).1.1.2.2), row v59 39 (Rp.slice (Rp.int .u64)) ((Ab ((x2.1, x6, x25), x40, x52.1, x55.1, x58.1, 0, 0, 0, 0) 0 0 x62.1).1.2.1), row v60 3 (Rp.int .i64) ((Ab ((x2.1, x6, x25), x40, x52.1, x55.1, x58.1, 0, 0, 0, 0) 0 0 x62.1).1.2.2.1)] w := F
     have H := Ba H
     subst H
     refine Dg F Aa (A2 0 W Aa Aa GI Aa) (A2 1 W Aa Aa T3 Aa) (A2 2 W Aa Aa Ke Aa) ?_
     have F := F.frontZ (i := 3) Aa Aa
     have F := F.frontZ (i := 3) Aa Aa
     have F := F.frontZ (i := 3) Aa Aa
     have F := F.frontZ (i := 3) Aa Aa
     have F := F.sub (M' := []) (Z' := [row v57 41 Bn ((Ab ((x2.1, x6, x25), x40, x52.1, x55.1, x58.1, 0, 0, 0, 0) 0 0 x62.1).1.1.2.1), row v58 43 Br ((Ab ((x2.1, x6, x25), x40, x52.1, x55.1, x58.1, 0, 0, 0, 0) 0 0 x62.1).1.1.2.2), row v59 39 (Rp.slice (Rp.int .u64)) ((Ab ((x2.1, x6, x25), x40, x52.1, x55.1, x58.1, 0, 0, 0, 0) 0 0 x62.1).1.2.1), row v60 3 (Rp.int .i64) ((Ab ((x2.1, x6, x25), x40, x52.1, x55.1, x58.1, 0, 0, 0, 0) 0 0 x62.1).1.2.2.1)]) (List.nil_sublist _) (List.Sublist.refl _)
     exact ⟨((v57), (v58), (v59), (v60)), Aa, F⟩
    have H := Fg H
    refine B7 (Ml := [(b4, [.string (bs x55.2.1), .int .i64 x55.2.2])]) (Zl := []) (M := [(b3, [.int .i64 0]), (b2, [.int .i64 0]), (b1, [.int .i64 x2.1, v1, v14, v27, v40, .int .i64 x55.1, .int .i64 0, .int .i64 0, .int .i64 0, .int .i64 0, .int .i64 0])]) (Z := [row v40 3 (Rp.int .i64) x52.1, row v1 41 Bn x6, row v14 43 Br x25, row v27 39 (Rp.slice (Rp.int .u64)) x40]) (β := Unit) (pv := fun x => .iface 75 (.agg #[.int .i64 x59.1])) (MM := fun x => [(b4, [.string (bs x59.2.1), .int .i64 x59.2.2])]) (ZZ := fun x => []) W F Lt Aa (fun hL => AM _ _ w b4 x55.2 ([114, 111, 111, 109] : List UInt8) _ h21 (hG.go F) hL) fun x w F => ?_
    have F : Stw ⟨Y, [], w0⟩ [(b4, [.string (bs x59.2.1), .int .i64 x59.2.2]), (b3, [.int .i64 0]), (b2, [.int .i64 0]), (b1, (Nw x2 v1 v14 v27 v40 x55))] [row v40 3 (Rp.int .i64) x52.1, row v1 41 Bn x6, row v14 43 Br x25, row v27 39 (Rp.slice (Rp.int .u64)) x40] w := F
    refine BC ?_
    refine Cc W ?_
    have F := F.frontZ (i := 3) Aa Aa
    have F := F.frontZ (i := 3) Aa Aa
    have F := F.frontZ (i := 3) Aa Aa
    have F := F.frontM (i := 1) Aa Aa
    have F := F.frontM (i := 2) Aa Aa
    have F := F.frontM (i := 3) Aa Aa
    refine Di (Ml := [(b1, [.int .i64 x2.1, v1, v14, v27, v40, .int .i64 x55.1, .int .i64 0, .int .i64 0, .int .i64 0, .int .i64 0, .int .i64 0]), (b2, [.int .i64 0]), (b3, [.int .i64 0])]) (Zl := [row v1 41 Bn x6, row v14 43 Br x25, row v27 39 (Rp.slice (Rp.int .u64)) x40, row v40 3 (Rp.int .i64) x52.1]) (M := [(b4, [.string (bs x59.2.1), .int .i64 x59.2.2])]) (Z := []) (β := Value × Value × Value × Value) (u' := (.panicking ({ v := .iface 75 (.agg #[.int .i64 x59.1]), recovered := true } :: []))) (MM := fun x => [(b1, [.int .i64 ((Ab ((x2.1, x6, x25), x40, x52.1, x55.1, 0, 0, 0, 0, 0) 0 0 x59.1).1.1.1), x.1, x.2.1, x.2.2.1, x.2.2.2, .int .i64 ((Ab ((x2.1, x6, x25), x40, x52.1, x55.1, 0, 0, 0, 0, 0) 0 0 x59.1).1.2.2.2.1), .int .i64 ((Ab ((x2.1, x6, x25), x40, x52.1, x55.1, 0, 0, 0, 0, 0) 0 0 x59.1).1.2.2.2.2.1), .int .i64 ((Ab ((x2.1, x6, x25), x40, x52.1, x55.1, 0, 0, 0, 0, 0) 0 0 x59.1).1.2.2.2.2.2.1), .int .i64 ((Ab ((x2.1, x6, x25), x40, x52.1, x55.1, 0, 0, 0, 0, 0) 0 0 x59.1).1.2.2.2.2.2.2.1), .int .i64 ((Ab ((x2.1, x6, x25), x40, x52.1, x55.1, 0, 0, 0, 0, 0) 0 0 x59.1).1.2.2.2.2.2.2.2.1), .int .i64 ((Ab ((x2.1, x6, x25), x40, x52.1, x55.1, 0, 0, 0, 0, 0) 0 0 x59.1).1.2.2.2.2.2.2.2.2)]), (b2, [.int .i64 ((Ab ((x2.1, x6, x25), x40, x52.1, x55.1, 0, 0, 0, 0, 0) 0 0 x59.1).2.1)]), (b3, [.int .i64 ((Ab ((x2.1, x6, x25), x40, x52.1, x55.1, 0, 0, 0, 0, 0) 0 0 x59.1).2.2)])]) (ZZ := fun x => [row x.1 41 Bn ((Ab ((x2.1, x6, x25), x40, x52.1, x55.1, 0, 0, 0, 0, 0) 0 0 x59.1).1.1.2.1), row x.2.1 43 Br ((Ab ((x2.1, x6, x25), x40, x52.1, x55.1, 0, 0, 0, 0, 0) 0 0 x59.1).1.1.2.2), row x.2.2.1 39 (Rp.slice (Rp.int .u64)) ((Ab ((x2.1, x6, x25), x40, x52.1, x55.1, 0, 0, 0, 0, 0) 0 0 x59.1).1.2.1), row x.2.2.2 3 (Rp.int .i64) ((Ab ((x2.1, x6, x25), x40, x52.1, x55.1, 0, 0, 0, 0, 0) 0 0 x59.1).1.2.2.1)]) F KL (by simp) (fun hL => AJ _ _ w b1 (v1) (v14) (v27) (v40) b2 b3 ((x2.1, x6, x25), x40, x52.1, x55.1, 0, 0, 0, 0, 0) 0 0 x59.1 _ Aa hL) fun x w F => ?_
    obtain ⟨v61, v62, v63, v64⟩ := x
    have F : Stw ⟨Y, [], w0⟩ [(b1, [.int .i64 ((Ab ((x2.1, x6, x25), x40, x52.1, x55.1, 0, 0, 0, 0, 0) 0 0 x59.1).1.1.1), v61, v62, v63, v64, .int .i64 ((Ab ((x2.1, x6, x25), x40, x52.1, x55.1, 0, 0, 0, 0, 0) 0 0 x59.1).1.2.2.2.1), .int .i64 ((Ab ((x2.1, x6, x25), x40, x52.1, x55.1, 0, 0, 0, 0, 0) 0 0 x59.1).1.2.2.2.2.1), .int .i64 ((Ab ((x2.1, x6, x25), x40, x52.1, x55.1, 0, 0, 0, 0, 0) 0 0 x59.1).1.2.2.2.2.2.1), .int .i64 ((Ab ((x2.1, x6, x25), x40, x52.1, x55.1, 0, 0, 0, 0, 0) 0 0 x59.1).1.2.2.2.2.2.2.1), .int .i64 ((Ab ((x2.1, x6, x25), x40, x52.1, x55.1, 0, 0, 0, 0, 0) 0 0 x59.1).1.2.2.2.2.2.2.2.1), .int .i64 ((Ab ((x2.1, x6, x25), x40, x52.1, x55.1, 0, 0, 0, 0, 0) 0 0 x59.1).1.2.2.2.2.2.2.2.2)]), (b2, [.int .i64 ((Ab ((x2.1, x6, x25), x40, x52.1, x55.1, 0, 0, 0, 0, 0) 0 0 x59.1).2.1)]), (b3, [.int .i64 ((Ab ((x2.1, x6, x25), x40, x52.1, x55.1, 0, 0, 0, 0, 0) 0 0 x59.1).2.2)]), (b4, [.string (bs x59.2.1), .int .i64 x59.2.2])] [row v61 41 Bn ((Ab ((x2.1, x6, x25), x40, x52.1, x55.1, 0, 0, 0, 0, 0) 0 0 x59.1).1.1.2.1), row v62 43 Br ((Ab ((x2.1, x6, x25), x40, x52.1, x55.1, 0, 0, 0, 0, 0) 0 0 x59.1).1.1.2.2), row v63 39 (Rp.slice (Rp.int .u64)) ((Ab ((x2.1, x6, x25), x40, x52.1, x55.1, 0, 0, 0, 0, 0) 0 0 x59.1).1.2.1), row v64 3 (Rp.int .i64) ((Ab ((x2.1, x6, x25), x40, x52.1, x55.1, 0, 0, 0, 0, 0) 0 0 x59.1).1.2.2.1)] w := F
    have H := Ba H
    subst H
    refine Dg F Aa (A2 0 W Aa Aa GI Aa) (A2 1 W Aa Aa T3 Aa) (A2 2 W Aa Aa Ke Aa) ?_
    have F := F.frontZ (i := 3) Aa Aa
    have F := F.frontZ (i := 3) Aa Aa
    have F := F.frontZ (i := 3) Aa Aa
    have F := F.frontZ (i := 3) Aa Aa
    have F := F.sub (M' := []) (Z' := [row v61 41 Bn ((Ab ((x2.1, x6, x25), x40, x52.1, x55.1, 0, 0, 0, 0, 0) 0 0 x59.1).1.1.2.1), row v62 43 Br ((Ab ((x2.1, x6, x25), x40, x52.1, x55.1, 0, 0, 0, 0, 0) 0 0 x59.1).1.1.2.2), row v63 39 (Rp.slice (Rp.int .u64)) ((Ab ((x2.1, x6, x25), x40, x52.1, x55.1, 0, 0, 0, 0, 0) 0 0 x59.1).1.2.1), row v64 3 (Rp.int .i64) ((Ab ((x2.1, x6, x25), x40, x52.1, x55.1, 0, 0, 0, 0, 0) 0 0 x59.1).1.2.2.1)]) (List.nil_sublist _) (List.Sublist.refl _)
    exact ⟨((v61), (v62), (v63), (v64)), Aa, F⟩
   have H := Fg H
   refine B7 (Ml := [(b4, [.string (bs x52.2.1), .int .i64 x52.2.2])]) (Zl := []) (M := [(b3, [.int .i64 0]), (b2, [.int .i64 0]), (b1, [.int .i64 x2.1, v1, v14, v27, v40, .int .i64 0, .int .i64 0, .int .i64 0, .int .i64 0, .int .i64 0, .int .i64 0])]) (Z := [row v40 3 (Rp.int .i64) x52.1, row v1 41 Bn x6, row v14 43 Br x25, row v27 39 (Rp.slice (Rp.int .u64)) x40]) (β := Unit) (pv := fun x => .iface 75 (.agg #[.int .i64 x56.1])) (MM := fun x => [(b4, [.string (bs x56.2.1), .int .i64 x56.2.2])]) (ZZ := fun x => []) W F Lt Aa (fun hL => AM _ _ w b4 x52.2 ([114, 97, 116, 101] : List UInt8) _ h20 (hG.go F) hL) fun x w F => ?_
   have F : Stw ⟨Y, [], w0⟩ [(b4, [.string (bs x56.2.1), .int .i64 x56.2.2]), (b3, [.int .i64 0]), (b2, [.int .i64 0]), (b1, (My x2 v1 v14 v27 v40))] [row v40 3 (Rp.int .i64) x52.1, row v1 41 Bn x6, row v14 43 Br x25, row v27 39 (Rp.slice (Rp.int .u64)) x40] w := F
   refine BC ?_
   refine Cc W ?_
   have F := F.frontZ (i := 3) Aa Aa
   have F := F.frontZ (i := 3) Aa Aa
   have F := F.frontZ (i := 3) Aa Aa
   have F := F.frontM (i := 1) Aa Aa
   have F := F.frontM (i := 2) Aa Aa
   have F := F.frontM (i := 3) Aa Aa
   refine Di (Ml := [(b1, [.int .i64 x2.1, v1, v14, v27, v40, .int .i64 0, .int .i64 0, .int .i64 0, .int .i64 0, .int .i64 0, .int .i64 0]), (b2, [.int .i64 0]), (b3, [.int .i64 0])]) (Zl := [row v1 41 Bn x6, row v14 43 Br x25, row v27 39 (Rp.slice (Rp.int .u64)) x40, row v40 3 (Rp.int .i64) x52.1]) (M := [(b4, [.string (bs x56.2.1), .int .i64 x56.2.2])]) (Z := []) (β := Value × Value × Value × Value) (u' := (.panicking ({ v := .iface 75 (.agg #[.int .i64 x56.1]), recovered := true } :: []))) (MM := fun x => [(b1, [.int .i64 ((Ab ((x2.1, x6, x25), x40, x52.1, 0, 0, 0, 0, 0, 0) 0 0 x56.1).1.1.1), x.1, x.2.1, x.2.2.1, x.2.2.2, .int .i64 ((Ab ((x2.1, x6, x25), x40, x52.1, 0, 0, 0, 0, 0, 0) 0 0 x56.1).1.2.2.2.1), .int .i64 ((Ab ((x2.1, x6, x25), x40, x52.1, 0, 0, 0, 0, 0, 0) 0 0 x56.1).1.2.2.2.2.1), .int .i64 ((Ab ((x2.1, x6, x25), x40, x52.1, 0, 0, 0, 0, 0, 0) 0 0 x56.1).1.2.2.2.2.2.1), .int .i64 ((Ab ((x2.1, x6, x25), x40, x52.1, 0, 0, 0, 0, 0, 0) 0 0 x56.1).1.2.2.2.2.2.2.1), .int .i64 ((Ab ((x2.1, x6, x25), x40, x52.1, 0, 0, 0, 0, 0, 0) 0 0 x56.1).1.2.2.2.2.2.2.2.1), .int .i64 ((Ab ((x2.1, x6, x25), x40, x52.1, 0, 0, 0, 0, 0, 0) 0 0 x56.1).1.2.2.2.2.2.2.2.2)]), (b2, [.int .i64 ((Ab ((x2.1, x6, x25), x40, x52.1, 0, 0, 0, 0, 0, 0) 0 0 x56.1).2.1)]), (b3, [.int .i64 ((Ab ((x2.1, x6, x25), x40, x52.1, 0, 0, 0, 0, 0, 0) 0 0 x56.1).2.2)])]) (ZZ := fun x => [row x.1 41 Bn ((Ab ((x2.1, x6, x25), x40, x52.1, 0, 0, 0, 0, 0, 0) 0 0 x56.1).1.1.2.1), row x.2.1 43 Br ((Ab ((x2.1, x6, x25), x40, x52.1, 0, 0, 0, 0, 0, 0) 0 0 x56.1).1.1.2.2), row x.2.2.1 39 (Rp.slice (Rp.int .u64)) ((Ab ((x2.1, x6, x25), x40, x52.1, 0, 0, 0, 0, 0, 0) 0 0 x56.1).1.2.1), row x.2.2.2 3 (Rp.int .i64) ((Ab ((x2.1, x6, x25), x40, x52.1, 0, 0, 0, 0, 0, 0) 0 0 x56.1).1.2.2.1)]) F KL (by simp) (fun hL => AJ _ _ w b1 (v1) (v14) (v27) (v40) b2 b3 ((x2.1, x6, x25), x40, x52.1, 0, 0, 0, 0, 0, 0) 0 0 x56.1 _ Aa hL) fun x w F => ?_
   obtain ⟨v65, v66, v67, v68⟩ := x
   have F : Stw ⟨Y, [], w0⟩ [(b1, [.int .i64 ((Ab ((x2.1, x6, x25), x40, x52.1, 0, 0, 0, 0, 0, 0) 0 0 x56.1).1.1.1), v65, v66, v67, v68, .int .i64 ((Ab ((x2.1, x6, x25), x40, x52.1, 0, 0, 0, 0, 0, 0) 0 0 x56.1).1.2.2.2.1), .int .i64 ((Ab ((x2.1, x6, x25), x40, x52.1, 0, 0, 0, 0, 0, 0) 0 0 x56.1).1.2.2.2.2.1), .int .i64 ((Ab ((x2.1, x6, x25), x40, x52.1, 0, 0, 0, 0, 0, 0) 0 0 x56.1).1.2.2.2.2.2.1), .int .i64 ((Ab ((x2.1, x6, x25), x40, x52.1, 0, 0, 0, 0, 0, 0) 0 0 x56.1).1.2.2.2.2.2.2.1), .int .i64 ((Ab ((x2.1, x6, x25), x40, x52.1, 0, 0, 0, 0, 0, 0) 0 0 x56.1).1.2.2.2.2.2.2.2.1), .int .i64 ((Ab ((x2.1, x6, x25), x40, x52.1, 0, 0, 0, 0, 0, 0) 0 0 x56.1).1.2.2.2.2.2.2.2.2)]), (b2, [.int .i64 ((Ab ((x2.1, x6, x25), x40, x52.1, 0, 0, 0, 0, 0, 0) 0 0 x56.1).2.1)]), (b3, [.int .i64 ((Ab ((x2.1, x6, x25), x40, x52.1, 0, 0, 0, 0, 0, 0) 0 0 x56.1).2.2)]), (b4, [.string (bs x56.2.1), .int .i64 x56.2.2])] [row v65 41 Bn ((Ab ((x2.1, x6, x25), x40, x52.1, 0, 0, 0, 0, 0, 0) 0 0 x56.1).1.1.2.1), row v66 43 Br ((Ab ((x2.1, x6, x25), x40, x52.1, 0, 0, 0, 0, 0, 0) 0 0 x56.1).1.1.2.2), row v67 39 (Rp.slice (Rp.int .u64)) ((Ab ((x2.1, x6, x25), x40, x52.1, 0, 0, 0, 0, 0, 0) 0 0 x56.1).1.2.1), row v68 3 (Rp.int .i64) ((Ab ((x2.1, x6, x25), x40, x52.1, 0, 0, 0, 0, 0, 0) 0 0 x56.1).1.2.2.1)] w := F
   have H := Ba H
   subst H
   refine Dg F Aa (A2 0 W Aa Aa GI Aa) (A2 1 W Aa Aa T3 Aa) (A2 2 W Aa Aa Ke Aa) ?_
   have F := F.frontZ (i := 3) Aa Aa
   have F := F.frontZ (i := 3) Aa Aa
   have F := F.frontZ (i := 3) Aa Aa
   have F := F.frontZ (i := 3) Aa Aa
   have F := F.sub (M' := []) (Z' := [row v65 41 Bn ((Ab ((x2.1, x6, x25), x40, x52.1, 0, 0, 0, 0, 0, 0) 0 0 x56.1).1.1.2.1), row v66 43 Br ((Ab ((x2.1, x6, x25), x40, x52.1, 0, 0, 0, 0, 0, 0) 0 0 x56.1).1.1.2.2), row v67 39 (Rp.slice (Rp.int .u64)) ((Ab ((x2.1, x6, x25), x40, x52.1, 0, 0, 0, 0, 0, 0) 0 0 x56.1).1.2.1), row v68 3 (Rp.int .i64) ((Ab ((x2.1, x6, x25), x40, x52.1, 0, 0, 0, 0, 0, 0) 0 0 x56.1).1.2.2.1)]) (List.nil_sublist _) (List.Sublist.refl _)
   exact ⟨((v65), (v66), (v67), (v68)), Aa, F⟩
  have H := Fg H
  refine B7 (Ml := [(b4, [.string (bs x38), .int .i64 x39])]) (Zl := []) (M := (LB b3 b2 b1 x2 v1 v14 v27)) (Z := [row v1 41 Bn x6, row v14 43 Br x25, row v27 39 (Rp.slice (Rp.int .u64)) x40]) (β := Unit) (pv := fun x => .iface 75 (.agg #[.int .i64 x53.1])) (MM := fun x => [(b4, [.string (bs x53.2.1), .int .i64 x53.2.2])]) (ZZ := fun x => []) W F Oj Aa (fun hL => Bx _ _ w b4 (x38, x39) ([115, 116, 97, 114, 116, 115] : List UInt8) (-1) _ h19 (hG.go F) hL) fun x w F => ?_
  have F : Stw ⟨Y, [], w0⟩ [(b4, [.string (bs x53.2.1), .int .i64 x53.2.2]), (b3, [.int .i64 0]), (b2, [.int .i64 0]), (b1, (E8 x2 v1 v14 v27))] [row v1 41 Bn x6, row v14 43 Br x25, row v27 39 (Rp.slice (Rp.int .u64)) x40] w := F
  refine BC ?_
  refine Cc W ?_
  have F := F.nilRow 3 (Rp.int .i64)
  have F := F.frontZ (i := 3) Aa Aa
  have F := F.frontZ (i := 3) Aa Aa
  have F := F.frontZ (i := 3) Aa Aa
  have F := F.frontM (i := 1) Aa Aa
  have F := F.frontM (i := 2) Aa Aa
  have F := F.frontM (i := 3) Aa Aa
  refine Di (Ml := (MJ b1 x2 v1 v14 v27 b2 b3)) (Zl := [row v1 41 Bn x6, row v14 43 Br x25, row v27 39 (Rp.slice (Rp.int .u64)) x40, row (Value.slice none 0 0) 3 (Rp.int .i64) ([] : List Int)]) (M := [(b4, [.string (bs x53.2.1), .int .i64 x53.2.2])]) (Z := []) (β := Value × Value × Value × Value) (u' := (.panicking ({ v := .iface 75 (.agg #[.int .i64 x53.1]), recovered := true } :: []))) (MM := fun x => [(b1, [.int .i64 ((Ab ((x2.1, x6, x25), x40, ([] : List Int), 0, 0, 0, 0, 0, 0) 0 0 x53.1).1.1.1), x.1, x.2.1, x.2.2.1, x.2.2.2, .int .i64 ((Ab ((x2.1, x6, x25), x40, ([] : List Int), 0, 0, 0, 0, 0, 0) 0 0 x53.1).1.2.2.2.1), .int .i64 ((Ab ((x2.1, x6, x25), x40, ([] : List Int), 0, 0, 0, 0, 0, 0) 0 0 x53.1).1.2.2.2.2.1), .int .i64 ((Ab ((x2.1, x6, x25), x40, ([] : List Int), 0, 0, 0, 0, 0, 0) 0 0 x53.1).1.2.2.2.2.2.1), .int .i64 ((Ab ((x2.1, x6, x25), x40, ([] : List Int), 0, 0, 0, 0, 0, 0) 0 0 x53.1).1.2.2.2.2.2.2.1), .int .i64 ((Ab ((x2.1, x6, x25), x40, ([] : List Int), 0, 0, 0, 0, 0, 0) 0 0 x53.1).1.2.2.2.2.2.2.2.1), .int .i64 ((Ab ((x2.1, x6, x25), x40, ([] : List Int), 0, 0, 0, 0, 0, 0) 0 0 x53.1).1.2.2.2.2.2.2.2.2)]), (b2, (LU x2 x6 x25 x40 x53)), (b3, (LJ x2 x6 x25 x40 x53))]) (ZZ := fun x => [row x.1 41 Bn ((Ab ((x2.1, x6, x25), x40, ([] : List Int), 0, 0, 0, 0, 0, 0) 0 0 x53.1).1.1.2.1), row x.2.1 43 Br ((Ab ((x2.1, x6, x25), x40, ([] : List Int), 0, 0, 0, 0, 0, 0) 0 0 x53.1).1.1.2.2), row x.2.2.1 39 (Rp.slice (Rp.int .u64)) ((Ab ((x2.1, x6, x25), x40, ([] : List Int), 0, 0, 0, 0, 0, 0) 0 0 x53.1).1.2.1), row x.2.2.2 3 (Rp.int .i64) ((Ab ((x2.1, x6, x25), x40, ([] : List Int), 0, 0, 0, 0, 0, 0) 0 0 x53.1).1.2.2.1)]) F KL (by simp) (fun hL => AJ _ _ w b1 (v1) (v14) (v27) (Value.slice none 0 0) b2 b3 ((x2.1, x6, x25), x40, ([] : List Int), 0, 0, 0, 0, 0, 0) 0 0 x53.1 _ Aa hL) fun x w F => ?_
  obtain ⟨v69, v70, v71, v72⟩ := x
  have F : Stw ⟨Y, [], w0⟩ [(b1, (Om x2 x6 x25 x40 x53 v69 v70 v71 v72)), (b2, (LU x2 x6 x25 x40 x53)), (b3, (LJ x2 x6 x25 x40 x53)), (b4, [.string (bs x53.2.1), .int .i64 x53.2.2])] [row v69 41 Bn ((Ab ((x2.1, x6, x25), x40, ([] : List Int), 0, 0, 0, 0, 0, 0) 0 0 x53.1).1.1.2.1), row v70 43 Br ((Ab ((x2.1, x6, x25), x40, ([] : List Int), 0, 0, 0, 0, 0, 0) 0 0 x53.1).1.1.2.2), row v71 39 (Rp.slice (Rp.int .u64)) ((Ab ((x2.1, x6, x25), x40, ([] : List Int), 0, 0, 0, 0, 0, 0) 0 0 x53.1).1.2.1), row v72 3 (Rp.int .i64) ((Ab ((x2.1, x6, x25), x40, ([] : List Int), 0, 0, 0, 0, 0, 0) 0 0 x53.1).1.2.2.1)] w := F
  have H := Ba H
  subst H
  refine Dg F Aa (A2 0 W Aa Aa GI Aa) (A2 1 W Aa Aa T3 Aa) (A2 2 W Aa Aa Ke Aa) ?_
  have F := F.frontZ (i := 3) Aa Aa
  have F := F.frontZ (i := 3) Aa Aa
  have F := F.frontZ (i := 3) Aa Aa
  have F := F.frontZ (i := 3) Aa Aa
  have F := F.sub (M' := []) (Z' := [row v69 41 Bn ((Ab ((x2.1, x6, x25), x40, ([] : List Int), 0, 0, 0, 0, 0, 0) 0 0 x53.1).1.1.2.1), row v70 43 Br ((Ab ((x2.1, x6, x25), x40, ([] : List Int), 0, 0, 0, 0, 0, 0) 0 0 x53.1).1.1.2.2), row v71 39 (Rp.slice (Rp.int .u64)) ((Ab ((x2.1, x6, x25), x40, ([] : List Int), 0, 0, 0, 0, 0, 0) 0 0 x53.1).1.2.1), row v72 3 (Rp.int .i64) ((Ab ((x2.1, x6, x25), x40, ([] : List Int), 0, 0, 0, 0, 0, 0) 0 0 x53.1).1.2.2.1)]) (List.nil_sublist _) (List.Sublist.refl _)
  exact ⟨((v69), (v70), (v71), (v72)), Aa, F⟩
 have H := Fg H
 refine B7 (Ml := [(b4, [.string (bs p0), .int .i64 1])]) (Zl := []) (M := (Ot b3 b2 b1)) (Z := []) (β := Unit) (pv := fun x => .iface 75 (.agg #[.int .i64 x3.1])) (MM := fun x => [(b4, [.string (bs x3.2.1), .int .i64 x3.2.2])]) (ZZ := fun x => []) W F Lt Aa (fun hL => AM _ _ w b4 (p0, 1) ([115, 119, 105, 116, 99, 104, 101, 115] : List UInt8) _ h1 (hG.go F) hL) fun x w F => ?_
 have F : Stw ⟨Y, [], w0⟩ [(b4, [.string (bs x3.2.1), .int .i64 x3.2.2]), (b3, [.int .i64 0]), (b2, [.int .i64 0]), (b1, (FQ))] [] w := F
 refine BC ?_
 refine Cc W ?_
 have F := F.nilRow 41 Bn
 have F := F.nilRow 43 Br
 have F := F.nilRow 39 (Rp.slice (Rp.int .u64))
 have F := F.nilRow 3 (Rp.int .i64)
 have F := F.frontZ (i := 1) Aa Aa
 have F := F.frontZ (i := 2) Aa Aa
 have F := F.frontZ (i := 3) Aa Aa
 have F := F.frontM (i := 1) Aa Aa
 have F := F.frontM (i := 2) Aa Aa
 have F := F.frontM (i := 3) Aa Aa
 refine Di (Ml := [(b1, [.int .i64 0, .slice none 0 0, .slice none 0 0, .slice none 0 0, .slice none 0 0, .int .i64 0, .int .i64 0, .int .i64 0, .int .i64 0, .int .i64 0, .int .i64 0]), (b2, [.int .i64 0]), (b3, [.int .i64 0])]) (Zl := [row (Value.slice none 0 0) 41 Bn ([] : List (Int × Int × Int × Int × Int × Int)), row (Value.slice none 0 0) 43 Br ([] : List (Int × Int)), row (Value.slice none 0 0) 39 (Rp.slice (Rp.int .u64)) ([] : List (List Int)), row (Value.slice none 0 0) 3 (Rp.int .i64) ([] : List Int)]) (M := [(b4, [.string (bs x3.2.1), .int .i64 x3.2.2])]) (Z := []) (β := Value × Value × Value × Value) (u' := (.panicking ({ v := .iface 75 (.agg #[.int .i64 x3.1]), recovered := true } :: []))) (MM := fun x => [(b1, [.int .i64 ((Ab ((0, ([] : List (Int × Int × Int × Int × Int × Int)), ([] : List (Int × Int))), ([] : List (List Int)), ([] : List Int), 0, 0, 0, 0, 0, 0) 0 0 x3.1).1.1.1), x.1, x.2.1, x.2.2.1, x.2.2.2, .int .i64 ((Ab ((0, ([] : List (Int × Int × Int × Int × Int × Int)), ([] : List (Int × Int))), ([] : List (List Int)), ([] : List Int), 0, 0, 0, 0, 0, 0) 0 0 x3.1).1.2.2.2.1), .int .i64 ((Ab ((0, ([] : List (Int × Int × Int × Int × Int × Int)), ([] : List (Int × Int))), ([] : List (List Int)), ([] : List Int), 0, 0, 0, 0, 0, 0) 0 0 x3.1).1.2.2.2.2.1), .int .i64 ((Ab ((0, ([] : List (Int × Int × Int × Int × Int × Int)), ([] : List (Int × Int))), ([] : List (List Int)), ([] : List Int), 0, 0, 0, 0, 0, 0) 0 0 x3.1).1.2.2.2.2.2.1), .int .i64 ((Ab ((0, ([] : List (Int × Int × Int × Int × Int × Int)), ([] : List (Int × Int))), ([] : List (List Int)), ([] : List Int), 0, 0, 0, 0, 0, 0) 0 0 x3.1).1.2.2.2.2.2.2.1), .int .i64 ((Ab ((0, ([] : List (Int × Int × Int × Int × Int × Int)), ([] : List (Int × Int))), ([] : List (List Int)), ([] : List Int), 0, 0, 0, 0, 0, 0) 0 0 x3.1).1.2.2.2.2.2.2.2.1), .int .i64 ((Ab ((0, ([] : List (Int × Int × Int × Int × Int × Int)), ([] : List (Int × Int))), ([] : List (List Int)), ([] : List Int), 0, 0, 0, 0, 0, 0) 0 0 x3.1).1.2.2.2.2.2.2.2.2)]), (b2, (OB x3)), (b3, (Ou x3))]) (ZZ := fun x => [row x.1 41 Bn ((Ab ((0, ([] : List (Int × Int × Int × Int × Int × Int)), ([] : List (Int × Int))), ([] : List (List Int)), ([] : List Int), 0, 0, 0, 0, 0, 0) 0 0 x3.1).1.1.2.1), row x.2.1 43 Br ((Ab ((0, ([] : List (Int × Int × Int × Int × Int × Int)), ([] : List (Int × Int))), ([] : List (List Int)), ([] : List Int), 0, 0, 0, 0, 0, 0) 0 0 x3.1).1.1.2.2), row x.2.2.1 39 (Rp.slice (Rp.int .u64)) ((Ab ((0, ([] : List (Int × Int × Int × Int × Int × Int)), ([] : List (Int × Int))), ([] : List (List Int)), ([] : List Int), 0, 0, 0, 0, 0, 0) 0 0 x3.1).1.2.1), row x.2.2.2 3 (Rp.int .i64) ((Ab ((0, ([] : List (Int × Int × Int × Int × Int × Int)), ([] : List (Int × Int))), ([] : List (List Int)), ([] : List Int), 0, 0, 0, 0, 0, 0) 0 0 x3.1).1.2.2.1)]) F KL (by simp) (fun hL => AJ _ _ w b1 (Value.slice none 0 0) (Value.slice none 0 0) (Value.slice none 0 0) (Value.slice none 0 0) b2 b3 ((0, ([] : List (Int × Int × Int × Int × Int × Int)), ([] : List (Int × Int))), ([] : List (List Int)), ([] : List Int), 0, 0, 0, 0, 0, 0) 0 0 x3.1 _ Aa hL) fun x w F => ?_
 obtain ⟨v73, v74, v75, v76⟩ := x
 have F : Stw ⟨Y, [], w0⟩ [(b1, [.int .i64 ((Ab ((0, ([] : List (Int × Int × Int × Int × Int × Int)), ([] : List (Int × Int))), ([] : List (List Int)), ([] : List Int), 0, 0, 0, 0, 0, 0) 0 0 x3.1).1.1.1), v73, v74, v75, v76, .int .i64 ((Ab ((0, ([] : List (Int × Int × Int × Int × Int × Int)), ([] : List (Int × Int))), ([] : List (List Int)), ([] : List Int), 0, 0, 0, 0, 0, 0) 0 0 x3.1).1.2.2.2.1), .int .i64 ((Ab ((0, ([] : List (Int × Int × Int × Int × Int × Int)), ([] : List (Int × Int))), ([] : List (List Int)), ([] : List Int), 0, 0, 0, 0, 0, 0) 0 0 x3.1).1.2.2.2.2.1), .int .i64 ((Ab ((0, ([] : List (Int × Int × Int × Int × Int × Int)), ([] : List (Int × Int))), ([] : List (List Int)), ([] : List Int), 0, 0, 0, 0, 0, 0) 0 0 x3.1).1.2.2.2.2.2.1), .int .i64 ((Ab ((0, ([] : List (Int × Int × Int × Int × Int × Int)), ([] : List (Int × Int))), ([] : List (List Int)), ([] : List Int), 0, 0, 0, 0, 0, 0) 0 0 x3.1).1.2.2.2.2.2.2.1), .int .i64 ((Ab ((0, ([] : List (Int × Int × Int × Int × Int × Int)), ([] : List (Int × Int))), ([] : List (List Int)), ([] : List Int), 0, 0, 0, 0, 0, 0) 0 0 x3.1).1.2.2.2.2.2.2.2.1), .int .i64 ((Ab ((0, ([] : List (Int × Int × Int × Int × Int × Int)), ([] : List (Int × Int))), ([] : List (List Int)), ([] : List Int), 0, 0, 0, 0, 0, 0) 0 0 x3.1).1.2.2.2.2.2.2.2.2)]), (b2, (OB x3)), (b3, (Ou x3)), (b4, [.string (bs x3.2.1), .int .i64 x3.2.2])] [row v73 41 Bn ((Ab ((0, ([] : List (Int × Int × Int × Int × Int × Int)), ([] : List (Int × Int))), ([] : List (List Int)), ([] : List Int), 0, 0, 0, 0, 0, 0) 0 0 x3.1).1.1.2.1), row v74 43 Br ((Ab ((0, ([] : List (Int × Int × Int × Int × Int × Int)), ([] : List (Int × Int))), ([] : List (List Int)), ([] : List Int), 0, 0, 0, 0, 0, 0) 0 0 x3.1).1.1.2.2), row v75 39 (Rp.slice (Rp.int .u64)) ((Ab ((0, ([] : List (Int × Int × Int × Int × Int × Int)), ([] : List (Int × Int))), ([] : List (List Int)), ([] : List Int), 0, 0, 0, 0, 0, 0) 0 0 x3.1).1.2.1), row v76 3 (Rp.int .i64) ((Ab ((0, ([] : List (Int × Int × Int × Int × Int × Int)), ([] : List (Int × Int))), ([] : List (List Int)), ([] : List Int), 0, 0, 0, 0, 0, 0) 0 0 x3.1).1.2.2.1)] w := F
 have H := Ba H
 subst H
 refine Dg F Aa (A2 0 W Aa Aa GI Aa) (A2 1 W Aa Aa T3 Aa) (A2 2 W Aa Aa Ke Aa) ?_
 have F := F.frontZ (i := 3) Aa Aa
 have F := F.frontZ (i := 3) Aa Aa
 have F := F.frontZ (i := 3) Aa Aa
 have F := F.frontZ (i := 3) Aa Aa
 have F := F.sub (M' := []) (Z' := [row v73 41 Bn ((Ab ((0, ([] : List (Int × Int × Int × Int × Int × Int)), ([] : List (Int × Int))), ([] : List (List Int)), ([] : List Int), 0, 0, 0, 0, 0, 0) 0 0 x3.1).1.1.2.1), row v74 43 Br ((Ab ((0, ([] : List (Int × Int × Int × Int × Int × Int)), ([] : List (Int × Int))), ([] : List (List Int)), ([] : List Int), 0, 0, 0, 0, 0, 0) 0 0 x3.1).1.1.2.2), row v75 39 (Rp.slice (Rp.int .u64)) ((Ab ((0, ([] : List (Int × Int × Int × Int × Int × Int)), ([] : List (Int × Int))), ([] : List (List Int)), ([] : List Int), 0, 0, 0, 0, 0, 0) 0 0 x3.1).1.2.1), row v76 3 (Rp.int .i64) ((Ab ((0, ([] : List (Int × Int × Int × Int × Int × Int)), ([] : List (Int × Int))), ([] : List (List Int)), ([] : List Int), 0, 0, 0, 0, 0, 0) 0 0 x3.1).1.2.2.1)]) (List.nil_sublist _) (List.Sublist.refl _)
 exact ⟨((v73), (v74), (v75), (v76)), Aa, F⟩
end Go.Proofs.YthmkgdnnocemmaaDoor
