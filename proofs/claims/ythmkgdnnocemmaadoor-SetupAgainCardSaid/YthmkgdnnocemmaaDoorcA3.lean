/- The functions of layer 40, FH. Conditions: none. -/
import Derived.Test.YthmkgdnnocemmaaDoorcA2
namespace Go.Proofs.YthmkgdnnocemmaaDoor
open Go Go.RowKit
set_option linter.unusedVariables false
set_option linter.unusedSimpArgs false
set_option maxRecDepth 20000
abbrev Mk (a0 : Nat) (a1 : Nat) (a2 : Nat) : List (Nat × List Value) := [(a0, [.int .i64 0]), (a1, [.int .i64 0]), (a2, [.int .i64 0, .slice none 0 0, .slice none 0 0, .slice none 0 0, .slice none 0 0, .int .i64 0, .int .i64 0, .int .i64 0, .int .i64 0, .int .i64 0, .int .i64 0])]
abbrev EP (a0 : Int × (List UInt8 × Int)) (a1 : Value) : List Value := [.int .i64 a0.1, a1, .slice none 0 0, .slice none 0 0, .slice none 0 0, .int .i64 0, .int .i64 0, .int .i64 0, .int .i64 0, .int .i64 0, .int .i64 0]
abbrev Mq (a0 : Nat) (a1 : Nat) (a2 : Nat) (a3 : Int × (List UInt8 × Int)) (a4 : Value) : List (Nat × List Value) := [(a0, [.int .i64 0]), (a1, [.int .i64 0]), (a2, [.int .i64 a3.1, a4, .slice none 0 0, .slice none 0 0, .slice none 0 0, .int .i64 0, .int .i64 0, .int .i64 0, .int .i64 0, .int .i64 0, .int .i64 0])]
abbrev Mb (a0 : Nat) (a1 : Int × (List UInt8 × Int)) (a2 : Value) (a3 : Nat) (a4 : Nat) : List (Nat × List Value) := [(a0, [.int .i64 a1.1, a2, .slice none 0 0, .slice none 0 0, .slice none 0 0, .int .i64 0, .int .i64 0, .int .i64 0, .int .i64 0, .int .i64 0, .int .i64 0]), (a3, [.int .i64 0]), (a4, [.int .i64 0])]
abbrev ER (a0 : Int × (List UInt8 × Int)) (a1 : Value) (a2 : Value) : List Value := [.int .i64 a0.1, a1, a2, .slice none 0 0, .slice none 0 0, .int .i64 0, .int .i64 0, .int .i64 0, .int .i64 0, .int .i64 0, .int .i64 0]
abbrev El (a0 : Int × (List UInt8 × Int)) (a1 : Value) (a2 : Value) (a3 : Value) : List Value := [.int .i64 a0.1, a1, a2, a3, .slice none 0 0, .int .i64 0, .int .i64 0, .int .i64 0, .int .i64 0, .int .i64 0, .int .i64 0]
abbrev JJ (a0 : Nat) (a1 : Nat) (a2 : Nat) (a3 : Int × (List UInt8 × Int)) (a4 : Value) (a5 : Value) (a6 : Value) : List (Nat × List Value) := [(a0, [.int .i64 0]), (a1, [.int .i64 0]), (a2, [.int .i64 a3.1, a4, a5, a6, .slice none 0 0, .int .i64 0, .int .i64 0, .int .i64 0, .int .i64 0, .int .i64 0, .int .i64 0])]
abbrev Kx (a0 : Nat) (a1 : Int × (List UInt8 × Int)) (a2 : Value) (a3 : Value) (a4 : Value) (a5 : Nat) (a6 : Nat) : List (Nat × List Value) := [(a0, [.int .i64 a1.1, a2, a3, a4, .slice none 0 0, .int .i64 0, .int .i64 0, .int .i64 0, .int .i64 0, .int .i64 0, .int .i64 0]), (a5, [.int .i64 0]), (a6, [.int .i64 0])]
abbrev JD (a0 : Int × (List UInt8 × Int)) (a1 : List (Int × Int × Int × Int × Int × Int)) (a2 : List (Int × Int)) (a3 : List (List Int)) (a4 : Int × (List UInt8 × Int)) : List Value := [.int .i64 ((Ab ((a0.1, a1, a2), a3, ([] : List Int), 0, 0, 0, 0, 0, 0) 0 0 a4.1).2.1)]
abbrev JX (a0 : Int × (List UInt8 × Int)) (a1 : List (Int × Int × Int × Int × Int × Int)) (a2 : List (Int × Int)) (a3 : List (List Int)) (a4 : Int × (List UInt8 × Int)) : List Value := [.int .i64 ((Ab ((a0.1, a1, a2), a3, ([] : List Int), 0, 0, 0, 0, 0, 0) 0 0 a4.1).2.2)]
abbrev Mp (a0 : Int × (List UInt8 × Int)) (a1 : List (Int × Int × Int × Int × Int × Int)) (a2 : List (Int × Int)) (a3 : List (List Int)) (a4 : Int × (List UInt8 × Int)) (a5 : Value) (a6 : Value) (a7 : Value) (a8 : Value) : List Value := [.int .i64 ((Ab ((a0.1, a1, a2), a3, ([] : List Int), 0, 0, 0, 0, 0, 0) 0 0 a4.1).1.1.1), a5, a6, a7, a8, .int .i64 ((Ab ((a0.1, a1, a2), a3, ([] : List Int), 0, 0, 0, 0, 0, 0) 0 0 a4.1).1.2.2.2.1), .int .i64 ((Ab ((a0.1, a1, a2), a3, ([] : List Int), 0, 0, 0, 0, 0, 0) 0 0 a4.1).1.2.2.2.2.1), .int .i64 ((Ab ((a0.1, a1, a2), a3, ([] : List Int), 0, 0, 0, 0, 0, 0) 0 0 a4.1).1.2.2.2.2.2.1), .int .i64 ((Ab ((a0.1, a1, a2), a3, ([] : List Int), 0, 0, 0, 0, 0, 0) 0 0 a4.1).1.2.2.2.2.2.2.1), .int .i64 ((Ab ((a0.1, a1, a2), a3, ([] : List Int), 0, 0, 0, 0, 0, 0) 0 0 a4.1).1.2.2.2.2.2.2.2.1), .int .i64 ((Ab ((a0.1, a1, a2), a3, ([] : List Int), 0, 0, 0, 0, 0, 0) 0 0 a4.1).1.2.2.2.2.2.2.2.2)]
abbrev KX (a0 : Int × (List UInt8 × Int)) (a1 : Value) (a2 : Value) (a3 : Value) (a4 : Value) : List Value := [.int .i64 a0.1, a1, a2, a3, a4, .int .i64 0, .int .i64 0, .int .i64 0, .int .i64 0, .int .i64 0, .int .i64 0]
abbrev KD (a0 : Int × (List UInt8 × Int)) (a1 : Value) (a2 : Value) (a3 : Value) (a4 : Value) (a5 : Int × (List UInt8 × Int)) : List Value := [.int .i64 a0.1, a1, a2, a3, a4, .int .i64 a5.1, .int .i64 0, .int .i64 0, .int .i64 0, .int .i64 0, .int .i64 0]
abbrev Ig (a0 : Int × (List UInt8 × Int)) (a1 : Value) (a2 : Value) (a3 : Value) (a4 : Value) (a5 : Int × (List UInt8 × Int)) (a6 : Int × (List UInt8 × Int)) : List Value := [.int .i64 a0.1, a1, a2, a3, a4, .int .i64 a5.1, .int .i64 a6.1, .int .i64 0, .int .i64 0, .int .i64 0, .int .i64 0]
abbrev Ie (a0 : Int × (List UInt8 × Int)) (a1 : Value) (a2 : Value) (a3 : Value) (a4 : Value) (a5 : Int × (List UInt8 × Int)) (a6 : Int × (List UInt8 × Int)) (a7 : Int × (List UInt8 × Int)) : List Value := [.int .i64 a0.1, a1, a2, a3, a4, .int .i64 a5.1, .int .i64 a6.1, .int .i64 a7.1, .int .i64 0, .int .i64 0, .int .i64 0]
abbrev H3 (a0 : Int × (List UInt8 × Int)) (a1 : Value) (a2 : Value) (a3 : Value) (a4 : Value) (a5 : Int × (List UInt8 × Int)) (a6 : Int × (List UInt8 × Int)) (a7 : Int × (List UInt8 × Int)) (a8 : Int × (List UInt8 × Int)) : List Value := [.int .i64 a0.1, a1, a2, a3, a4, .int .i64 a5.1, .int .i64 a6.1, .int .i64 a7.1, .int .i64 a8.1, .int .i64 0, .int .i64 0]
abbrev Mm (a0 : Int × (List UInt8 × Int)) : List Value := [.int .i64 ((Ab ((0, ([] : List (Int × Int × Int × Int × Int × Int)), ([] : List (Int × Int))), ([] : List (List Int)), ([] : List Int), 0, 0, 0, 0, 0, 0) 0 0 a0.1).2.1)]
abbrev LY (a0 : Int × (List UInt8 × Int)) : List Value := [.int .i64 ((Ab ((0, ([] : List (Int × Int × Int × Int × Int × Int)), ([] : List (Int × Int))), ([] : List (List Int)), ([] : List Int), 0, 0, 0, 0, 0, 0) 0 0 a0.1).2.2)]
noncomputable def Ct (x2 : Int × (List UInt8 × Int)) : (List UInt8 × Int × (List (Int × Int × Int × Int × Int × Int))) → Option ((List UInt8 × Int × (List (Int × Int × Int × Int × Int × Int))) ⊕ ((List UInt8 × Int × (List (Int × Int × Int × Int × Int × Int))) ⊕ (((Int × (List (Int × Int × Int × Int × Int × Int)) × (List (Int × Int))) × List (List Int) × List Int × Int × Int × Int × Int × Int × Int) × Int × Int)))
  | (x7, x8, x9) => (Bi (x7, x8) ([108, 105, 110, 107] : List UInt8)).bind fun x10 => B3 x10 (fun x11 => (if x11 = true then (AJ (x7, x8) ([108, 105, 110, 107] : List UInt8) 6).bind fun x13 => B3 x13 (fun x14 => (ix x14.1 0).bind fun x16 => (ix x14.1 1).bind fun x17 => (ix x14.1 2).bind fun x18 => (ix x14.1 3).bind fun x19 => (ix x14.1 4).bind fun x20 => (ix x14.1 5).bind fun x21 => (DB x9 ([(x16, x17, x18, x19, x20, x21)] : List (Int × Int × Int × Int × Int × Int))).bind fun x22 => some (.inl (x14.2.1, x14.2.2, x22))) (fun x15 => some (.inr (.inr ((((Ab ((x2.1, x9, ([] : List (Int × Int))), ([] : List (List Int)), ([] : List Int), 0, 0, 0, 0, 0, 0) 0 0 x15.1).1.1.1, (Ab ((x2.1, x9, ([] : List (Int × Int))), ([] : List (List Int)), ([] : List Int), 0, 0, 0, 0, 0, 0) 0 0 x15.1).1.1.2.1, (Ab ((x2.1, x9, ([] : List (Int × Int))), ([] : List (List Int)), ([] : List Int), 0, 0, 0, 0, 0, 0) 0 0 x15.1).1.1.2.2), (Ab ((x2.1, x9, ([] : List (Int × Int))), ([] : List (List Int)), ([] : List Int), 0, 0, 0, 0, 0, 0) 0 0 x15.1).1.2.1, (Ab ((x2.1, x9, ([] : List (Int × Int))), ([] : List (List Int)), ([] : List Int), 0, 0, 0, 0, 0, 0) 0 0 x15.1).1.2.2.1, (Ab ((x2.1, x9, ([] : List (Int × Int))), ([] : List (List Int)), ([] : List Int), 0, 0, 0, 0, 0, 0) 0 0 x15.1).1.2.2.2.1, (Ab ((x2.1, x9, ([] : List (Int × Int))), ([] : List (List Int)), ([] : List Int), 0, 0, 0, 0, 0, 0) 0 0 x15.1).1.2.2.2.2.1, (Ab ((x2.1, x9, ([] : List (Int × Int))), ([] : List (List Int)), ([] : List Int), 0, 0, 0, 0, 0, 0) 0 0 x15.1).1.2.2.2.2.2.1, (Ab ((x2.1, x9, ([] : List (Int × Int))), ([] : List (List Int)), ([] : List Int), 0, 0, 0, 0, 0, 0) 0 0 x15.1).1.2.2.2.2.2.2.1, (Ab ((x2.1, x9, ([] : List (Int × Int))), ([] : List (List Int)), ([] : List Int), 0, 0, 0, 0, 0, 0) 0 0 x15.1).1.2.2.2.2.2.2.2.1, (Ab ((x2.1, x9, ([] : List (Int × Int))), ([] : List (List Int)), ([] : List Int), 0, 0, 0, 0, 0, 0) 0 0 x15.1).1.2.2.2.2.2.2.2.2), (Ab ((x2.1, x9, ([] : List (Int × Int))), ([] : List (List Int)), ([] : List Int), 0, 0, 0, 0, 0, 0) 0 0 x15.1).2.1, (Ab ((x2.1, x9, ([] : List (Int × Int))), ([] : List (List Int)), ([] : List Int), 0, 0, 0, 0, 0, 0) 0 0 x15.1).2.2)))) else some (.inr (.inl (x7, x8, x9))))) (fun x12 => some (.inr (.inr ((((Ab ((x2.1, x9, ([] : List (Int × Int))), ([] : List (List Int)), ([] : List Int), 0, 0, 0, 0, 0, 0) 0 0 x12).1.1.1, (Ab ((x2.1, x9, ([] : List (Int × Int))), ([] : List (List Int)), ([] : List Int), 0, 0, 0, 0, 0, 0) 0 0 x12).1.1.2.1, (Ab ((x2.1, x9, ([] : List (Int × Int))), ([] : List (List Int)), ([] : List Int), 0, 0, 0, 0, 0, 0) 0 0 x12).1.1.2.2), (Ab ((x2.1, x9, ([] : List (Int × Int))), ([] : List (List Int)), ([] : List Int), 0, 0, 0, 0, 0, 0) 0 0 x12).1.2.1, (Ab ((x2.1, x9, ([] : List (Int × Int))), ([] : List (List Int)), ([] : List Int), 0, 0, 0, 0, 0, 0) 0 0 x12).1.2.2.1, (Ab ((x2.1, x9, ([] : List (Int × Int))), ([] : List (List Int)), ([] : List Int), 0, 0, 0, 0, 0, 0) 0 0 x12).1.2.2.2.1, (Ab ((x2.1, x9, ([] : List (Int × Int))), ([] : List (List Int)), ([] : List Int), 0, 0, 0, 0, 0, 0) 0 0 x12).1.2.2.2.2.1, (Ab ((x2.1, x9, ([] : List (Int × Int))), ([] : List (List Int)), ([] : List Int), 0, 0, 0, 0, 0, 0) 0 0 x12).1.2.2.2.2.2.1, (Ab ((x2.1, x9, ([] : List (Int × Int))), ([] : List (List Int)), ([] : List Int), 0, 0, 0, 0, 0, 0) 0 0 x12).1.2.2.2.2.2.2.1, (Ab ((x2.1, x9, ([] : List (Int × Int))), ([] : List (List Int)), ([] : List Int), 0, 0, 0, 0, 0, 0) 0 0 x12).1.2.2.2.2.2.2.2.1, (Ab ((x2.1, x9, ([] : List (Int × Int))), ([] : List (List Int)), ([] : List Int), 0, 0, 0, 0, 0, 0) 0 0 x12).1.2.2.2.2.2.2.2.2), (Ab ((x2.1, x9, ([] : List (Int × Int))), ([] : List (List Int)), ([] : List Int), 0, 0, 0, 0, 0, 0) 0 0 x12).2.1, (Ab ((x2.1, x9, ([] : List (Int × Int))), ([] : List (List Int)), ([] : List Int), 0, 0, 0, 0, 0, 0) 0 0 x12).2.2))))
noncomputable def Cq (x2 : Int × (List UInt8 × Int)) (x6 : List (Int × Int × Int × Int × Int × Int)) : (List UInt8 × Int × (List (Int × Int))) → Option ((List UInt8 × Int × (List (Int × Int))) ⊕ ((List UInt8 × Int × (List (Int × Int))) ⊕ (((Int × (List (Int × Int × Int × Int × Int × Int)) × (List (Int × Int))) × List (List Int) × List Int × Int × Int × Int × Int × Int × Int) × Int × Int)))
  | (x26, x27, x28) => (Bi (x26, x27) ([104, 111, 115, 116] : List UInt8)).bind fun x29 => B3 x29 (fun x30 => (if x30 = true then (AJ (x26, x27) ([104, 111, 115, 116] : List UInt8) 2).bind fun x32 => B3 x32 (fun x33 => (ix x33.1 0).bind fun x35 => (ix x33.1 1).bind fun x36 => (DB x28 ([(x35, x36)] : List (Int × Int))).bind fun x37 => some (.inl (x33.2.1, x33.2.2, x37))) (fun x34 => some (.inr (.inr ((((Ab ((x2.1, x6, x28), ([] : List (List Int)), ([] : List Int), 0, 0, 0, 0, 0, 0) 0 0 x34.1).1.1.1, (Ab ((x2.1, x6, x28), ([] : List (List Int)), ([] : List Int), 0, 0, 0, 0, 0, 0) 0 0 x34.1).1.1.2.1, (Ab ((x2.1, x6, x28), ([] : List (List Int)), ([] : List Int), 0, 0, 0, 0, 0, 0) 0 0 x34.1).1.1.2.2), (Ab ((x2.1, x6, x28), ([] : List (List Int)), ([] : List Int), 0, 0, 0, 0, 0, 0) 0 0 x34.1).1.2.1, (Ab ((x2.1, x6, x28), ([] : List (List Int)), ([] : List Int), 0, 0, 0, 0, 0, 0) 0 0 x34.1).1.2.2.1, (Ab ((x2.1, x6, x28), ([] : List (List Int)), ([] : List Int), 0, 0, 0, 0, 0, 0) 0 0 x34.1).1.2.2.2.1, (Ab ((x2.1, x6, x28), ([] : List (List Int)), ([] : List Int), 0, 0, 0, 0, 0, 0) 0 0 x34.1).1.2.2.2.2.1, (Ab ((x2.1, x6, x28), ([] : List (List Int)), ([] : List Int), 0, 0, 0, 0, 0, 0) 0 0 x34.1).1.2.2.2.2.2.1, (Ab ((x2.1, x6, x28), ([] : List (List Int)), ([] : List Int), 0, 0, 0, 0, 0, 0) 0 0 x34.1).1.2.2.2.2.2.2.1, (Ab ((x2.1, x6, x28), ([] : List (List Int)), ([] : List Int), 0, 0, 0, 0, 0, 0) 0 0 x34.1).1.2.2.2.2.2.2.2.1, (Ab ((x2.1, x6, x28), ([] : List (List Int)), ([] : List Int), 0, 0, 0, 0, 0, 0) 0 0 x34.1).1.2.2.2.2.2.2.2.2), (Ab ((x2.1, x6, x28), ([] : List (List Int)), ([] : List Int), 0, 0, 0, 0, 0, 0) 0 0 x34.1).2.1, (Ab ((x2.1, x6, x28), ([] : List (List Int)), ([] : List Int), 0, 0, 0, 0, 0, 0) 0 0 x34.1).2.2)))) else some (.inr (.inl (x26, x27, x28))))) (fun x31 => some (.inr (.inr ((((Ab ((x2.1, x6, x28), ([] : List (List Int)), ([] : List Int), 0, 0, 0, 0, 0, 0) 0 0 x31).1.1.1, (Ab ((x2.1, x6, x28), ([] : List (List Int)), ([] : List Int), 0, 0, 0, 0, 0, 0) 0 0 x31).1.1.2.1, (Ab ((x2.1, x6, x28), ([] : List (List Int)), ([] : List Int), 0, 0, 0, 0, 0, 0) 0 0 x31).1.1.2.2), (Ab ((x2.1, x6, x28), ([] : List (List Int)), ([] : List Int), 0, 0, 0, 0, 0, 0) 0 0 x31).1.2.1, (Ab ((x2.1, x6, x28), ([] : List (List Int)), ([] : List Int), 0, 0, 0, 0, 0, 0) 0 0 x31).1.2.2.1, (Ab ((x2.1, x6, x28), ([] : List (List Int)), ([] : List Int), 0, 0, 0, 0, 0, 0) 0 0 x31).1.2.2.2.1, (Ab ((x2.1, x6, x28), ([] : List (List Int)), ([] : List Int), 0, 0, 0, 0, 0, 0) 0 0 x31).1.2.2.2.2.1, (Ab ((x2.1, x6, x28), ([] : List (List Int)), ([] : List Int), 0, 0, 0, 0, 0, 0) 0 0 x31).1.2.2.2.2.2.1, (Ab ((x2.1, x6, x28), ([] : List (List Int)), ([] : List Int), 0, 0, 0, 0, 0, 0) 0 0 x31).1.2.2.2.2.2.2.1, (Ab ((x2.1, x6, x28), ([] : List (List Int)), ([] : List Int), 0, 0, 0, 0, 0, 0) 0 0 x31).1.2.2.2.2.2.2.2.1, (Ab ((x2.1, x6, x28), ([] : List (List Int)), ([] : List Int), 0, 0, 0, 0, 0, 0) 0 0 x31).1.2.2.2.2.2.2.2.2), (Ab ((x2.1, x6, x28), ([] : List (List Int)), ([] : List Int), 0, 0, 0, 0, 0, 0) 0 0 x31).2.1, (Ab ((x2.1, x6, x28), ([] : List (List Int)), ([] : List Int), 0, 0, 0, 0, 0, 0) 0 0 x31).2.2))))
noncomputable def Cr (x2 : Int × (List UInt8 × Int)) (x6 : List (Int × Int × Int × Int × Int × Int)) (x25 : List (Int × Int)) : (List UInt8 × Int × List (List Int)) → Option ((List UInt8 × Int × List (List Int)) ⊕ ((List UInt8 × Int × List (List Int)) ⊕ (((Int × (List (Int × Int × Int × Int × Int × Int)) × (List (Int × Int))) × List (List Int) × List Int × Int × Int × Int × Int × Int × Int) × Int × Int)))
  | (x41, x42, x43) => (Bi (x41, x42) ([119, 101, 105, 103, 104, 116, 115] : List UInt8)).bind fun x44 => B3 x44 (fun x45 => (if x45 = true then (BS (x41, x42) ([119, 101, 105, 103, 104, 116, 115] : List UInt8)).bind fun x47 => B3 x47 (fun x48 => (DB x43 ([x48.1] : List (List Int))).bind fun x50 => some (.inl (x48.2.1, x48.2.2, x50))) (fun x49 => some (.inr (.inr ((((Ab ((x2.1, x6, x25), x43, ([] : List Int), 0, 0, 0, 0, 0, 0) 0 0 x49.1).1.1.1, (Ab ((x2.1, x6, x25), x43, ([] : List Int), 0, 0, 0, 0, 0, 0) 0 0 x49.1).1.1.2.1, (Ab ((x2.1, x6, x25), x43, ([] : List Int), 0, 0, 0, 0, 0, 0) 0 0 x49.1).1.1.2.2), (Ab ((x2.1, x6, x25), x43, ([] : List Int), 0, 0, 0, 0, 0, 0) 0 0 x49.1).1.2.1, (Ab ((x2.1, x6, x25), x43, ([] : List Int), 0, 0, 0, 0, 0, 0) 0 0 x49.1).1.2.2.1, (Ab ((x2.1, x6, x25), x43, ([] : List Int), 0, 0, 0, 0, 0, 0) 0 0 x49.1).1.2.2.2.1, (Ab ((x2.1, x6, x25), x43, ([] : List Int), 0, 0, 0, 0, 0, 0) 0 0 x49.1).1.2.2.2.2.1, (Ab ((x2.1, x6, x25), x43, ([] : List Int), 0, 0, 0, 0, 0, 0) 0 0 x49.1).1.2.2.2.2.2.1, (Ab ((x2.1, x6, x25), x43, ([] : List Int), 0, 0, 0, 0, 0, 0) 0 0 x49.1).1.2.2.2.2.2.2.1, (Ab ((x2.1, x6, x25), x43, ([] : List Int), 0, 0, 0, 0, 0, 0) 0 0 x49.1).1.2.2.2.2.2.2.2.1, (Ab ((x2.1, x6, x25), x43, ([] : List Int), 0, 0, 0, 0, 0, 0) 0 0 x49.1).1.2.2.2.2.2.2.2.2), (Ab ((x2.1, x6, x25), x43, ([] : List Int), 0, 0, 0, 0, 0, 0) 0 0 x49.1).2.1, (Ab ((x2.1, x6, x25), x43, ([] : List Int), 0, 0, 0, 0, 0, 0) 0 0 x49.1).2.2)))) else some (.inr (.inl (x41, x42, x43))))) (fun x46 => some (.inr (.inr ((((Ab ((x2.1, x6, x25), x43, ([] : List Int), 0, 0, 0, 0, 0, 0) 0 0 x46).1.1.1, (Ab ((x2.1, x6, x25), x43, ([] : List Int), 0, 0, 0, 0, 0, 0) 0 0 x46).1.1.2.1, (Ab ((x2.1, x6, x25), x43, ([] : List Int), 0, 0, 0, 0, 0, 0) 0 0 x46).1.1.2.2), (Ab ((x2.1, x6, x25), x43, ([] : List Int), 0, 0, 0, 0, 0, 0) 0 0 x46).1.2.1, (Ab ((x2.1, x6, x25), x43, ([] : List Int), 0, 0, 0, 0, 0, 0) 0 0 x46).1.2.2.1, (Ab ((x2.1, x6, x25), x43, ([] : List Int), 0, 0, 0, 0, 0, 0) 0 0 x46).1.2.2.2.1, (Ab ((x2.1, x6, x25), x43, ([] : List Int), 0, 0, 0, 0, 0, 0) 0 0 x46).1.2.2.2.2.1, (Ab ((x2.1, x6, x25), x43, ([] : List Int), 0, 0, 0, 0, 0, 0) 0 0 x46).1.2.2.2.2.2.1, (Ab ((x2.1, x6, x25), x43, ([] : List Int), 0, 0, 0, 0, 0, 0) 0 0 x46).1.2.2.2.2.2.2.1, (Ab ((x2.1, x6, x25), x43, ([] : List Int), 0, 0, 0, 0, 0, 0) 0 0 x46).1.2.2.2.2.2.2.2.1, (Ab ((x2.1, x6, x25), x43, ([] : List Int), 0, 0, 0, 0, 0, 0) 0 0 x46).1.2.2.2.2.2.2.2.2), (Ab ((x2.1, x6, x25), x43, ([] : List Int), 0, 0, 0, 0, 0, 0) 0 0 x46).2.1, (Ab ((x2.1, x6, x25), x43, ([] : List Int), 0, 0, 0, 0, 0, 0) 0 0 x46).2.2))))
noncomputable def CS (p0 : List UInt8) : Option (((Int × (List (Int × Int × Int × Int × Int × Int)) × (List (Int × Int))) × List (List Int) × List Int × Int × Int × Int × Int × Int × Int) × Int × Int) := (AG (p0, 1) ([115, 119, 105, 116, 99, 104, 101, 115] : List UInt8)).bind fun x1 => B3 x1 (fun x2 => Es (BB (Ct x2) (x2.2.1, x2.2.2, [])) fun (x4, x5, x6) => Es (BB (Cq x2 x6) (x4, x5, [])) fun (x23, x24, x25) => Es (BB (Cr x2 x6 x25) (x23, x24, [])) fun (x38, x39, x40) => (AJ (x38, x39) ([115, 116, 97, 114, 116, 115] : List UInt8) (-1)).bind fun x51 => B3 x51 (fun x52 => (AG x52.2 ([114, 97, 116, 101] : List UInt8)).bind fun x54 => B3 x54 (fun x55 => (AG x55.2 ([114, 111, 111, 109] : List UInt8)).bind fun x57 => B3 x57 (fun x58 => (AG x58.2 ([119, 105, 100, 101] : List UInt8)).bind fun x60 => B3 x60 (fun x61 => (AG x61.2 ([108, 101, 97, 100] : List UInt8)).bind fun x63 => B3 x63 (fun x64 => (AG x64.2 ([109, 97, 114, 103, 105, 110] : List UInt8)).bind fun x66 => B3 x66 (fun x67 => (AG x67.2 ([114, 101, 116, 114, 121] : List UInt8)).bind fun x69 => B3 x69 (fun x70 => (some (CG x70.2)).bind fun x72 => B3 x72 (fun x73 => some (((((x2.1, x6, x25), x40, x52.1, x55.1, x58.1, x61.1, x64.1, x67.1, x70.1).1.1, ((x2.1, x6, x25), x40, x52.1, x55.1, x58.1, x61.1, x64.1, x67.1, x70.1).1.2.1, ((x2.1, x6, x25), x40, x52.1, x55.1, x58.1, x61.1, x64.1, x67.1, x70.1).1.2.2), ((x2.1, x6, x25), x40, x52.1, x55.1, x58.1, x61.1, x64.1, x67.1, x70.1).2.1, ((x2.1, x6, x25), x40, x52.1, x55.1, x58.1, x61.1, x64.1, x67.1, x70.1).2.2.1, ((x2.1, x6, x25), x40, x52.1, x55.1, x58.1, x61.1, x64.1, x67.1, x70.1).2.2.2.1, ((x2.1, x6, x25), x40, x52.1, x55.1, x58.1, x61.1, x64.1, x67.1, x70.1).2.2.2.2.1, ((x2.1, x6, x25), x40, x52.1, x55.1, x58.1, x61.1, x64.1, x67.1, x70.1).2.2.2.2.2.1, ((x2.1, x6, x25), x40, x52.1, x55.1, x58.1, x61.1, x64.1, x67.1, x70.1).2.2.2.2.2.2.1, ((x2.1, x6, x25), x40, x52.1, x55.1, x58.1, x61.1, x64.1, x67.1, x70.1).2.2.2.2.2.2.2.1, ((x2.1, x6, x25), x40, x52.1, x55.1, x58.1, x61.1, x64.1, x67.1, x70.1).2.2.2.2.2.2.2.2), 0, 0)) (fun x74 => some ((((Ab ((x2.1, x6, x25), x40, x52.1, x55.1, x58.1, x61.1, x64.1, x67.1, x70.1) 0 0 x74).1.1.1, (Ab ((x2.1, x6, x25), x40, x52.1, x55.1, x58.1, x61.1, x64.1, x67.1, x70.1) 0 0 x74).1.1.2.1, (Ab ((x2.1, x6, x25), x40, x52.1, x55.1, x58.1, x61.1, x64.1, x67.1, x70.1) 0 0 x74).1.1.2.2), (Ab ((x2.1, x6, x25), x40, x52.1, x55.1, x58.1, x61.1, x64.1, x67.1, x70.1) 0 0 x74).1.2.1, (Ab ((x2.1, x6, x25), x40, x52.1, x55.1, x58.1, x61.1, x64.1, x67.1, x70.1) 0 0 x74).1.2.2.1, (Ab ((x2.1, x6, x25), x40, x52.1, x55.1, x58.1, x61.1, x64.1, x67.1, x70.1) 0 0 x74).1.2.2.2.1, (Ab ((x2.1, x6, x25), x40, x52.1, x55.1, x58.1, x61.1, x64.1, x67.1, x70.1) 0 0 x74).1.2.2.2.2.1, (Ab ((x2.1, x6, x25), x40, x52.1, x55.1, x58.1, x61.1, x64.1, x67.1, x70.1) 0 0 x74).1.2.2.2.2.2.1, (Ab ((x2.1, x6, x25), x40, x52.1, x55.1, x58.1, x61.1, x64.1, x67.1, x70.1) 0 0 x74).1.2.2.2.2.2.2.1, (Ab ((x2.1, x6, x25), x40, x52.1, x55.1, x58.1, x61.1, x64.1, x67.1, x70.1) 0 0 x74).1.2.2.2.2.2.2.2.1, (Ab ((x2.1, x6, x25), x40, x52.1, x55.1, x58.1, x61.1, x64.1, x67.1, x70.1) 0 0 x74).1.2.2.2.2.2.2.2.2), (Ab ((x2.1, x6, x25), x40, x52.1, x55.1, x58.1, x61.1, x64.1, x67.1, x70.1) 0 0 x74).2.1, (Ab ((x2.1, x6, x25), x40, x52.1, x55.1, x58.1, x61.1, x64.1, x67.1, x70.1) 0 0 x74).2.2))) (fun x71 => some ((((Ab ((x2.1, x6, x25), x40, x52.1, x55.1, x58.1, x61.1, x64.1, x67.1, 0) 0 0 x71.1).1.1.1, (Ab ((x2.1, x6, x25), x40, x52.1, x55.1, x58.1, x61.1, x64.1, x67.1, 0) 0 0 x71.1).1.1.2.1, (Ab ((x2.1, x6, x25), x40, x52.1, x55.1, x58.1, x61.1, x64.1, x67.1, 0) 0 0 x71.1).1.1.2.2), (Ab ((x2.1, x6, x25), x40, x52.1, x55.1, x58.1, x61.1, x64.1, x67.1, 0) 0 0 x71.1).1.2.1, (Ab ((x2.1, x6, x25), x40, x52.1, x55.1, x58.1, x61.1, x64.1, x67.1, 0) 0 0 x71.1).1.2.2.1, (Ab ((x2.1, x6, x25), x40, x52.1, x55.1, x58.1, x61.1, x64.1, x67.1, 0) 0 0 x71.1).1.2.2.2.1, (Ab ((x2.1, x6, x25), x40, x52.1, x55.1, x58.1, x61.1, x64.1, x67.1, 0) 0 0 x71.1).1.2.2.2.2.1, (Ab ((x2.1, x6, x25), x40, x52.1, x55.1, x58.1, x61.1, x64.1, x67.1, 0) 0 0 x71.1).1.2.2.2.2.2.1, (Ab ((x2.1, x6, x25), x40, x52.1, x55.1, x58.1, x61.1, x64.1, x67.1, 0) 0 0 x71.1).1.2.2.2.2.2.2.1, (Ab ((x2.1, x6, x25), x40, x52.1, x55.1, x58.1, x61.1, x64.1, x67.1, 0) 0 0 x71.1).1.2.2.2.2.2.2.2.1, (Ab ((x2.1, x6, x25), x40, x52.1, x55.1, x58.1, x61.1, x64.1, x67.1, 0) 0 0 x71.1).1.2.2.2.2.2.2.2.2), (Ab ((x2.1, x6, x25), x40, x52.1, x55.1, x58.1, x61.1, x64.1, x67.1, 0) 0 0 x71.1).2.1, (Ab ((x2.1, x6, x25), x40, x52.1, x55.1, x58.1, x61.1, x64.1, x67.1, 0) 0 0 x71.1).2.2))) (fun x68 => some ((((Ab ((x2.1, x6, x25), x40, x52.1, x55.1, x58.1, x61.1, x64.1, 0, 0) 0 0 x68.1).1.1.1, (Ab ((x2.1, x6, x25), x40, x52.1, x55.1, x58.1, x61.1, x64.1, 0, 0) 0 0 x68.1).1.1.2.1, (Ab ((x2.1, x6, x25), x40, x52.1, x55.1, x58.1, x61.1, x64.1, 0, 0) 0 0 x68.1).1.1.2.2), (Ab ((x2.1, x6, x25), x40, x52.1, x55.1, x58.1, x61.1, x64.1, 0, 0) 0 0 x68.1).1.2.1, (Ab ((x2.1, x6, x25), x40, x52.1, x55.1, x58.1, x61.1, x64.1, 0, 0) 0 0 x68.1).1.2.2.1, (Ab ((x2.1, x6, x25), x40, x52.1, x55.1, x58.1, x61.1, x64.1, 0, 0) 0 0 x68.1).1.2.2.2.1, (Ab ((x2.1, x6, x25), x40, x52.1, x55.1, x58.1, x61.1, x64.1, 0, 0) 0 0 x68.1).1.2.2.2.2.1, (Ab ((x2.1, x6, x25), x40, x52.1, x55.1, x58.1, x61.1, x64.1, 0, 0) 0 0 x68.1).1.2.2.2.2.2.1, (Ab ((x2.1, x6, x25), x40, x52.1, x55.1, x58.1, x61.1, x64.1, 0, 0) 0 0 x68.1).1.2.2.2.2.2.2.1, (Ab ((x2.1, x6, x25), x40, x52.1, x55.1, x58.1, x61.1, x64.1, 0, 0) 0 0 x68.1).1.2.2.2.2.2.2.2.1, (Ab ((x2.1, x6, x25), x40, x52.1, x55.1, x58.1, x61.1, x64.1, 0, 0) 0 0 x68.1).1.2.2.2.2.2.2.2.2), (Ab ((x2.1, x6, x25), x40, x52.1, x55.1, x58.1, x61.1, x64.1, 0, 0) 0 0 x68.1).2.1, (Ab ((x2.1, x6, x25), x40, x52.1, x55.1, x58.1, x61.1, x64.1, 0, 0) 0 0 x68.1).2.2))) (fun x65 => some ((((Ab ((x2.1, x6, x25), x40, x52.1, x55.1, x58.1, x61.1, 0, 0, 0) 0 0 x65.1).1.1.1, (Ab ((x2.1, x6, x25), x40, x52.1, x55.1, x58.1, x61.1, 0, 0, 0) 0 0 x65.1).1.1.2.1, (Ab ((x2.1, x6, x25), x40, x52.1, x55.1, x58.1, x61.1, 0, 0, 0) 0 0 x65.1).1.1.2.2), (Ab ((x2.1, x6, x25), x40, x52.1, x55.1, x58.1, x61.1, 0, 0, 0) 0 0 x65.1).1.2.1, (Ab ((x2.1, x6, x25), x40, x52.1, x55.1, x58.1, x61.1, 0, 0, 0) 0 0 x65.1).1.2.2.1, (Ab ((x2.1, x6, x25), x40, x52.1, x55.1, x58.1, x61.1, 0, 0, 0) 0 0 x65.1).1.2.2.2.1, (Ab ((x2.1, x6, x25), x40, x52.1, x55.1, x58.1, x61.1, 0, 0, 0) 0 0 x65.1).1.2.2.2.2.1, (Ab ((x2.1, x6, x25), x40, x52.1, x55.1, x58.1, x61.1, 0, 0, 0) 0 0 x65.1).1.2.2.2.2.2.1, (Ab ((x2.1, x6, x25), x40, x52.1, x55.1, x58.1, x61.1, 0, 0, 0) 0 0 x65.1).1.2.2.2.2.2.2.1, (Ab ((x2.1, x6, x25), x40, x52.1, x55.1, x58.1, x61.1, 0, 0, 0) 0 0 x65.1).1.2.2.2.2.2.2.2.1, (Ab ((x2.1, x6, x25), x40, x52.1, x55.1, x58.1, x61.1, 0, 0, 0) 0 0 x65.1).1.2.2.2.2.2.2.2.2), (Ab ((x2.1, x6, x25), x40, x52.1, x55.1, x58.1, x61.1, 0, 0, 0) 0 0 x65.1).2.1, (Ab ((x2.1, x6, x25), x40, x52.1, x55.1, x58.1, x61.1, 0, 0, 0) 0 0 x65.1).2.2))) (fun x62 => some ((((Ab ((x2.1, x6, x25), x40, x52.1, x55.1, x58.1, 0, 0, 0, 0) 0 0 x62.1).1.1.1, (Ab ((x2.1, x6, x25), x40, x52.1, x55.1, x58.1, 0, 0, 0, 0) 0 0 x62.1).1.1.2.1, (Ab ((x2.1, x6, x25), x40, x52.1, x55.1, x58.1, 0, 0, 0, 0) 0 0 x62.1).1.1.2.2), (Ab ((x2.1, x6, x25), x40, x52.1, x55.1, x58.1, 0, 0, 0, 0) 0 0 x62.1).1.2.1, (Ab ((x2.1, x6, x25), x40, x52.1, x55.1, x58.1, 0, 0, 0, 0) 0 0 x62.1).1.2.2.1, (Ab ((x2.1, x6, x25), x40, x52.1, x55.1, x58.1, 0, 0, 0, 0) 0 0 x62.1).1.2.2.2.1, (Ab ((x2.1, x6, x25), x40, x52.1, x55.1, x58.1, 0, 0, 0, 0) 0 0 x62.1).1.2.2.2.2.1, (Ab ((x2.1, x6, x25), x40, x52.1, x55.1, x58.1, 0, 0, 0, 0) 0 0 x62.1).1.2.2.2.2.2.1, (Ab ((x2.1, x6, x25), x40, x52.1, x55.1, x58.1, 0, 0, 0, 0) 0 0 x62.1).1.2.2.2.2.2.2.1, (Ab ((x2.1, x6, x25), x40, x52.1, x55.1, x58.1, 0, 0, 0, 0) 0 0 x62.1).1.2.2.2.2.2.2.2.1, (Ab ((x2.1, x6, x25), x40, x52.1, x55.1, x58.1, 0, 0, 0, 0) 0 0 x62.1).1.2.2.2.2.2.2.2.2), (Ab ((x2.1, x6, x25), x40, x52.1, x55.1, x58.1, 0, 0, 0, 0) 0 0 x62.1).2.1, (Ab ((x2.1, x6, x25), x40, x52.1, x55.1, x58.1, 0, 0, 0, 0) 0 0 x62.1).2.2))) (fun x59 => some ((((Ab ((x2.1, x6, x25), x40, x52.1, x55.1, 0, 0, 0, 0, 0) 0 0 x59.1).1.1.1, (Ab ((x2.1, x6, x25), x40, x52.1, x55.1, 0, 0, 0, 0, 0) 0 0 x59.1).1.1.2.1, (Ab ((x2.1, x6, x25), x40, x52.1, x55.1, 0, 0, 0, 0, 0) 0 0 x59.1).1.1.2.2), (Ab ((x2.1, x6, x25), x40, x52.1, x55.1, 0, 0, 0, 0, 0) 0 0 x59.1).1.2.1, (Ab ((x2.1, x6, x25), x40, x52.1, x55.1, 0, 0, 0, 0, 0) 0 0 x59.1).1.2.2.1, (Ab ((x2.1, x6, x25), x40, x52.1, x55.1, 0, 0, 0, 0, 0) 0 0 x59.1).1.2.2.2.1, (Ab ((x2.1, x6, x25), x40, x52.1, x55.1, 0, 0, 0, 0, 0) 0 0 x59.1).1.2.2.2.2.1, (Ab ((x2.1, x6, x25), x40, x52.1, x55.1, 0, 0, 0, 0, 0) 0 0 x59.1).1.2.2.2.2.2.1, (Ab ((x2.1, x6, x25), x40, x52.1, x55.1, 0, 0, 0, 0, 0) 0 0 x59.1).1.2.2.2.2.2.2.1, (Ab ((x2.1, x6, x25), x40, x52.1, x55.1, 0, 0, 0, 0, 0) 0 0 x59.1).1.2.2.2.2.2.2.2.1, (Ab ((x2.1, x6, x25), x40, x52.1, x55.1, 0, 0, 0, 0, 0) 0 0 x59.1).1.2.2.2.2.2.2.2.2), (Ab ((x2.1, x6, x25), x40, x52.1, x55.1, 0, 0, 0, 0, 0) 0 0 x59.1).2.1, (Ab ((x2.1, x6, x25), x40, x52.1, x55.1, 0, 0, 0, 0, 0) 0 0 x59.1).2.2))) (fun x56 => some ((((Ab ((x2.1, x6, x25), x40, x52.1, 0, 0, 0, 0, 0, 0) 0 0 x56.1).1.1.1, (Ab ((x2.1, x6, x25), x40, x52.1, 0, 0, 0, 0, 0, 0) 0 0 x56.1).1.1.2.1, (Ab ((x2.1, x6, x25), x40, x52.1, 0, 0, 0, 0, 0, 0) 0 0 x56.1).1.1.2.2), (Ab ((x2.1, x6, x25), x40, x52.1, 0, 0, 0, 0, 0, 0) 0 0 x56.1).1.2.1, (Ab ((x2.1, x6, x25), x40, x52.1, 0, 0, 0, 0, 0, 0) 0 0 x56.1).1.2.2.1, (Ab ((x2.1, x6, x25), x40, x52.1, 0, 0, 0, 0, 0, 0) 0 0 x56.1).1.2.2.2.1, (Ab ((x2.1, x6, x25), x40, x52.1, 0, 0, 0, 0, 0, 0) 0 0 x56.1).1.2.2.2.2.1, (Ab ((x2.1, x6, x25), x40, x52.1, 0, 0, 0, 0, 0, 0) 0 0 x56.1).1.2.2.2.2.2.1, (Ab ((x2.1, x6, x25), x40, x52.1, 0, 0, 0, 0, 0, 0) 0 0 x56.1).1.2.2.2.2.2.2.1, (Ab ((x2.1, x6, x25), x40, x52.1, 0, 0, 0, 0, 0, 0) 0 0 x56.1).1.2.2.2.2.2.2.2.1, (Ab ((x2.1, x6, x25), x40, x52.1, 0, 0, 0, 0, 0, 0) 0 0 x56.1).1.2.2.2.2.2.2.2.2), (Ab ((x2.1, x6, x25), x40, x52.1, 0, 0, 0, 0, 0, 0) 0 0 x56.1).2.1, (Ab ((x2.1, x6, x25), x40, x52.1, 0, 0, 0, 0, 0, 0) 0 0 x56.1).2.2))) (fun x53 => some ((((Ab ((x2.1, x6, x25), x40, ([] : List Int), 0, 0, 0, 0, 0, 0) 0 0 x53.1).1.1.1, (Ab ((x2.1, x6, x25), x40, ([] : List Int), 0, 0, 0, 0, 0, 0) 0 0 x53.1).1.1.2.1, (Ab ((x2.1, x6, x25), x40, ([] : List Int), 0, 0, 0, 0, 0, 0) 0 0 x53.1).1.1.2.2), (Ab ((x2.1, x6, x25), x40, ([] : List Int), 0, 0, 0, 0, 0, 0) 0 0 x53.1).1.2.1, (Ab ((x2.1, x6, x25), x40, ([] : List Int), 0, 0, 0, 0, 0, 0) 0 0 x53.1).1.2.2.1, (Ab ((x2.1, x6, x25), x40, ([] : List Int), 0, 0, 0, 0, 0, 0) 0 0 x53.1).1.2.2.2.1, (Ab ((x2.1, x6, x25), x40, ([] : List Int), 0, 0, 0, 0, 0, 0) 0 0 x53.1).1.2.2.2.2.1, (Ab ((x2.1, x6, x25), x40, ([] : List Int), 0, 0, 0, 0, 0, 0) 0 0 x53.1).1.2.2.2.2.2.1, (Ab ((x2.1, x6, x25), x40, ([] : List Int), 0, 0, 0, 0, 0, 0) 0 0 x53.1).1.2.2.2.2.2.2.1, (Ab ((x2.1, x6, x25), x40, ([] : List Int), 0, 0, 0, 0, 0, 0) 0 0 x53.1).1.2.2.2.2.2.2.2.1, (Ab ((x2.1, x6, x25), x40, ([] : List Int), 0, 0, 0, 0, 0, 0) 0 0 x53.1).1.2.2.2.2.2.2.2.2), (Ab ((x2.1, x6, x25), x40, ([] : List Int), 0, 0, 0, 0, 0, 0) 0 0 x53.1).2.1, (Ab ((x2.1, x6, x25), x40, ([] : List Int), 0, 0, 0, 0, 0, 0) 0 0 x53.1).2.2))) (fun x3 => some ((((Ab ((0, ([] : List (Int × Int × Int × Int × Int × Int)), ([] : List (Int × Int))), ([] : List (List Int)), ([] : List Int), 0, 0, 0, 0, 0, 0) 0 0 x3.1).1.1.1, (Ab ((0, ([] : List (Int × Int × Int × Int × Int × Int)), ([] : List (Int × Int))), ([] : List (List Int)), ([] : List Int), 0, 0, 0, 0, 0, 0) 0 0 x3.1).1.1.2.1, (Ab ((0, ([] : List (Int × Int × Int × Int × Int × Int)), ([] : List (Int × Int))), ([] : List (List Int)), ([] : List Int), 0, 0, 0, 0, 0, 0) 0 0 x3.1).1.1.2.2), (Ab ((0, ([] : List (Int × Int × Int × Int × Int × Int)), ([] : List (Int × Int))), ([] : List (List Int)), ([] : List Int), 0, 0, 0, 0, 0, 0) 0 0 x3.1).1.2.1, (Ab ((0, ([] : List (Int × Int × Int × Int × Int × Int)), ([] : List (Int × Int))), ([] : List (List Int)), ([] : List Int), 0, 0, 0, 0, 0, 0) 0 0 x3.1).1.2.2.1, (Ab ((0, ([] : List (Int × Int × Int × Int × Int × Int)), ([] : List (Int × Int))), ([] : List (List Int)), ([] : List Int), 0, 0, 0, 0, 0, 0) 0 0 x3.1).1.2.2.2.1, (Ab ((0, ([] : List (Int × Int × Int × Int × Int × Int)), ([] : List (Int × Int))), ([] : List (List Int)), ([] : List Int), 0, 0, 0, 0, 0, 0) 0 0 x3.1).1.2.2.2.2.1, (Ab ((0, ([] : List (Int × Int × Int × Int × Int × Int)), ([] : List (Int × Int))), ([] : List (List Int)), ([] : List Int), 0, 0, 0, 0, 0, 0) 0 0 x3.1).1.2.2.2.2.2.1, (Ab ((0, ([] : List (Int × Int × Int × Int × Int × Int)), ([] : List (Int × Int))), ([] : List (List Int)), ([] : List Int), 0, 0, 0, 0, 0, 0) 0 0 x3.1).1.2.2.2.2.2.2.1, (Ab ((0, ([] : List (Int × Int × Int × Int × Int × Int)), ([] : List (Int × Int))), ([] : List (List Int)), ([] : List Int), 0, 0, 0, 0, 0, 0) 0 0 x3.1).1.2.2.2.2.2.2.2.1, (Ab ((0, ([] : List (Int × Int × Int × Int × Int × Int)), ([] : List (Int × Int))), ([] : List (List Int)), ([] : List Int), 0, 0, 0, 0, 0, 0) 0 0 x3.1).1.2.2.2.2.2.2.2.2), (Ab ((0, ([] : List (Int × Int × Int × Int × Int × Int)), ([] : List (Int × Int))), ([] : List (List Int)), ([] : List Int), 0, 0, 0, 0, 0, 0) 0 0 x3.1).2.1, (Ab ((0, ([] : List (Int × Int × Int × Int × Int × Int)), ([] : List (Int × Int))), ([] : List (List Int)), ([] : List Int), 0, 0, 0, 0, 0, 0) 0 0 x3.1).2.2))
theorem FX (Y : Nat → Prop) (w0 : World)  (p0 : List UInt8) (r : ((Int × (List (Int × Int × Int × Int × Int × Int)) × (List (Int × Int))) × List (List Int) × List Int × Int × Int × Int × Int × Int × Int) × Int × Int) (H : CS p0 = some r) (hG : Gk [] w0) :
    Calls Tryd.prog 9 #[.string (bs p0)] w0 fun e w' => ∃ x : Value × Value × Value × Value, e = .returned (.tuple #[.agg #[.int .i64 r.1.1.1, x.1, x.2.1, x.2.2.1, x.2.2.2, .int .i64 r.1.2.2.2.1, .int .i64 r.1.2.2.2.2.1, .int .i64 r.1.2.2.2.2.2.1, .int .i64 r.1.2.2.2.2.2.2.1, .int .i64 r.1.2.2.2.2.2.2.2.1, .int .i64 r.1.2.2.2.2.2.2.2.2], .int .i64 r.2.1, .int .i64 r.2.2]) ∧ Stw ⟨Y, [], w0⟩ [] [row (x.1) 41 Bu r.1.1.2.1, row (x.2.1) 43 BC r.1.1.2.2, row (x.2.2.1) 39 (Rp.slice (Rp.int .u64)) r.1.2.1, row (x.2.2.2) 3 (Rp.int .i64) r.1.2.2.1] w' := by
 refine MD Tryd.func9 Aa Tryd.ntmps9 Aa fun a W => ?_
 have F := Stw.start Y w0
 unfold CS at H
 refine Aj (Ac ?_)
 refine Ep (cs := (FD)) W F Aa Nn Aa fun b1 a w W F => ?_
 refine Ep (cs := [.int .i64 0]) W F Aa Z3 Aa fun b2 a w W F => ?_
 refine Ep (cs := [.int .i64 0]) W F Aa Oq Aa fun b3 a w W F => ?_
 refine Af (Ad (Aj (Ac ?_)))
 refine ls W F Aa (Jl (us := []) (vs := [.pointer (some ⟨b1, 0, none⟩), .pointer (some ⟨b2, 0, none⟩), .pointer (some ⟨b3, 0, none⟩)]) W Aa Aa).q fun a w W F => ?_
 refine LW (vs := [.pointer (some ⟨b1, 0, none⟩), .pointer (some ⟨b2, 0, none⟩), .pointer (some ⟨b3, 0, none⟩)]) W Aa fun a W => ?_
 refine Af (Ad (Aj (Ac ?_)))
 refine ls W F Aa (Ae W Aa).q fun a w W F => ?_
 refine ls W F Aa (EU (v := Value.agg #[.string (bs p0), .int .i64 1]) Oy W Aa Aa Aa).q fun a w W F => ?_
 refine JB (cs := [.string (bs p0), .int .i64 1]) W F Aa Aa Aa fun b4 a w W F => ?_
 refine ls W F Aa (Ag W Aa).q fun a w W F => ?_
 refine Af (Ad (Aj (Ac ?_)))
 refine ls W F Aa (Ae W Aa).q fun a w W F => ?_
 obtain ⟨x1, h1, H⟩ := An H
 rcases x1 with x2 | x3
 ·
  have H := EG H
  refine AE (Ml := [(b4, [.string (bs p0), .int .i64 1])]) (Zl := []) (M := (Mk b3 b2 b1)) (Z := []) (β := Unit) (rv := fun x => .int .i64 x2.1) (MM := fun x => [(b4, [.string (bs x2.2.1), .int .i64 x2.2.2])]) (ZZ := fun x => []) W F Jz Aa Aa (fun hL => Ay _ _ w b4 (p0, 1) ([115, 119, 105, 116, 99, 104, 101, 115] : List UInt8) _ h1 (hG.go F) hL) fun x a w W F => ?_
  have F : Stw ⟨Y, [], w0⟩ [(b4, [.string (bs x2.2.1), .int .i64 x2.2.2]), (b3, [.int .i64 0]), (b2, [.int .i64 0]), (b1, (FD))] [] w := F
  refine ls W F Aa (Ak CH Aa Aa Aa JC W Aa 0 Aa).q fun a w W F => ?_
  refine ls W F Aa (Ak F1 Aa Aa Aa T3 W Aa 0 Aa).q fun a w W F => ?_
  refine Ch (vs := [.int .i64 x2.1]) (M' := [(b4, [.string (bs x2.2.1), .int .i64 x2.2.2]), (b3, [.int .i64 0]), (b2, [.int .i64 0]), (b1, [.int .i64 x2.1, .slice none 0 0, .slice none 0 0, .slice none 0 0, .slice none 0 0, .int .i64 0, .int .i64 0, .int .i64 0, .int .i64 0, .int .i64 0, .int .i64 0])]) 3 W F Aa Aa Aa T3 Aa Aa Aa Aa Aa fun w F => ?_
  refine Af (Ad ?_)
  obtain ⟨o1, G1, K1, L1⟩ := IB H
  refine AX (fun a w => ∃ x4 : List UInt8, ∃ x5 : Int, ∃ x6 : List (Int × Int × Int × Int × Int × Int), ∃ v1 : Value, some (Sum.inl (x4, x5, x6)) = some o1 ∧ Fr 97 [{ target := .fn (.func 17) #[.pointer (some ⟨b1, 0, none⟩), .pointer (some ⟨b2, 0, none⟩), .pointer (some ⟨b3, 0, none⟩)], args := #[] }] [(2, .pointer (some ⟨b1, 0, none⟩)), (3, .pointer (some ⟨b2, 0, none⟩)), (4, .pointer (some ⟨b3, 0, none⟩)), (5, .pointer (some ⟨b4, 0, none⟩))] a ∧ Stw ⟨Y, [], w0⟩ [(b4, [.string (bs x4), .int .i64 x5]), (b3, [.int .i64 0]), (b2, [.int .i64 0]), (b1, (EP x2 v1))] [row v1 41 Bu x6] w) ?_ ?_
  ·
   have H := G1
   clear G1 K1
   refine AF ?_
   have F := F.nilRow 41 Bu
   have F := F.frontM (i := 3) Aa Aa
   have F := F.frontM (i := 3) Aa Aa
   have F := F.frontM (i := 3) Aa Aa
   have F := F.frontM (i := 3) Aa Aa
   refine CA H (fun s a w => ∃ v2 : Value, Fr 97 [{ target := .fn (.func 17) #[.pointer (some ⟨b1, 0, none⟩), .pointer (some ⟨b2, 0, none⟩), .pointer (some ⟨b3, 0, none⟩)], args := #[] }] [(2, .pointer (some ⟨b1, 0, none⟩)), (3, .pointer (some ⟨b2, 0, none⟩)), (4, .pointer (some ⟨b3, 0, none⟩)), (5, .pointer (some ⟨b4, 0, none⟩))] a ∧ Stw ⟨Y, [], w0⟩ [(b4, [.string (bs s.1), .int .i64 s.2.1]), (b3, [.int .i64 0]), (b2, [.int .i64 0]), (b1, (EP x2 v2))] [row v2 41 Bu s.2.2] w) ⟨(Value.slice none 0 0), W.re ⟨rfl, Aa, Aa, Aa, trivial⟩, F⟩ fun s o a w H L2 hR => ?_
   obtain ⟨x7, x8, x9⟩ := s
   obtain ⟨v2, W, F⟩ := hR
   have W : Fr 97 [{ target := .fn (.func 17) #[.pointer (some ⟨b1, 0, none⟩), .pointer (some ⟨b2, 0, none⟩), .pointer (some ⟨b3, 0, none⟩)], args := #[] }] [(2, .pointer (some ⟨b1, 0, none⟩)), (3, .pointer (some ⟨b2, 0, none⟩)), (4, .pointer (some ⟨b3, 0, none⟩)), (5, .pointer (some ⟨b4, 0, none⟩))] a := W
   have F : Stw ⟨Y, [], w0⟩ [(b4, [.string (bs x7), .int .i64 x8]), (b3, [.int .i64 0]), (b2, [.int .i64 0]), (b1, (EP x2 v2))] [row v2 41 Bu x9] w := F
   rw [Ct] at H
   refine Aj (Aj (Ac ?_))
   refine ls W F Aa (Ae W Aa).q fun a w W F => ?_
   obtain ⟨x10, h2, H⟩ := An H
   rcases x10 with x11 | x12
   ·
    have H := EG H
    refine AE (Ml := []) (Zl := []) (M := [(b4, [.string (bs x7), .int .i64 x8]), (b3, [.int .i64 0]), (b2, [.int .i64 0]), (b1, (EP x2 v2))]) (Z := [row v2 41 Bu x9]) (β := Unit) (rv := fun x => .bool x11) (MM := fun x => []) (ZZ := fun x => []) W F MV Aa Aa (fun hL => BV _ w b4 (x7, x8) ([108, 105, 110, 107] : List UInt8) _ h2 (Fs F 0 Aa) (hG.go0 F)) fun x a w W F => ?_
    have F : Stw ⟨Y, [], w0⟩ [(b4, [.string (bs x7), .int .i64 x8]), (b3, [.int .i64 0]), (b2, [.int .i64 0]), (b1, (EP x2 v2))] [row v2 41 Bu x9] w := F
    refine Af (Ad ?_)
    refine AA W Aa (fun hb => ?_) fun hb => ?_
    ·
     have H := AZ hb H
     rw [hb] at W
     clear hb
     refine Ax (Ad (AF (Aj (Ac ?_))))
     refine ls W F Aa (Ae W Aa).q fun a w W F => ?_
     obtain ⟨x13, h3, H⟩ := An H
     rcases x13 with x14 | x15
     ·
      have H := EG H
      refine AE (Ml := [(b4, [.string (bs x7), .int .i64 x8])]) (Zl := []) (M := (Mq b3 b2 b1 x2 v2)) (Z := [row v2 41 Bu x9]) (β := Value) (rv := fun x => x) (MM := fun x => [(b4, [.string (bs x14.2.1), .int .i64 x14.2.2])]) (ZZ := fun x => [row x 3 (Rp.int .i64) x14.1]) W F Mo Aa Aa (fun hL => Bm _ _ w b4 (x7, x8) ([108, 105, 110, 107] : List UInt8) 6 _ h3 (hG.go F) hL) fun x a w W F => ?_
      obtain ⟨v3, rfl⟩ : ∃ y, y = x := ⟨x, rfl⟩
      have F : Stw ⟨Y, [], w0⟩ [(b4, [.string (bs x14.2.1), .int .i64 x14.2.2]), (b3, [.int .i64 0]), (b2, [.int .i64 0]), (b1, (EP x2 v2))] [row v3 3 (Rp.int .i64) x14.1, row v2 41 Bu x9] w := F
      refine ls W F Aa (Ag W Aa).q fun a w W F => ?_
      refine Af (Ad ?_)
      refine GC [(true, 0), (true, 1), (true, 2), (true, 3), (true, 4), (true, 5), (true, 6), (true, 7), (true, 8), (true, 9), (true, 10), (true, 11), (true, 12), (true, 13), (true, 14), (true, 15), (true, 16), (true, 17), (true, 18), (true, 19), (true, 20), (true, 21), (false, 22), (false, 23), (true, 24), (true, 25), (false, 26)] (CN ⟨Y, [], w0⟩ [(some 23, b1, [.int .i64 x2.1, v2, .slice none 0 0, .slice none 0 0, .slice none 0 0, .int .i64 0, .int .i64 0, .int .i64 0, .int .i64 0, .int .i64 0, .int .i64 0])] [(some 22, row v3 3 (Rp.int .i64) x14.1)]) (fun i o hi ch a v w h => Jp (fn := Tryd.f9) Aa (by kernel_rfl) hi h) MO (by kernel_rfl) F (fun w F => ⟨_, _, F, (BW (fun _ => (.tail _ (.tail _ (.tail _ (.head _))))) BU), (BW (fun _ => (.head _)) BU)⟩) fun w F => ?_
      refine C5 (R := []) W Aa Aa (yC fun M Z hN hZ => Ak CH Aa Aa Aa JC W Aa 0 Aa) Aa Aa fun a W => ?_
      refine C5 (R := []) W Aa Aa (yC fun M Z hN hZ => Ak F1 Aa Aa Aa Ls W Aa 1 Aa) Aa Aa fun a W => ?_
      refine C5 (R := [23]) W Aa Aa (yC fun M Z hN hZ => Hf (cs := (EP x2 v2)) (v := v2) W Aa (hN ((some 23), b1, (EP x2 v2)) (.head _) Aa) Ls Aa) (by kernel_rfl) Aa fun a W => ?_
      refine C5 (R := []) W Aa Aa (yC fun M Z hN hZ => Ae W Aa) Aa Aa fun a W => ?_
      obtain ⟨x16, h4, H⟩ := An H
      refine C5 (R := []) W Aa Aa (yC fun M Z hN hZ => D4 (r := (Rp.int .i64)) GZ W Aa Aa (GM F (AO 0 Aa)) h4) Aa Aa fun a W => ?_
      refine C5 (R := [22, 21]) W Aa Aa (yC fun M Z hN hZ => A3 (y := Value.int .i64 x16) (j := 0) (i := 0) W Aa Aa (D0 (hZ ((some 22), row v3 3 (Rp.int .i64) x14.1) (.head _) Aa)) h4 Fl.int.to T3 Aa) (by kernel_rfl) Aa fun a W => ?_
      refine C5 (R := []) W Aa Aa (yC fun M Z hN hZ => Ae W Aa) Aa Aa fun a W => ?_
      obtain ⟨x17, h5, H⟩ := An H
      refine C5 (R := []) W Aa Aa (yC fun M Z hN hZ => D4 (r := (Rp.int .i64)) GZ W Aa Aa (GM F (AO 0 Aa)) h5) Aa Aa fun a W => ?_
      refine C5 (R := [22, 21]) W Aa Aa (yC fun M Z hN hZ => A3 (y := Value.int .i64 x17) (j := 0) (i := 1) W Aa Aa (D0 (hZ ((some 22), row v3 3 (Rp.int .i64) x14.1) (.head _) Aa)) h5 Fl.int.to T3 Aa) (by kernel_rfl) Aa fun a W => ?_
      refine C5 (R := []) W Aa Aa (yC fun M Z hN hZ => Ae W Aa) Aa Aa fun a W => ?_
      obtain ⟨x18, h6, H⟩ := An H
      refine C5 (R := []) W Aa Aa (yC fun M Z hN hZ => D4 (r := (Rp.int .i64)) GZ W Aa Aa (GM F (AO 0 Aa)) h6) Aa Aa fun a W => ?_
      refine C5 (R := [22, 21]) W Aa Aa (yC fun M Z hN hZ => A3 (y := Value.int .i64 x18) (j := 0) (i := 2) W Aa Aa (D0 (hZ ((some 22), row v3 3 (Rp.int .i64) x14.1) (.head _) Aa)) h6 Fl.int.to T3 Aa) (by kernel_rfl) Aa fun a W => ?_
      refine C5 (R := []) W Aa Aa (yC fun M Z hN hZ => Ae W Aa) Aa Aa fun a W => ?_
      obtain ⟨x19, h7, H⟩ := An H
      refine C5 (R := []) W Aa Aa (yC fun M Z hN hZ => D4 (r := (Rp.int .i64)) GZ W Aa Aa (GM F (AO 0 Aa)) h7) Aa Aa fun a W => ?_
      refine C5 (R := [22, 21]) W Aa Aa (yC fun M Z hN hZ => A3 (y := Value.int .i64 x19) (j := 0) (i := 3) W Aa Aa (D0 (hZ ((some 22), row v3 3 (Rp.int .i64) x14.1) (.head _) Aa)) h7 Fl.int.to T3 Aa) (by kernel_rfl) Aa fun a W => ?_
      refine C5 (R := []) W Aa Aa (yC fun M Z hN hZ => Ae W Aa) Aa Aa fun a W => ?_
      obtain ⟨x20, h8, H⟩ := An H
      refine C5 (R := []) W Aa Aa (yC fun M Z hN hZ => D4 (r := (Rp.int .i64)) GZ W Aa Aa (GM F (AO 0 Aa)) h8) Aa Aa fun a W => ?_
      refine C5 (R := [22, 21]) W Aa Aa (yC fun M Z hN hZ => A3 (y := Value.int .i64 x20) (j := 0) (i := 4) W Aa Aa (D0 (hZ ((some 22), row v3 3 (Rp.int .i64) x14.1) (.head _) Aa)) h8 Fl.int.to T3 Aa) (by kernel_rfl) Aa fun a W => ?_
      refine C5 (R := []) W Aa Aa (yC fun M Z hN hZ => Ae W Aa) Aa Aa fun a W => ?_
      obtain ⟨x21, h9, H⟩ := An H
      refine C5 (R := []) W Aa Aa (yC fun M Z hN hZ => D4 (r := (Rp.int .i64)) GZ W Aa Aa (GM F (AO 0 Aa)) h9) Aa Aa fun a W => ?_
      refine C5 (R := [22, 21]) W Aa Aa (yC fun M Z hN hZ => A3 (y := Value.int .i64 x21) (j := 0) (i := 5) W Aa Aa (D0 (hZ ((some 22), row v3 3 (Rp.int .i64) x14.1) (.head _) Aa)) h9 Fl.int.to T3 Aa) (by kernel_rfl) Aa fun a W => ?_
      refine C5 (R := []) W Aa Aa (yC fun M Z hN hZ => EU (v := Value.agg #[.int .i64 x16, .int .i64 x17, .int .i64 x18, .int .i64 x19, .int .i64 x20, .int .i64 x21]) Ou W Aa Aa Aa) Aa Aa fun a W => ?_
      refine HO Aa ?_
      refine D6 (z := Value.agg #[.int .i64 0, .int .i64 0, .int .i64 0, .int .i64 0, .int .i64 0, .int .i64 0]) (cs := [.int .i64 x16, .int .i64 x17, .int .i64 x18, .int .i64 x19, .int .i64 x20, .int .i64 x21]) Bu ([(x16, x17, x18, x19, x20, x21)] : List (Int × Int × Int × Int × Int × Int)) W F Aa MW Ob Aa Aa Aa Aa Aa Aa (Nl.repL _ _ ([(x16, x17, x18, x19, x20, x21)] : List (Int × Int × Int × Int × Int × Int))) fun v4 a w W F => ?_
      refine DV (N2 := []) (NZ2 := []) (N3 := [(some 23, b1, [.int .i64 x2.1, v2, .slice none 0 0, .slice none 0 0, .slice none 0 0, .int .i64 0, .int .i64 0, .int .i64 0, .int .i64 0, .int .i64 0, .int .i64 0])]) (NZ3 := [(some 22, row v3 3 (Rp.int .i64) x14.1)]) F Aa Aa (BW (fun _ => (.tail _ (.tail _ (.tail _ (.head _))))) BU) (BW (fun h => Df (by kernel_rfl) h) BU) ?_
      refine HO Aa ?_
      obtain ⟨x22, h10, H⟩ := An H
      refine Fx (r := Bu) (i := 2) W F Aa MW Aa Aa Aa Aa (Gc F 0 Aa) h10 Aa fun v5 a w W F => ?_
      have F : Stw ⟨Y, [], w0⟩ [(b4, [.string (bs x14.2.1), .int .i64 x14.2.2]), (b3, [.int .i64 0]), (b2, [.int .i64 0]), (b1, (EP x2 v2))] [row v5 41 Bu x22, row v4 41 Bu ([(x16, x17, x18, x19, x20, x21)] : List (Int × Int × Int × Int × Int × Int)), row v3 3 (Rp.int .i64) x14.1] w := F
      refine DV (N2 := []) (NZ2 := []) (N3 := [(some 23, b1, [.int .i64 x2.1, v2, .slice none 0 0, .slice none 0 0, .slice none 0 0, .int .i64 0, .int .i64 0, .int .i64 0, .int .i64 0, .int .i64 0, .int .i64 0])]) (NZ3 := [(some 22, row v3 3 (Rp.int .i64) x14.1)]) F Aa Aa (BW (fun h => Df (by kernel_rfl) h) BU) (BW (fun h => Df (by kernel_rfl) h) BU) ?_
      refine C5 (R := []) W Aa Aa (yC fun M Z hN hZ => Ak CH Aa Aa Aa JC W Aa 0 Aa) Aa Aa fun a W => ?_
      refine C5 (R := []) W Aa Aa (yC fun M Z hN hZ => Ak F1 Aa Aa Aa Ls W Aa 1 Aa) Aa Aa fun a W => ?_
      refine HO Aa ?_
      refine Ge (M' := [(b4, [.string (bs x14.2.1), .int .i64 x14.2.2]), (b3, [.int .i64 0]), (b2, [.int .i64 0]), (b1, (EP x2 v5))]) 3 W F Aa Aa Aa Ls (F.one (k := 0) Aa) Aa Aa fun w F => ?_
      refine DV (N2 := []) (NZ2 := []) (N3 := [(some 23, b1, [.int .i64 x2.1, v2, .slice none 0 0, .slice none 0 0, .slice none 0 0, .int .i64 0, .int .i64 0, .int .i64 0, .int .i64 0, .int .i64 0, .int .i64 0])]) (NZ3 := [(some 22, row v3 3 (Rp.int .i64) x14.1)]) F Aa Aa (BW (fun h => Df (by kernel_rfl) h) BU) (BW (fun h => Df (by kernel_rfl) h) BU) ?_
      refine Jw (Bk (Ad ?_))
      have F := F.frontM (i := 3) Aa Aa
      have F := F.frontM (i := 3) Aa Aa
      have F := F.frontM (i := 3) Aa Aa
      have F := F.frontM (i := 3) Aa Aa
      have F := F.sub (M' := [(b4, [.string (bs x14.2.1), .int .i64 x14.2.2]), (b3, [.int .i64 0]), (b2, [.int .i64 0]), (b1, (EP x2 v5))]) (Z' := [row v5 41 Bu x22]) (List.Sublist.refl _) (List.Sublist.cons_cons _ (List.nil_sublist _))
      exact ⟨_, H, (v5), W.re ⟨rfl, Aa, Aa, Aa, trivial⟩, F⟩
     have H := EF H
     refine BH (Ml := [(b4, [.string (bs x7), .int .i64 x8])]) (Zl := []) (M := (Mq b3 b2 b1 x2 v2)) (Z := [row v2 41 Bu x9]) (β := Unit) (pv := fun x => .iface 75 (.agg #[.int .i64 x15.1])) (MM := fun x => [(b4, [.string (bs x15.2.1), .int .i64 x15.2.2])]) (ZZ := fun x => []) W F Mo Aa (fun hL => Bm _ _ w b4 (x7, x8) ([108, 105, 110, 107] : List UInt8) 6 _ h3 (hG.go F) hL) fun x w F => ?_
     have F : Stw ⟨Y, [], w0⟩ [(b4, [.string (bs x15.2.1), .int .i64 x15.2.2]), (b3, [.int .i64 0]), (b2, [.int .i64 0]), (b1, (EP x2 v2))] [row v2 41 Bu x9] w := F
     refine Bp (CT (Bp (CT (Bp ?_))))
     refine BK W ?_
     have F := F.nilRow 43 BC
     have F := F.nilRow 39 (Rp.slice (Rp.int .u64))
     have F := F.nilRow 3 (Rp.int .i64)
     have F := F.frontZ (i := 1) Aa Aa
     have F := F.frontZ (i := 2) Aa Aa
     have F := F.frontZ (i := 3) Aa Aa
     have F := F.frontM (i := 1) Aa Aa
     have F := F.frontM (i := 2) Aa Aa
     have F := F.frontM (i := 3) Aa Aa
     refine C2 (Ml := (Mb b1 x2 v2 b2 b3)) (Zl := [row v2 41 Bu x9, row (Value.slice none 0 0) 43 BC ([] : List (Int × Int)), row (Value.slice none 0 0) 39 (Rp.slice (Rp.int .u64)) ([] : List (List Int)), row (Value.slice none 0 0) 3 (Rp.int .i64) ([] : List Int)]) (M := [(b4, [.string (bs x15.2.1), .int .i64 x15.2.2])]) (Z := []) (β := Value × Value × Value × Value) (u' := (.panicking ({ v := .iface 75 (.agg #[.int .i64 x15.1]), recovered := true } :: []))) (MM := fun x => [(b1, [.int .i64 ((Ab ((x2.1, x9, ([] : List (Int × Int))), ([] : List (List Int)), ([] : List Int), 0, 0, 0, 0, 0, 0) 0 0 x15.1).1.1.1), x.1, x.2.1, x.2.2.1, x.2.2.2, .int .i64 ((Ab ((x2.1, x9, ([] : List (Int × Int))), ([] : List (List Int)), ([] : List Int), 0, 0, 0, 0, 0, 0) 0 0 x15.1).1.2.2.2.1), .int .i64 ((Ab ((x2.1, x9, ([] : List (Int × Int))), ([] : List (List Int)), ([] : List Int), 0, 0, 0, 0, 0, 0) 0 0 x15.1).1.2.2.2.2.1), .int .i64 ((Ab ((x2.1, x9, ([] : List (Int × Int))), ([] : List (List Int)), ([] : List Int), 0, 0, 0, 0, 0, 0) 0 0 x15.1).1.2.2.2.2.2.1), .int .i64 ((Ab ((x2.1, x9, ([] : List (Int × Int))), ([] : List (List Int)), ([] : List Int), 0, 0, 0, 0, 0, 0) 0 0 x15.1).1.2.2.2.2.2.2.1), .int .i64 ((Ab ((x2.1, x9, ([] : List (Int × Int))), ([] : List (List Int)), ([] : List Int), 0, 0, 0, 0, 0, 0) 0 0 x15.1).1.2.2.2.2.2.2.2.1), .int .i64 ((Ab ((x2.1, x9, ([] : List (Int × Int))), ([] : List (List Int)), ([] : List Int), 0, 0, 0, 0, 0, 0) 0 0 x15.1).1.2.2.2.2.2.2.2.2)]), (b2, [.int .i64 ((Ab ((x2.1, x9, ([] : List (Int × Int))), ([] : List (List Int)), ([] : List Int), 0, 0, 0, 0, 0, 0) 0 0 x15.1).2.1)]), (b3, [.int .i64 ((Ab ((x2.1, x9, ([] : List (Int × Int))), ([] : List (List Int)), ([] : List Int), 0, 0, 0, 0, 0, 0) 0 0 x15.1).2.2)])]) (ZZ := fun x => [row x.1 41 Bu ((Ab ((x2.1, x9, ([] : List (Int × Int))), ([] : List (List Int)), ([] : List Int), 0, 0, 0, 0, 0, 0) 0 0 x15.1).1.1.2.1), row x.2.1 43 BC ((Ab ((x2.1, x9, ([] : List (Int × Int))), ([] : List (List Int)), ([] : List Int), 0, 0, 0, 0, 0, 0) 0 0 x15.1).1.1.2.2), row x.2.2.1 39 (Rp.slice (Rp.int .u64)) ((Ab ((x2.1, x9, ([] : List (Int × Int))), ([] : List (List Int)), ([] : List Int), 0, 0, 0, 0, 0, 0) 0 0 x15.1).1.2.1), row x.2.2.2 3 (Rp.int .i64) ((Ab ((x2.1, x9, ([] : List (Int × Int))), ([] : List (List Int)), ([] : List Int), 0, 0, 0, 0, 0, 0) 0 0 x15.1).1.2.2.1)]) F Jh (by simp) (fun hL => Aw _ _ w b1 (v2) (Value.slice none 0 0) (Value.slice none 0 0) (Value.slice none 0 0) b2 b3 ((x2.1, x9, ([] : List (Int × Int))), ([] : List (List Int)), ([] : List Int), 0, 0, 0, 0, 0, 0) 0 0 x15.1 _ Aa hL) fun x w F => ?_
     obtain ⟨v6, v7, v8, v9⟩ := x
     have F : Stw ⟨Y, [], w0⟩ [(b1, [.int .i64 ((Ab ((x2.1, x9, ([] : List (Int × Int))), ([] : List (List Int)), ([] : List Int), 0, 0, 0, 0, 0, 0) 0 0 x15.1).1.1.1), v6, v7, v8, v9, .int .i64 ((Ab ((x2.1, x9, ([] : List (Int × Int))), ([] : List (List Int)), ([] : List Int), 0, 0, 0, 0, 0, 0) 0 0 x15.1).1.2.2.2.1), .int .i64 ((Ab ((x2.1, x9, ([] : List (Int × Int))), ([] : List (List Int)), ([] : List Int), 0, 0, 0, 0, 0, 0) 0 0 x15.1).1.2.2.2.2.1), .int .i64 ((Ab ((x2.1, x9, ([] : List (Int × Int))), ([] : List (List Int)), ([] : List Int), 0, 0, 0, 0, 0, 0) 0 0 x15.1).1.2.2.2.2.2.1), .int .i64 ((Ab ((x2.1, x9, ([] : List (Int × Int))), ([] : List (List Int)), ([] : List Int), 0, 0, 0, 0, 0, 0) 0 0 x15.1).1.2.2.2.2.2.2.1), .int .i64 ((Ab ((x2.1, x9, ([] : List (Int × Int))), ([] : List (List Int)), ([] : List Int), 0, 0, 0, 0, 0, 0) 0 0 x15.1).1.2.2.2.2.2.2.2.1), .int .i64 ((Ab ((x2.1, x9, ([] : List (Int × Int))), ([] : List (List Int)), ([] : List Int), 0, 0, 0, 0, 0, 0) 0 0 x15.1).1.2.2.2.2.2.2.2.2)]), (b2, [.int .i64 ((Ab ((x2.1, x9, ([] : List (Int × Int))), ([] : List (List Int)), ([] : List Int), 0, 0, 0, 0, 0, 0) 0 0 x15.1).2.1)]), (b3, [.int .i64 ((Ab ((x2.1, x9, ([] : List (Int × Int))), ([] : List (List Int)), ([] : List Int), 0, 0, 0, 0, 0, 0) 0 0 x15.1).2.2)]), (b4, [.string (bs x15.2.1), .int .i64 x15.2.2])] [row v6 41 Bu ((Ab ((x2.1, x9, ([] : List (Int × Int))), ([] : List (List Int)), ([] : List Int), 0, 0, 0, 0, 0, 0) 0 0 x15.1).1.1.2.1), row v7 43 BC ((Ab ((x2.1, x9, ([] : List (Int × Int))), ([] : List (List Int)), ([] : List Int), 0, 0, 0, 0, 0, 0) 0 0 x15.1).1.1.2.2), row v8 39 (Rp.slice (Rp.int .u64)) ((Ab ((x2.1, x9, ([] : List (Int × Int))), ([] : List (List Int)), ([] : List Int), 0, 0, 0, 0, 0, 0) 0 0 x15.1).1.2.1), row v9 3 (Rp.int .i64) ((Ab ((x2.1, x9, ([] : List (Int × Int))), ([] : List (List Int)), ([] : List Int), 0, 0, 0, 0, 0, 0) 0 0 x15.1).1.2.2.1)] w := F
     have H := L2 _ H
     have H := L1 _ H
     have H := A2 H
     subst H
     refine C0 F Aa (AN 0 W Aa Aa Gv Aa) (AN 1 W Aa Aa T3 Aa) (AN 2 W Aa Aa IA Aa) ?_
     have F := F.frontZ (i := 3) Aa Aa
     have F := F.frontZ (i := 3) Aa Aa
     have F := F.frontZ (i := 3) Aa Aa
     have F := F.frontZ (i := 3) Aa Aa
     have F := F.sub (M' := []) (Z' := [row v6 41 Bu ((Ab ((x2.1, x9, ([] : List (Int × Int))), ([] : List (List Int)), ([] : List Int), 0, 0, 0, 0, 0, 0) 0 0 x15.1).1.1.2.1), row v7 43 BC ((Ab ((x2.1, x9, ([] : List (Int × Int))), ([] : List (List Int)), ([] : List Int), 0, 0, 0, 0, 0, 0) 0 0 x15.1).1.1.2.2), row v8 39 (Rp.slice (Rp.int .u64)) ((Ab ((x2.1, x9, ([] : List (Int × Int))), ([] : List (List Int)), ([] : List Int), 0, 0, 0, 0, 0, 0) 0 0 x15.1).1.2.1), row v9 3 (Rp.int .i64) ((Ab ((x2.1, x9, ([] : List (Int × Int))), ([] : List (List Int)), ([] : List Int), 0, 0, 0, 0, 0, 0) 0 0 x15.1).1.2.2.1)]) (List.nil_sublist _) (List.Sublist.refl _)
     exact ⟨((v6), (v7), (v8), (v9)), Aa, F⟩
    have H := AY (by rw [hb]; decide) H
    rw [hb] at W
    clear hb
    refine Ci ?_
    iterate 2 refine CM ?_
    refine Cj (Ad ?_)
    have F := F.frontM (i := 3) Aa Aa
    have F := F.frontM (i := 3) Aa Aa
    have F := F.frontM (i := 3) Aa Aa
    have F := F.frontM (i := 3) Aa Aa
    have H := L2 _ H
    exact ⟨_, _, _, (v2), H, W.re ⟨rfl, Aa, Aa, Aa, trivial⟩, F⟩
   have H := EF H
   refine BH (Ml := []) (Zl := []) (M := [(b4, [.string (bs x7), .int .i64 x8]), (b3, [.int .i64 0]), (b2, [.int .i64 0]), (b1, (EP x2 v2))]) (Z := [row v2 41 Bu x9]) (β := Unit) (pv := fun x => .iface 75 (.agg #[.int .i64 x12])) (MM := fun x => []) (ZZ := fun x => []) W F MV Aa (fun hL => BV _ w b4 (x7, x8) ([108, 105, 110, 107] : List UInt8) _ h2 (Fs F 0 Aa) (hG.go0 F)) fun x w F => ?_
   have F : Stw ⟨Y, [], w0⟩ [(b4, [.string (bs x7), .int .i64 x8]), (b3, [.int .i64 0]), (b2, [.int .i64 0]), (b1, (EP x2 v2))] [row v2 41 Bu x9] w := F
   iterate 3 refine Bp ?_
   refine CT (Bp ?_)
   refine BK W ?_
   have F := F.nilRow 43 BC
   have F := F.nilRow 39 (Rp.slice (Rp.int .u64))
   have F := F.nilRow 3 (Rp.int .i64)
   have F := F.frontZ (i := 1) Aa Aa
   have F := F.frontZ (i := 2) Aa Aa
   have F := F.frontZ (i := 3) Aa Aa
   have F := F.frontM (i := 1) Aa Aa
   have F := F.frontM (i := 2) Aa Aa
   have F := F.frontM (i := 3) Aa Aa
   refine C2 (Ml := (Mb b1 x2 v2 b2 b3)) (Zl := [row v2 41 Bu x9, row (Value.slice none 0 0) 43 BC ([] : List (Int × Int)), row (Value.slice none 0 0) 39 (Rp.slice (Rp.int .u64)) ([] : List (List Int)), row (Value.slice none 0 0) 3 (Rp.int .i64) ([] : List Int)]) (M := [(b4, [.string (bs x7), .int .i64 x8])]) (Z := []) (β := Value × Value × Value × Value) (u' := (.panicking ({ v := .iface 75 (.agg #[.int .i64 x12]), recovered := true } :: []))) (MM := fun x => [(b1, [.int .i64 ((Ab ((x2.1, x9, ([] : List (Int × Int))), ([] : List (List Int)), ([] : List Int), 0, 0, 0, 0, 0, 0) 0 0 x12).1.1.1), x.1, x.2.1, x.2.2.1, x.2.2.2, .int .i64 ((Ab ((x2.1, x9, ([] : List (Int × Int))), ([] : List (List Int)), ([] : List Int), 0, 0, 0, 0, 0, 0) 0 0 x12).1.2.2.2.1), .int .i64 ((Ab ((x2.1, x9, ([] : List (Int × Int))), ([] : List (List Int)), ([] : List Int), 0, 0, 0, 0, 0, 0) 0 0 x12).1.2.2.2.2.1), .int .i64 ((Ab ((x2.1, x9, ([] : List (Int × Int))), ([] : List (List Int)), ([] : List Int), 0, 0, 0, 0, 0, 0) 0 0 x12).1.2.2.2.2.2.1), .int .i64 ((Ab ((x2.1, x9, ([] : List (Int × Int))), ([] : List (List Int)), ([] : List Int), 0, 0, 0, 0, 0, 0) 0 0 x12).1.2.2.2.2.2.2.1), .int .i64 ((Ab ((x2.1, x9, ([] : List (Int × Int))), ([] : List (List Int)), ([] : List Int), 0, 0, 0, 0, 0, 0) 0 0 x12).1.2.2.2.2.2.2.2.1), .int .i64 ((Ab ((x2.1, x9, ([] : List (Int × Int))), ([] : List (List Int)), ([] : List Int), 0, 0, 0, 0, 0, 0) 0 0 x12).1.2.2.2.2.2.2.2.2)]), (b2, [.int .i64 ((Ab ((x2.1, x9, ([] : List (Int × Int))), ([] : List (List Int)), ([] : List Int), 0, 0, 0, 0, 0, 0) 0 0 x12).2.1)]), (b3, [.int .i64 ((Ab ((x2.1, x9, ([] : List (Int × Int))), ([] : List (List Int)), ([] : List Int), 0, 0, 0, 0, 0, 0) 0 0 x12).2.2)])]) (ZZ := fun x => [row x.1 41 Bu ((Ab ((x2.1, x9, ([] : List (Int × Int))), ([] : List (List Int)), ([] : List Int), 0, 0, 0, 0, 0, 0) 0 0 x12).1.1.2.1), row x.2.1 43 BC ((Ab ((x2.1, x9, ([] : List (Int × Int))), ([] : List (List Int)), ([] : List Int), 0, 0, 0, 0, 0, 0) 0 0 x12).1.1.2.2), row x.2.2.1 39 (Rp.slice (Rp.int .u64)) ((Ab ((x2.1, x9, ([] : List (Int × Int))), ([] : List (List Int)), ([] : List Int), 0, 0, 0, 0, 0, 0) 0 0 x12).1.2.1), row x.2.2.2 3 (Rp.int .i64) ((Ab ((x2.1, x9, ([] : List (Int × Int))), ([] : List (List Int)), ([] : List Int), 0, 0, 0, 0, 0, 0) 0 0 x12).1.2.2.1)]) F Jh (by simp) (fun hL => Aw _ _ w b1 (v2) (Value.slice none 0 0) (Value.slice none 0 0) (Value.slice none 0 0) b2 b3 ((x2.1, x9, ([] : List (Int × Int))), ([] : List (List Int)), ([] : List Int), 0, 0, 0, 0, 0, 0) 0 0 x12 _ Aa hL) fun x w F => ?_
   obtain ⟨v10, v11, v12, v13⟩ := x
   have F : Stw ⟨Y, [], w0⟩ [(b1, [.int .i64 ((Ab ((x2.1, x9, ([] : List (Int × Int))), ([] : List (List Int)), ([] : List Int), 0, 0, 0, 0, 0, 0) 0 0 x12).1.1.1), v10, v11, v12, v13, .int .i64 ((Ab ((x2.1, x9, ([] : List (Int × Int))), ([] : List (List Int)), ([] : List Int), 0, 0, 0, 0, 0, 0) 0 0 x12).1.2.2.2.1), .int .i64 ((Ab ((x2.1, x9, ([] : List (Int × Int))), ([] : List (List Int)), ([] : List Int), 0, 0, 0, 0, 0, 0) 0 0 x12).1.2.2.2.2.1), .int .i64 ((Ab ((x2.1, x9, ([] : List (Int × Int))), ([] : List (List Int)), ([] : List Int), 0, 0, 0, 0, 0, 0) 0 0 x12).1.2.2.2.2.2.1), .int .i64 ((Ab ((x2.1, x9, ([] : List (Int × Int))), ([] : List (List Int)), ([] : List Int), 0, 0, 0, 0, 0, 0) 0 0 x12).1.2.2.2.2.2.2.1), .int .i64 ((Ab ((x2.1, x9, ([] : List (Int × Int))), ([] : List (List Int)), ([] : List Int), 0, 0, 0, 0, 0, 0) 0 0 x12).1.2.2.2.2.2.2.2.1), .int .i64 ((Ab ((x2.1, x9, ([] : List (Int × Int))), ([] : List (List Int)), ([] : List Int), 0, 0, 0, 0, 0, 0) 0 0 x12).1.2.2.2.2.2.2.2.2)]), (b2, [.int .i64 ((Ab ((x2.1, x9, ([] : List (Int × Int))), ([] : List (List Int)), ([] : List Int), 0, 0, 0, 0, 0, 0) 0 0 x12).2.1)]), (b3, [.int .i64 ((Ab ((x2.1, x9, ([] : List (Int × Int))), ([] : List (List Int)), ([] : List Int), 0, 0, 0, 0, 0, 0) 0 0 x12).2.2)]), (b4, [.string (bs x7), .int .i64 x8])] [row v10 41 Bu ((Ab ((x2.1, x9, ([] : List (Int × Int))), ([] : List (List Int)), ([] : List Int), 0, 0, 0, 0, 0, 0) 0 0 x12).1.1.2.1), row v11 43 BC ((Ab ((x2.1, x9, ([] : List (Int × Int))), ([] : List (List Int)), ([] : List Int), 0, 0, 0, 0, 0, 0) 0 0 x12).1.1.2.2), row v12 39 (Rp.slice (Rp.int .u64)) ((Ab ((x2.1, x9, ([] : List (Int × Int))), ([] : List (List Int)), ([] : List Int), 0, 0, 0, 0, 0, 0) 0 0 x12).1.2.1), row v13 3 (Rp.int .i64) ((Ab ((x2.1, x9, ([] : List (Int × Int))), ([] : List (List Int)), ([] : List Int), 0, 0, 0, 0, 0, 0) 0 0 x12).1.2.2.1)] w := F
   have H := L2 _ H
   have H := L1 _ H
   have H := A2 H
   subst H
   refine C0 F Aa (AN 0 W Aa Aa Gv Aa) (AN 1 W Aa Aa T3 Aa) (AN 2 W Aa Aa IA Aa) ?_
   have F := F.frontZ (i := 3) Aa Aa
   have F := F.frontZ (i := 3) Aa Aa
   have F := F.frontZ (i := 3) Aa Aa
   have F := F.frontZ (i := 3) Aa Aa
   have F := F.sub (M' := []) (Z' := [row v10 41 Bu ((Ab ((x2.1, x9, ([] : List (Int × Int))), ([] : List (List Int)), ([] : List Int), 0, 0, 0, 0, 0, 0) 0 0 x12).1.1.2.1), row v11 43 BC ((Ab ((x2.1, x9, ([] : List (Int × Int))), ([] : List (List Int)), ([] : List Int), 0, 0, 0, 0, 0, 0) 0 0 x12).1.1.2.2), row v12 39 (Rp.slice (Rp.int .u64)) ((Ab ((x2.1, x9, ([] : List (Int × Int))), ([] : List (List Int)), ([] : List Int), 0, 0, 0, 0, 0, 0) 0 0 x12).1.2.1), row v13 3 (Rp.int .i64) ((Ab ((x2.1, x9, ([] : List (Int × Int))), ([] : List (List Int)), ([] : List Int), 0, 0, 0, 0, 0, 0) 0 0 x12).1.2.2.1)]) (List.nil_sublist _) (List.Sublist.refl _)
   exact ⟨((v10), (v11), (v12), (v13)), Aa, F⟩
  rintro a w ⟨x4, x5, x6, v1, hj, W, F⟩
  have H := K1 _ hj
  clear hj G1 K1 L1
  obtain ⟨o3, G3, K3, L3⟩ := IB H
  refine AX (fun a w => ∃ x23 : List UInt8, ∃ x24 : Int, ∃ x25 : List (Int × Int), ∃ v14 : Value, some (Sum.inl (x23, x24, x25)) = some o3 ∧ Fr 97 [{ target := .fn (.func 17) #[.pointer (some ⟨b1, 0, none⟩), .pointer (some ⟨b2, 0, none⟩), .pointer (some ⟨b3, 0, none⟩)], args := #[] }] [(2, .pointer (some ⟨b1, 0, none⟩)), (3, .pointer (some ⟨b2, 0, none⟩)), (4, .pointer (some ⟨b3, 0, none⟩)), (5, .pointer (some ⟨b4, 0, none⟩))] a ∧ Stw ⟨Y, [], w0⟩ [(b4, [.string (bs x23), .int .i64 x24]), (b3, [.int .i64 0]), (b2, [.int .i64 0]), (b1, (ER x2 v1 v14))] [row v1 41 Bu x6, row v14 43 BC x25] w) ?_ ?_
  ·
   have H := G3
   clear G3 K3
   refine AF ?_
   have F := F.nilRow 43 BC
   have F := F.frontZ (i := 1) Aa Aa
   have F := F.frontM (i := 3) Aa Aa
   have F := F.frontM (i := 3) Aa Aa
   have F := F.frontM (i := 3) Aa Aa
   have F := F.frontM (i := 3) Aa Aa
   refine CA H (fun s a w => ∃ v15 : Value, Fr 97 [{ target := .fn (.func 17) #[.pointer (some ⟨b1, 0, none⟩), .pointer (some ⟨b2, 0, none⟩), .pointer (some ⟨b3, 0, none⟩)], args := #[] }] [(2, .pointer (some ⟨b1, 0, none⟩)), (3, .pointer (some ⟨b2, 0, none⟩)), (4, .pointer (some ⟨b3, 0, none⟩)), (5, .pointer (some ⟨b4, 0, none⟩))] a ∧ Stw ⟨Y, [], w0⟩ [(b4, [.string (bs s.1), .int .i64 s.2.1]), (b3, [.int .i64 0]), (b2, [.int .i64 0]), (b1, (ER x2 v1 v15))] [row v1 41 Bu x6, row v15 43 BC s.2.2] w) ⟨(Value.slice none 0 0), W.re ⟨rfl, Aa, Aa, Aa, trivial⟩, F⟩ fun s o a w H L4 hR => ?_
   obtain ⟨x26, x27, x28⟩ := s
   obtain ⟨v15, W, F⟩ := hR
   have W : Fr 97 [{ target := .fn (.func 17) #[.pointer (some ⟨b1, 0, none⟩), .pointer (some ⟨b2, 0, none⟩), .pointer (some ⟨b3, 0, none⟩)], args := #[] }] [(2, .pointer (some ⟨b1, 0, none⟩)), (3, .pointer (some ⟨b2, 0, none⟩)), (4, .pointer (some ⟨b3, 0, none⟩)), (5, .pointer (some ⟨b4, 0, none⟩))] a := W
   have F : Stw ⟨Y, [], w0⟩ [(b4, [.string (bs x26), .int .i64 x27]), (b3, [.int .i64 0]), (b2, [.int .i64 0]), (b1, (ER x2 v1 v15))] [row v1 41 Bu x6, row v15 43 BC x28] w := F
   rw [Cq] at H
   refine Aj (Aj (Ac ?_))
   refine ls W F Aa (Ae W Aa).q fun a w W F => ?_
   obtain ⟨x29, h11, H⟩ := An H
   rcases x29 with x30 | x31
   ·
    have H := EG H
    refine AE (Ml := []) (Zl := []) (M := [(b4, [.string (bs x26), .int .i64 x27]), (b3, [.int .i64 0]), (b2, [.int .i64 0]), (b1, (ER x2 v1 v15))]) (Z := [row v1 41 Bu x6, row v15 43 BC x28]) (β := Unit) (rv := fun x => .bool x30) (MM := fun x => []) (ZZ := fun x => []) W F MV Aa Aa (fun hL => BV _ w b4 (x26, x27) ([104, 111, 115, 116] : List UInt8) _ h11 (Fs F 0 Aa) (hG.go0 F)) fun x a w W F => ?_
    have F : Stw ⟨Y, [], w0⟩ [(b4, [.string (bs x26), .int .i64 x27]), (b3, [.int .i64 0]), (b2, [.int .i64 0]), (b1, (ER x2 v1 v15))] [row v1 41 Bu x6, row v15 43 BC x28] w := F
    refine Af (Ad ?_)
    refine AA W Aa (fun hb => ?_) fun hb => ?_
    ·
     have H := AZ hb H
     rw [hb] at W
     clear hb
     refine Ax (Ad (AF (Aj (Ac ?_))))
     refine ls W F Aa (Ae W Aa).q fun a w W F => ?_
     obtain ⟨x32, h12, H⟩ := An H
     rcases x32 with x33 | x34
     ·
      have H := EG H
      refine AE (Ml := [(b4, [.string (bs x26), .int .i64 x27])]) (Zl := []) (M := [(b3, [.int .i64 0]), (b2, [.int .i64 0]), (b1, [.int .i64 x2.1, v1, v15, .slice none 0 0, .slice none 0 0, .int .i64 0, .int .i64 0, .int .i64 0, .int .i64 0, .int .i64 0, .int .i64 0])]) (Z := [row v1 41 Bu x6, row v15 43 BC x28]) (β := Value) (rv := fun x => x) (MM := fun x => [(b4, [.string (bs x33.2.1), .int .i64 x33.2.2])]) (ZZ := fun x => [row x 3 (Rp.int .i64) x33.1]) W F Mo Aa Aa (fun hL => Bm _ _ w b4 (x26, x27) ([104, 111, 115, 116] : List UInt8) 2 _ h12 (hG.go F) hL) fun x a w W F => ?_
      obtain ⟨v16, rfl⟩ : ∃ y, y = x := ⟨x, rfl⟩
      have F : Stw ⟨Y, [], w0⟩ [(b4, [.string (bs x33.2.1), .int .i64 x33.2.2]), (b3, [.int .i64 0]), (b2, [.int .i64 0]), (b1, (ER x2 v1 v15))] [row v16 3 (Rp.int .i64) x33.1, row v1 41 Bu x6, row v15 43 BC x28] w := F
      refine ls W F Aa (Ag W Aa).q fun a w W F => ?_
      refine Af (Ad ?_)
      refine GC [(true, 0), (true, 1), (true, 2), (true, 3), (true, 4), (true, 5), (true, 6), (true, 7), (true, 8), (true, 9), (false, 10), (false, 11), (true, 12), (true, 13), (false, 14)] (CN ⟨Y, [], w0⟩ [(some 11, b1, [.int .i64 x2.1, v1, v15, .slice none 0 0, .slice none 0 0, .int .i64 0, .int .i64 0, .int .i64 0, .int .i64 0, .int .i64 0, .int .i64 0])] [(some 10, row v16 3 (Rp.int .i64) x33.1)]) (fun i o hi ch a v w h => Jp (fn := Tryd.f9) Aa (by kernel_rfl) hi h) MO (by kernel_rfl) F (fun w F => ⟨_, _, F, (BW (fun _ => (.tail _ (.tail _ (.tail _ (.head _))))) BU), (BW (fun _ => (.head _)) BU)⟩) fun w F => ?_
      refine C5 (R := []) W Aa Aa (yC fun M Z hN hZ => Ak CH Aa Aa Aa JC W Aa 0 Aa) Aa Aa fun a W => ?_
      refine C5 (R := []) W Aa Aa (yC fun M Z hN hZ => Ak F1 Aa Aa Aa Lt W Aa 2 Aa) Aa Aa fun a W => ?_
      refine C5 (R := [11]) W Aa Aa (yC fun M Z hN hZ => Hf (cs := (ER x2 v1 v15)) (v := v15) W Aa (hN ((some 11), b1, (ER x2 v1 v15)) (.head _) Aa) Lt Aa) (by kernel_rfl) Aa fun a W => ?_
      refine C5 (R := []) W Aa Aa (yC fun M Z hN hZ => Ae W Aa) Aa Aa fun a W => ?_
      obtain ⟨x35, h13, H⟩ := An H
      refine C5 (R := []) W Aa Aa (yC fun M Z hN hZ => D4 (r := (Rp.int .i64)) GZ W Aa Aa (GM F (AO 0 Aa)) h13) Aa Aa fun a W => ?_
      refine C5 (R := [10, 9]) W Aa Aa (yC fun M Z hN hZ => A3 (y := Value.int .i64 x35) (j := 0) (i := 0) W Aa Aa (D0 (hZ ((some 10), row v16 3 (Rp.int .i64) x33.1) (.head _) Aa)) h13 Fl.int.to T3 Aa) (by kernel_rfl) Aa fun a W => ?_
      refine C5 (R := []) W Aa Aa (yC fun M Z hN hZ => Ae W Aa) Aa Aa fun a W => ?_
      obtain ⟨x36, h14, H⟩ := An H
      refine C5 (R := []) W Aa Aa (yC fun M Z hN hZ => D4 (r := (Rp.int .i64)) GZ W Aa Aa (GM F (AO 0 Aa)) h14) Aa Aa fun a W => ?_
      refine C5 (R := [10, 9]) W Aa Aa (yC fun M Z hN hZ => A3 (y := Value.int .i64 x36) (j := 0) (i := 1) W Aa Aa (D0 (hZ ((some 10), row v16 3 (Rp.int .i64) x33.1) (.head _) Aa)) h14 Fl.int.to T3 Aa) (by kernel_rfl) Aa fun a W => ?_
      refine C5 (R := []) W Aa Aa (yC fun M Z hN hZ => EU (v := Value.agg #[.int .i64 x35, .int .i64 x36]) Oj W Aa Aa Aa) Aa Aa fun a W => ?_
      refine HO Aa ?_
      refine D6 (z := Value.agg #[.int .i64 0, .int .i64 0]) (cs := [.int .i64 x35, .int .i64 x36]) BC ([(x35, x36)] : List (Int × Int)) W F Aa MY N5 Aa Aa Aa Aa Aa Aa (Ns.repL _ _ ([(x35, x36)] : List (Int × Int))) fun v17 a w W F => ?_
      refine DV (N2 := []) (NZ2 := []) (N3 := [(some 11, b1, [.int .i64 x2.1, v1, v15, .slice none 0 0, .slice none 0 0, .int .i64 0, .int .i64 0, .int .i64 0, .int .i64 0, .int .i64 0, .int .i64 0])]) (NZ3 := [(some 10, row v16 3 (Rp.int .i64) x33.1)]) F Aa Aa (BW (fun _ => (.tail _ (.tail _ (.tail _ (.head _))))) BU) (BW (fun h => Df (by kernel_rfl) h) BU) ?_
      refine HO Aa ?_
      obtain ⟨x37, h15, H⟩ := An H
      refine Fx (r := BC) (i := 3) W F Aa MY Aa Aa Aa Aa (Gc F 0 Aa) h15 Aa fun v18 a w W F => ?_
      have F : Stw ⟨Y, [], w0⟩ [(b4, [.string (bs x33.2.1), .int .i64 x33.2.2]), (b3, [.int .i64 0]), (b2, [.int .i64 0]), (b1, (ER x2 v1 v15))] [row v18 43 BC x37, row v17 43 BC ([(x35, x36)] : List (Int × Int)), row v16 3 (Rp.int .i64) x33.1, row v1 41 Bu x6] w := F
      refine DV (N2 := []) (NZ2 := []) (N3 := [(some 11, b1, [.int .i64 x2.1, v1, v15, .slice none 0 0, .slice none 0 0, .int .i64 0, .int .i64 0, .int .i64 0, .int .i64 0, .int .i64 0, .int .i64 0])]) (NZ3 := [(some 10, row v16 3 (Rp.int .i64) x33.1)]) F Aa Aa (BW (fun h => Df (by kernel_rfl) h) BU) (BW (fun h => Df (by kernel_rfl) h) BU) ?_
      refine C5 (R := []) W Aa Aa (yC fun M Z hN hZ => Ak CH Aa Aa Aa JC W Aa 0 Aa) Aa Aa fun a W => ?_
      refine C5 (R := []) W Aa Aa (yC fun M Z hN hZ => Ak F1 Aa Aa Aa Lt W Aa 2 Aa) Aa Aa fun a W => ?_
      refine HO Aa ?_
      refine Ge (M' := [(b4, [.string (bs x33.2.1), .int .i64 x33.2.2]), (b3, [.int .i64 0]), (b2, [.int .i64 0]), (b1, (ER x2 v1 v18))]) 3 W F Aa Aa Aa Lt (F.one (k := 0) Aa) Aa Aa fun w F => ?_
      refine DV (N2 := []) (NZ2 := []) (N3 := [(some 11, b1, [.int .i64 x2.1, v1, v15, .slice none 0 0, .slice none 0 0, .int .i64 0, .int .i64 0, .int .i64 0, .int .i64 0, .int .i64 0, .int .i64 0])]) (NZ3 := [(some 10, row v16 3 (Rp.int .i64) x33.1)]) F Aa Aa (BW (fun h => Df (by kernel_rfl) h) BU) (BW (fun h => Df (by kernel_rfl) h) BU) ?_
      refine Jw (Bk (Ad ?_))
      have F := F.frontZ (i := 3) Aa Aa
      have F := F.frontM (i := 3) Aa Aa
      have F := F.frontM (i := 3) Aa Aa
      have F := F.frontM (i := 3) Aa Aa
      have F := F.frontM (i := 3) Aa Aa
      have F := F.sub (M' := [(b4, [.string (bs x33.2.1), .int .i64 x33.2.2]), (b3, [.int .i64 0]), (b2, [.int .i64 0]), (b1, (ER x2 v1 v18))]) (Z' := [row v1 41 Bu x6, row v18 43 BC x37]) (List.Sublist.refl _) (List.Sublist.cons_cons _ (List.Sublist.cons_cons _ (List.nil_sublist _)))
      exact ⟨_, H, (v18), W.re ⟨rfl, Aa, Aa, Aa, trivial⟩, F⟩
     have H := EF H
     refine BH (Ml := [(b4, [.string (bs x26), .int .i64 x27])]) (Zl := []) (M := [(b3, [.int .i64 0]), (b2, [.int .i64 0]), (b1, [.int .i64 x2.1, v1, v15, .slice none 0 0, .slice none 0 0, .int .i64 0, .int .i64 0, .int .i64 0, .int .i64 0, .int .i64 0, .int .i64 0])]) (Z := [row v1 41 Bu x6, row v15 43 BC x28]) (β := Unit) (pv := fun x => .iface 75 (.agg #[.int .i64 x34.1])) (MM := fun x => [(b4, [.string (bs x34.2.1), .int .i64 x34.2.2])]) (ZZ := fun x => []) W F Mo Aa (fun hL => Bm _ _ w b4 (x26, x27) ([104, 111, 115, 116] : List UInt8) 2 _ h12 (hG.go F) hL) fun x w F => ?_
     have F : Stw ⟨Y, [], w0⟩ [(b4, [.string (bs x34.2.1), .int .i64 x34.2.2]), (b3, [.int .i64 0]), (b2, [.int .i64 0]), (b1, (ER x2 v1 v15))] [row v1 41 Bu x6, row v15 43 BC x28] w := F
     refine Bp (CT (Bp (CT (Bp ?_))))
     refine BK W ?_
     have F := F.nilRow 39 (Rp.slice (Rp.int .u64))
     have F := F.nilRow 3 (Rp.int .i64)
     have F := F.frontZ (i := 1) Aa Aa
     have F := F.frontZ (i := 3) Aa Aa
     have F := F.frontZ (i := 3) Aa Aa
     have F := F.frontM (i := 1) Aa Aa
     have F := F.frontM (i := 2) Aa Aa
     have F := F.frontM (i := 3) Aa Aa
     refine C2 (Ml := [(b1, [.int .i64 x2.1, v1, v15, .slice none 0 0, .slice none 0 0, .int .i64 0, .int .i64 0, .int .i64 0, .int .i64 0, .int .i64 0, .int .i64 0]), (b2, [.int .i64 0]), (b3, [.int .i64 0])]) (Zl := [row v1 41 Bu x6, row v15 43 BC x28, row (Value.slice none 0 0) 39 (Rp.slice (Rp.int .u64)) ([] : List (List Int)), row (Value.slice none 0 0) 3 (Rp.int .i64) ([] : List Int)]) (M := [(b4, [.string (bs x34.2.1), .int .i64 x34.2.2])]) (Z := []) (β := Value × Value × Value × Value) (u' := (.panicking ({ v := .iface 75 (.agg #[.int .i64 x34.1]), recovered := true } :: []))) (MM := fun x => [(b1, [.int .i64 ((Ab ((x2.1, x6, x28), ([] : List (List Int)), ([] : List Int), 0, 0, 0, 0, 0, 0) 0 0 x34.1).1.1.1), x.1, x.2.1, x.2.2.1, x.2.2.2, .int .i64 ((Ab ((x2.1, x6, x28), ([] : List (List Int)), ([] : List Int), 0, 0, 0, 0, 0, 0) 0 0 x34.1).1.2.2.2.1), .int .i64 ((Ab ((x2.1, x6, x28), ([] : List (List Int)), ([] : List Int), 0, 0, 0, 0, 0, 0) 0 0 x34.1).1.2.2.2.2.1), .int .i64 ((Ab ((x2.1, x6, x28), ([] : List (List Int)), ([] : List Int), 0, 0, 0, 0, 0, 0) 0 0 x34.1).1.2.2.2.2.2.1), .int .i64 ((Ab ((x2.1, x6, x28), ([] : List (List Int)), ([] : List Int), 0, 0, 0, 0, 0, 0) 0 0 x34.1).1.2.2.2.2.2.2.1), .int .i64 ((Ab ((x2.1, x6, x28), ([] : List (List Int)), ([] : List Int), 0, 0, 0, 0, 0, 0) 0 0 x34.1).1.2.2.2.2.2.2.2.1), .int .i64 ((Ab ((x2.1, x6, x28), ([] : List (List Int)), ([] : List Int), 0, 0, 0, 0, 0, 0) 0 0 x34.1).1.2.2.2.2.2.2.2.2)]), (b2, [.int .i64 ((Ab ((x2.1, x6, x28), ([] : List (List Int)), ([] : List Int), 0, 0, 0, 0, 0, 0) 0 0 x34.1).2.1)]), (b3, [.int .i64 ((Ab ((x2.1, x6, x28), ([] : List (List Int)), ([] : List Int), 0, 0, 0, 0, 0, 0) 0 0 x34.1).2.2)])]) (ZZ := fun x => [row x.1 41 Bu ((Ab ((x2.1, x6, x28), ([] : List (List Int)), ([] : List Int), 0, 0, 0, 0, 0, 0) 0 0 x34.1).1.1.2.1), row x.2.1 43 BC ((Ab ((x2.1, x6, x28), ([] : List (List Int)), ([] : List Int), 0, 0, 0, 0, 0, 0) 0 0 x34.1).1.1.2.2), row x.2.2.1 39 (Rp.slice (Rp.int .u64)) ((Ab ((x2.1, x6, x28), ([] : List (List Int)), ([] : List Int), 0, 0, 0, 0, 0, 0) 0 0 x34.1).1.2.1), row x.2.2.2 3 (Rp.int .i64) ((Ab ((x2.1, x6, x28), ([] : List (List Int)), ([] : List Int), 0, 0, 0, 0, 0, 0) 0 0 x34.1).1.2.2.1)]) F Jh (by simp) (fun hL => Aw _ _ w b1 (v1) (v15) (Value.slice none 0 0) (Value.slice none 0 0) b2 b3 ((x2.1, x6, x28), ([] : List (List Int)), ([] : List Int), 0, 0, 0, 0, 0, 0) 0 0 x34.1 _ Aa hL) fun x w F => ?_
     obtain ⟨v19, v20, v21, v22⟩ := x
     have F : Stw ⟨Y, [], w0⟩ [(b1, [.int .i64 ((Ab ((x2.1, x6, x28), ([] : List (List Int)), ([] : List Int), 0, 0, 0, 0, 0, 0) 0 0 x34.1).1.1.1), v19, v20, v21, v22, .int .i64 ((Ab ((x2.1, x6, x28), ([] : List (List Int)), ([] : List Int), 0, 0, 0, 0, 0, 0) 0 0 x34.1).1.2.2.2.1), .int .i64 ((Ab ((x2.1, x6, x28), ([] : List (List Int)), ([] : List Int), 0, 0, 0, 0, 0, 0) 0 0 x34.1).1.2.2.2.2.1), .int .i64 ((Ab ((x2.1, x6, x28), ([] : List (List Int)), ([] : List Int), 0, 0, 0, 0, 0, 0) 0 0 x34.1).1.2.2.2.2.2.1), .int .i64 ((Ab ((x2.1, x6, x28), ([] : List (List Int)), ([] : List Int), 0, 0, 0, 0, 0, 0) 0 0 x34.1).1.2.2.2.2.2.2.1), .int .i64 ((Ab ((x2.1, x6, x28), ([] : List (List Int)), ([] : List Int), 0, 0, 0, 0, 0, 0) 0 0 x34.1).1.2.2.2.2.2.2.2.1), .int .i64 ((Ab ((x2.1, x6, x28), ([] : List (List Int)), ([] : List Int), 0, 0, 0, 0, 0, 0) 0 0 x34.1).1.2.2.2.2.2.2.2.2)]), (b2, [.int .i64 ((Ab ((x2.1, x6, x28), ([] : List (List Int)), ([] : List Int), 0, 0, 0, 0, 0, 0) 0 0 x34.1).2.1)]), (b3, [.int .i64 ((Ab ((x2.1, x6, x28), ([] : List (List Int)), ([] : List Int), 0, 0, 0, 0, 0, 0) 0 0 x34.1).2.2)]), (b4, [.string (bs x34.2.1), .int .i64 x34.2.2])] [row v19 41 Bu ((Ab ((x2.1, x6, x28), ([] : List (List Int)), ([] : List Int), 0, 0, 0, 0, 0, 0) 0 0 x34.1).1.1.2.1), row v20 43 BC ((Ab ((x2.1, x6, x28), ([] : List (List Int)), ([] : List Int), 0, 0, 0, 0, 0, 0) 0 0 x34.1).1.1.2.2), row v21 39 (Rp.slice (Rp.int .u64)) ((Ab ((x2.1, x6, x28), ([] : List (List Int)), ([] : List Int), 0, 0, 0, 0, 0, 0) 0 0 x34.1).1.2.1), row v22 3 (Rp.int .i64) ((Ab ((x2.1, x6, x28), ([] : List (List Int)), ([] : List Int), 0, 0, 0, 0, 0, 0) 0 0 x34.1).1.2.2.1)] w := F
     have H := L4 _ H
     have H := L3 _ H
     have H := A2 H
     subst H
     refine C0 F Aa (AN 0 W Aa Aa Gv Aa) (AN 1 W Aa Aa T3 Aa) (AN 2 W Aa Aa IA Aa) ?_
     have F := F.frontZ (i := 3) Aa Aa
     have F := F.frontZ (i := 3) Aa Aa
     have F := F.frontZ (i := 3) Aa Aa
     have F := F.frontZ (i := 3) Aa Aa
     have F := F.sub (M' := []) (Z' := [row v19 41 Bu ((Ab ((x2.1, x6, x28), ([] : List (List Int)), ([] : List Int), 0, 0, 0, 0, 0, 0) 0 0 x34.1).1.1.2.1), row v20 43 BC ((Ab ((x2.1, x6, x28), ([] : List (List Int)), ([] : List Int), 0, 0, 0, 0, 0, 0) 0 0 x34.1).1.1.2.2), row v21 39 (Rp.slice (Rp.int .u64)) ((Ab ((x2.1, x6, x28), ([] : List (List Int)), ([] : List Int), 0, 0, 0, 0, 0, 0) 0 0 x34.1).1.2.1), row v22 3 (Rp.int .i64) ((Ab ((x2.1, x6, x28), ([] : List (List Int)), ([] : List Int), 0, 0, 0, 0, 0, 0) 0 0 x34.1).1.2.2.1)]) (List.nil_sublist _) (List.Sublist.refl _)
     exact ⟨((v19), (v20), (v21), (v22)), Aa, F⟩
    have H := AY (by rw [hb]; decide) H
    rw [hb] at W
    clear hb
    refine Ci ?_
    iterate 2 refine CM ?_
    refine Cj (Ad ?_)
    have F := F.frontZ (i := 1) Aa Aa
    have F := F.frontZ (i := 1) Aa Aa
    have F := F.frontM (i := 3) Aa Aa
    have F := F.frontM (i := 3) Aa Aa
    have F := F.frontM (i := 3) Aa Aa
    have F := F.frontM (i := 3) Aa Aa
    have H := L4 _ H
    exact ⟨_, _, _, (v15), H, W.re ⟨rfl, Aa, Aa, Aa, trivial⟩, F⟩
   have H := EF H
   refine BH (Ml := []) (Zl := []) (M := [(b4, [.string (bs x26), .int .i64 x27]), (b3, [.int .i64 0]), (b2, [.int .i64 0]), (b1, (ER x2 v1 v15))]) (Z := [row v1 41 Bu x6, row v15 43 BC x28]) (β := Unit) (pv := fun x => .iface 75 (.agg #[.int .i64 x31])) (MM := fun x => []) (ZZ := fun x => []) W F MV Aa (fun hL => BV _ w b4 (x26, x27) ([104, 111, 115, 116] : List UInt8) _ h11 (Fs F 0 Aa) (hG.go0 F)) fun x w F => ?_
   have F : Stw ⟨Y, [], w0⟩ [(b4, [.string (bs x26), .int .i64 x27]), (b3, [.int .i64 0]), (b2, [.int .i64 0]), (b1, (ER x2 v1 v15))] [row v1 41 Bu x6, row v15 43 BC x28] w := F
   iterate 3 refine Bp ?_
   refine CT (Bp ?_)
   refine BK W ?_
   have F := F.nilRow 39 (Rp.slice (Rp.int .u64))
   have F := F.nilRow 3 (Rp.int .i64)
   have F := F.frontZ (i := 1) Aa Aa
   have F := F.frontZ (i := 3) Aa Aa
   have F := F.frontZ (i := 3) Aa Aa
   have F := F.frontM (i := 1) Aa Aa
   have F := F.frontM (i := 2) Aa Aa
   have F := F.frontM (i := 3) Aa Aa
   refine C2 (Ml := [(b1, [.int .i64 x2.1, v1, v15, .slice none 0 0, .slice none 0 0, .int .i64 0, .int .i64 0, .int .i64 0, .int .i64 0, .int .i64 0, .int .i64 0]), (b2, [.int .i64 0]), (b3, [.int .i64 0])]) (Zl := [row v1 41 Bu x6, row v15 43 BC x28, row (Value.slice none 0 0) 39 (Rp.slice (Rp.int .u64)) ([] : List (List Int)), row (Value.slice none 0 0) 3 (Rp.int .i64) ([] : List Int)]) (M := [(b4, [.string (bs x26), .int .i64 x27])]) (Z := []) (β := Value × Value × Value × Value) (u' := (.panicking ({ v := .iface 75 (.agg #[.int .i64 x31]), recovered := true } :: []))) (MM := fun x => [(b1, [.int .i64 ((Ab ((x2.1, x6, x28), ([] : List (List Int)), ([] : List Int), 0, 0, 0, 0, 0, 0) 0 0 x31).1.1.1), x.1, x.2.1, x.2.2.1, x.2.2.2, .int .i64 ((Ab ((x2.1, x6, x28), ([] : List (List Int)), ([] : List Int), 0, 0, 0, 0, 0, 0) 0 0 x31).1.2.2.2.1), .int .i64 ((Ab ((x2.1, x6, x28), ([] : List (List Int)), ([] : List Int), 0, 0, 0, 0, 0, 0) 0 0 x31).1.2.2.2.2.1), .int .i64 ((Ab ((x2.1, x6, x28), ([] : List (List Int)), ([] : List Int), 0, 0, 0, 0, 0, 0) 0 0 x31).1.2.2.2.2.2.1), .int .i64 ((Ab ((x2.1, x6, x28), ([] : List (List Int)), ([] : List Int), 0, 0, 0, 0, 0, 0) 0 0 x31).1.2.2.2.2.2.2.1), .int .i64 ((Ab ((x2.1, x6, x28), ([] : List (List Int)), ([] : List Int), 0, 0, 0, 0, 0, 0) 0 0 x31).1.2.2.2.2.2.2.2.1), .int .i64 ((Ab ((x2.1, x6, x28), ([] : List (List Int)), ([] : List Int), 0, 0, 0, 0, 0, 0) 0 0 x31).1.2.2.2.2.2.2.2.2)]), (b2, [.int .i64 ((Ab ((x2.1, x6, x28), ([] : List (List Int)), ([] : List Int), 0, 0, 0, 0, 0, 0) 0 0 x31).2.1)]), (b3, [.int .i64 ((Ab ((x2.1, x6, x28), ([] : List (List Int)), ([] : List Int), 0, 0, 0, 0, 0, 0) 0 0 x31).2.2)])]) (ZZ := fun x => [row x.1 41 Bu ((Ab ((x2.1, x6, x28), ([] : List (List Int)), ([] : List Int), 0, 0, 0, 0, 0, 0) 0 0 x31).1.1.2.1), row x.2.1 43 BC ((Ab ((x2.1, x6, x28), ([] : List (List Int)), ([] : List Int), 0, 0, 0, 0, 0, 0) 0 0 x31).1.1.2.2), row x.2.2.1 39 (Rp.slice (Rp.int .u64)) ((Ab ((x2.1, x6, x28), ([] : List (List Int)), ([] : List Int), 0, 0, 0, 0, 0, 0) 0 0 x31).1.2.1), row x.2.2.2 3 (Rp.int .i64) ((Ab ((x2.1, x6, x28), ([] : List (List Int)), ([] : List Int), 0, 0, 0, 0, 0, 0) 0 0 x31).1.2.2.1)]) F Jh (by simp) (fun hL => Aw _ _ w b1 (v1) (v15) (Value.slice none 0 0) (Value.slice none 0 0) b2 b3 ((x2.1, x6, x28), ([] : List (List Int)), ([] : List Int), 0, 0, 0, 0, 0, 0) 0 0 x31 _ Aa hL) fun x w F => ?_
   obtain ⟨v23, v24, v25, v26⟩ := x
   have F : Stw ⟨Y, [], w0⟩ [(b1, [.int .i64 ((Ab ((x2.1, x6, x28), ([] : List (List Int)), ([] : List Int), 0, 0, 0, 0, 0, 0) 0 0 x31).1.1.1), v23, v24, v25, v26, .int .i64 ((Ab ((x2.1, x6, x28), ([] : List (List Int)), ([] : List Int), 0, 0, 0, 0, 0, 0) 0 0 x31).1.2.2.2.1), .int .i64 ((Ab ((x2.1, x6, x28), ([] : List (List Int)), ([] : List Int), 0, 0, 0, 0, 0, 0) 0 0 x31).1.2.2.2.2.1), .int .i64 ((Ab ((x2.1, x6, x28), ([] : List (List Int)), ([] : List Int), 0, 0, 0, 0, 0, 0) 0 0 x31).1.2.2.2.2.2.1), .int .i64 ((Ab ((x2.1, x6, x28), ([] : List (List Int)), ([] : List Int), 0, 0, 0, 0, 0, 0) 0 0 x31).1.2.2.2.2.2.2.1), .int .i64 ((Ab ((x2.1, x6, x28), ([] : List (List Int)), ([] : List Int), 0, 0, 0, 0, 0, 0) 0 0 x31).1.2.2.2.2.2.2.2.1), .int .i64 ((Ab ((x2.1, x6, x28), ([] : List (List Int)), ([] : List Int), 0, 0, 0, 0, 0, 0) 0 0 x31).1.2.2.2.2.2.2.2.2)]), (b2, [.int .i64 ((Ab ((x2.1, x6, x28), ([] : List (List Int)), ([] : List Int), 0, 0, 0, 0, 0, 0) 0 0 x31).2.1)]), (b3, [.int .i64 ((Ab ((x2.1, x6, x28), ([] : List (List Int)), ([] : List Int), 0, 0, 0, 0, 0, 0) 0 0 x31).2.2)]), (b4, [.string (bs x26), .int .i64 x27])] [row v23 41 Bu ((Ab ((x2.1, x6, x28), ([] : List (List Int)), ([] : List Int), 0, 0, 0, 0, 0, 0) 0 0 x31).1.1.2.1), row v24 43 BC ((Ab ((x2.1, x6, x28), ([] : List (List Int)), ([] : List Int), 0, 0, 0, 0, 0, 0) 0 0 x31).1.1.2.2), row v25 39 (Rp.slice (Rp.int .u64)) ((Ab ((x2.1, x6, x28), ([] : List (List Int)), ([] : List Int), 0, 0, 0, 0, 0, 0) 0 0 x31).1.2.1), row v26 3 (Rp.int .i64) ((Ab ((x2.1, x6, x28), ([] : List (List Int)), ([] : List Int), 0, 0, 0, 0, 0, 0) 0 0 x31).1.2.2.1)] w := F
   have H := L4 _ H
   have H := L3 _ H
   have H := A2 H
   subst H
   refine C0 F Aa (AN 0 W Aa Aa Gv Aa) (AN 1 W Aa Aa T3 Aa) (AN 2 W Aa Aa IA Aa) ?_
   have F := F.frontZ (i := 3) Aa Aa
   have F := F.frontZ (i := 3) Aa Aa
   have F := F.frontZ (i := 3) Aa Aa
   have F := F.frontZ (i := 3) Aa Aa
   have F := F.sub (M' := []) (Z' := [row v23 41 Bu ((Ab ((x2.1, x6, x28), ([] : List (List Int)), ([] : List Int), 0, 0, 0, 0, 0, 0) 0 0 x31).1.1.2.1), row v24 43 BC ((Ab ((x2.1, x6, x28), ([] : List (List Int)), ([] : List Int), 0, 0, 0, 0, 0, 0) 0 0 x31).1.1.2.2), row v25 39 (Rp.slice (Rp.int .u64)) ((Ab ((x2.1, x6, x28), ([] : List (List Int)), ([] : List Int), 0, 0, 0, 0, 0, 0) 0 0 x31).1.2.1), row v26 3 (Rp.int .i64) ((Ab ((x2.1, x6, x28), ([] : List (List Int)), ([] : List Int), 0, 0, 0, 0, 0, 0) 0 0 x31).1.2.2.1)]) (List.nil_sublist _) (List.Sublist.refl _)
   exact ⟨((v23), (v24), (v25), (v26)), Aa, F⟩
  rintro a w ⟨x23, x24, x25, v14, hj, W, F⟩
  have H := K3 _ hj
  clear hj G3 K3 L3
  obtain ⟨o5, G5, K5, L5⟩ := IB H
  refine AX (fun a w => ∃ x38 : List UInt8, ∃ x39 : Int, ∃ x40 : List (List Int), ∃ v27 : Value, some (Sum.inl (x38, x39, x40)) = some o5 ∧ Fr 97 [{ target := .fn (.func 17) #[.pointer (some ⟨b1, 0, none⟩), .pointer (some ⟨b2, 0, none⟩), .pointer (some ⟨b3, 0, none⟩)], args := #[] }] [(2, .pointer (some ⟨b1, 0, none⟩)), (3, .pointer (some ⟨b2, 0, none⟩)), (4, .pointer (some ⟨b3, 0, none⟩)), (5, .pointer (some ⟨b4, 0, none⟩))] a ∧ Stw ⟨Y, [], w0⟩ [(b4, [.string (bs x38), .int .i64 x39]), (b3, [.int .i64 0]), (b2, [.int .i64 0]), (b1, (El x2 v1 v14 v27))] [row v1 41 Bu x6, row v14 43 BC x25, row v27 39 (Rp.slice (Rp.int .u64)) x40] w) ?_ ?_
  ·
   have H := G5
   clear G5 K5
   refine AF ?_
   have F := F.nilRow 39 (Rp.slice (Rp.int .u64))
   have F := F.frontZ (i := 2) Aa Aa
   have F := F.frontZ (i := 2) Aa Aa
   have F := F.frontM (i := 3) Aa Aa
   have F := F.frontM (i := 3) Aa Aa
   have F := F.frontM (i := 3) Aa Aa
   have F := F.frontM (i := 3) Aa Aa
   refine CA H (fun s a w => ∃ v28 : Value, Fr 97 [{ target := .fn (.func 17) #[.pointer (some ⟨b1, 0, none⟩), .pointer (some ⟨b2, 0, none⟩), .pointer (some ⟨b3, 0, none⟩)], args := #[] }] [(2, .pointer (some ⟨b1, 0, none⟩)), (3, .pointer (some ⟨b2, 0, none⟩)), (4, .pointer (some ⟨b3, 0, none⟩)), (5, .pointer (some ⟨b4, 0, none⟩))] a ∧ Stw ⟨Y, [], w0⟩ [(b4, [.string (bs s.1), .int .i64 s.2.1]), (b3, [.int .i64 0]), (b2, [.int .i64 0]), (b1, (El x2 v1 v14 v28))] [row v1 41 Bu x6, row v14 43 BC x25, row v28 39 (Rp.slice (Rp.int .u64)) s.2.2] w) ⟨(Value.slice none 0 0), W.re ⟨rfl, Aa, Aa, Aa, trivial⟩, F⟩ fun s o a w H L6 hR => ?_
   obtain ⟨x41, x42, x43⟩ := s
   obtain ⟨v28, W, F⟩ := hR
   have W : Fr 97 [{ target := .fn (.func 17) #[.pointer (some ⟨b1, 0, none⟩), .pointer (some ⟨b2, 0, none⟩), .pointer (some ⟨b3, 0, none⟩)], args := #[] }] [(2, .pointer (some ⟨b1, 0, none⟩)), (3, .pointer (some ⟨b2, 0, none⟩)), (4, .pointer (some ⟨b3, 0, none⟩)), (5, .pointer (some ⟨b4, 0, none⟩))] a := W
   have F : Stw ⟨Y, [], w0⟩ [(b4, [.string (bs x41), .int .i64 x42]), (b3, [.int .i64 0]), (b2, [.int .i64 0]), (b1, (El x2 v1 v14 v28))] [row v1 41 Bu x6, row v14 43 BC x25, row v28 39 (Rp.slice (Rp.int .u64)) x43] w := F
   rw [Cr] at H
   refine Aj (Aj (Ac ?_))
   refine ls W F Aa (Ae W Aa).q fun a w W F => ?_
   obtain ⟨x44, h16, H⟩ := An H
   rcases x44 with x45 | x46
   ·
    have H := EG H
    refine AE (Ml := []) (Zl := []) (M := [(b4, [.string (bs x41), .int .i64 x42]), (b3, [.int .i64 0]), (b2, [.int .i64 0]), (b1, (El x2 v1 v14 v28))]) (Z := [row v1 41 Bu x6, row v14 43 BC x25, row v28 39 (Rp.slice (Rp.int .u64)) x43]) (β := Unit) (rv := fun x => .bool x45) (MM := fun x => []) (ZZ := fun x => []) W F MV Aa Aa (fun hL => BV _ w b4 (x41, x42) ([119, 101, 105, 103, 104, 116, 115] : List UInt8) _ h16 (Fs F 0 Aa) (hG.go0 F)) fun x a w W F => ?_
    have F : Stw ⟨Y, [], w0⟩ [(b4, [.string (bs x41), .int .i64 x42]), (b3, [.int .i64 0]), (b2, [.int .i64 0]), (b1, (El x2 v1 v14 v28))] [row v1 41 Bu x6, row v14 43 BC x25, row v28 39 (Rp.slice (Rp.int .u64)) x43] w := F
    refine Af (Ad ?_)
    refine AA W Aa (fun hb => ?_) fun hb => ?_
    ·
     have H := AZ hb H
     rw [hb] at W
     clear hb
     refine Ax (Ad (AF ?_))
     refine GC [(true, 0), (true, 1), (true, 2), (false, 3), (false, 4), (false, 5), (true, 6), (false, 7)] (CN ⟨Y, [], w0⟩ [(some 5, b1, [.int .i64 x2.1, v1, v14, v28, .slice none 0 0, .int .i64 0, .int .i64 0, .int .i64 0, .int .i64 0, .int .i64 0, .int .i64 0])] []) (fun i o hi ch a v w h => Jp (fn := Tryd.f9) Aa (by kernel_rfl) hi h) MO (by kernel_rfl) F (fun w F => ⟨_, _, F, (BW (fun _ => (.tail _ (.tail _ (.tail _ (.head _))))) BU), BU⟩) fun w F => ?_
     refine C5 (R := []) W Aa Aa (yC fun M Z hN hZ => Ak CH Aa Aa Aa Lq W Aa 3 Aa) Aa Aa fun a W => ?_
     refine C5 (R := [5]) W Aa Aa (yC fun M Z hN hZ => Hf (cs := (El x2 v1 v14 v28)) (v := v28) W Aa (hN ((some 5), b1, (El x2 v1 v14 v28)) (.head _) Aa) Lq Aa) (by kernel_rfl) Aa fun a W => ?_
     refine C5 (R := []) W Aa Aa (yC fun M Z hN hZ => Ae W Aa) Aa Aa fun a W => ?_
     refine HO Aa ?_
     obtain ⟨x47, h17, H⟩ := An H
     rcases x47 with x48 | x49
     ·
      have H := EG H
      refine AE (Ml := [(b4, [.string (bs x41), .int .i64 x42])]) (Zl := []) (M := (JJ b3 b2 b1 x2 v1 v14 v28)) (Z := [row v1 41 Bu x6, row v14 43 BC x25, row v28 39 (Rp.slice (Rp.int .u64)) x43]) (β := Value) (rv := fun x => x) (MM := fun x => [(b4, [.string (bs x48.2.1), .int .i64 x48.2.2])]) (ZZ := fun x => [row x 45 (Rp.int .u64) x48.1]) W F N4 Aa Aa (fun hL => Ek _ _ w b4 (x41, x42) ([119, 101, 105, 103, 104, 116, 115] : List UInt8) _ h17 (hG.go F) hL) fun x a w W F => ?_
      obtain ⟨v29, rfl⟩ : ∃ y, y = x := ⟨x, rfl⟩
      have F : Stw ⟨Y, [], w0⟩ [(b4, [.string (bs x48.2.1), .int .i64 x48.2.2]), (b3, [.int .i64 0]), (b2, [.int .i64 0]), (b1, (El x2 v1 v14 v28))] [row v29 45 (Rp.int .u64) x48.1, row v1 41 Bu x6, row v14 43 BC x25, row v28 39 (Rp.slice (Rp.int .u64)) x43] w := F
      refine DV (N2 := []) (NZ2 := []) (N3 := [(some 5, b1, [.int .i64 x2.1, v1, v14, v28, .slice none 0 0, .int .i64 0, .int .i64 0, .int .i64 0, .int .i64 0, .int .i64 0, .int .i64 0])]) (NZ3 := []) F Aa Aa (BW (fun _ => (.tail _ (.tail _ (.tail _ (.head _))))) BU) BU ?_
      refine HO Aa ?_
      have F := F.freeze
      refine D6 (z := Value.slice none 0 0) (cs := [v29]) (Rp.slice (Rp.int .u64)) ([x48.1] : List (List Int)) W F Aa MU NS Aa Aa Aa (Eu Aa (E1 (F.oneF (k := 0) Aa)) Aa Hq) Aa Aa ⟨[v29], _, Aa, ⟨_, Aa, (F.item (i := 0) Aa)⟩, Aa⟩ fun v30 a w W F => ?_
      refine DV (N2 := []) (NZ2 := []) (N3 := [(some 5, b1, [.int .i64 x2.1, v1, v14, v28, .slice none 0 0, .int .i64 0, .int .i64 0, .int .i64 0, .int .i64 0, .int .i64 0, .int .i64 0])]) (NZ3 := []) F Aa Aa (BW (fun _ => (.tail _ (.tail _ (.tail _ (.head _))))) BU) BU ?_
      refine HO Aa ?_
      obtain ⟨x50, h18, H⟩ := An H
      refine Fx (r := (Rp.slice (Rp.int .u64))) (i := 4) W F Aa MU Aa Aa Aa Aa (Gc F 0 Aa) h18 Aa fun v31 a w W F => ?_
      have F : Stw ⟨Y, [], w0⟩ [(b4, [.string (bs x48.2.1), .int .i64 x48.2.2]), (b3, [.int .i64 0]), (b2, [.int .i64 0]), (b1, (El x2 v1 v14 v28))] [row v31 39 (Rp.slice (Rp.int .u64)) x50, row v30 39 (Rp.slice (Rp.int .u64)) ([x48.1] : List (List Int)), Ij v29 (Rp.int .u64) x48.1, row v1 41 Bu x6, row v14 43 BC x25] w := F
      refine DV (N2 := []) (NZ2 := []) (N3 := [(some 5, b1, [.int .i64 x2.1, v1, v14, v28, .slice none 0 0, .int .i64 0, .int .i64 0, .int .i64 0, .int .i64 0, .int .i64 0, .int .i64 0])]) (NZ3 := []) F Aa Aa (BW (fun h => Df (by kernel_rfl) h) BU) BU ?_
      refine C5 (R := []) W Aa Aa (yC fun M Z hN hZ => Ak CH Aa Aa Aa Lq W Aa 3 Aa) Aa Aa fun a W => ?_
      refine HO Aa ?_
      refine Ge (M' := [(b4, [.string (bs x48.2.1), .int .i64 x48.2.2]), (b3, [.int .i64 0]), (b2, [.int .i64 0]), (b1, (El x2 v1 v14 v31))]) 3 W F Aa Aa Aa Lq (F.one (k := 0) Aa) Aa Aa fun w F => ?_
      refine DV (N2 := []) (NZ2 := []) (N3 := [(some 5, b1, [.int .i64 x2.1, v1, v14, v28, .slice none 0 0, .int .i64 0, .int .i64 0, .int .i64 0, .int .i64 0, .int .i64 0, .int .i64 0])]) (NZ3 := []) F Aa Aa (BW (fun h => Df (by kernel_rfl) h) BU) BU ?_
      refine Jw (Bk (Ad ?_))
      have F := F.frontZ (i := 4) Aa Aa
      have F := F.frontZ (i := 4) Aa Aa
      have F := F.frontM (i := 3) Aa Aa
      have F := F.frontM (i := 3) Aa Aa
      have F := F.frontM (i := 3) Aa Aa
      have F := F.frontM (i := 3) Aa Aa
      have F := F.sub (M' := [(b4, [.string (bs x48.2.1), .int .i64 x48.2.2]), (b3, [.int .i64 0]), (b2, [.int .i64 0]), (b1, (El x2 v1 v14 v31))]) (Z' := [row v1 41 Bu x6, row v14 43 BC x25, row v31 39 (Rp.slice (Rp.int .u64)) x50]) (List.Sublist.refl _) (List.Sublist.cons_cons _ (List.Sublist.cons_cons _ (List.Sublist.cons_cons _ (List.nil_sublist _))))
      exact ⟨_, H, (v31), W.re ⟨rfl, Aa, Aa, Aa, trivial⟩, F⟩
     have H := EF H
     refine BH (Ml := [(b4, [.string (bs x41), .int .i64 x42])]) (Zl := []) (M := (JJ b3 b2 b1 x2 v1 v14 v28)) (Z := [row v1 41 Bu x6, row v14 43 BC x25, row v28 39 (Rp.slice (Rp.int .u64)) x43]) (β := Unit) (pv := fun x => .iface 75 (.agg #[.int .i64 x49.1])) (MM := fun x => [(b4, [.string (bs x49.2.1), .int .i64 x49.2.2])]) (ZZ := fun x => []) W F N4 Aa (fun hL => Ek _ _ w b4 (x41, x42) ([119, 101, 105, 103, 104, 116, 115] : List UInt8) _ h17 (hG.go F) hL) fun x w F => ?_
     have F : Stw ⟨Y, [], w0⟩ [(b4, [.string (bs x49.2.1), .int .i64 x49.2.2]), (b3, [.int .i64 0]), (b2, [.int .i64 0]), (b1, (El x2 v1 v14 v28))] [row v1 41 Bu x6, row v14 43 BC x25, row v28 39 (Rp.slice (Rp.int .u64)) x43] w := F
     refine MX (CT (Bp (CT (Bp ?_))))
     refine BK W ?_
     have F := F.nilRow 3 (Rp.int .i64)
     have F := F.frontZ (i := 3) Aa Aa
     have F := F.frontZ (i := 3) Aa Aa
     have F := F.frontZ (i := 3) Aa Aa
     have F := F.frontM (i := 1) Aa Aa
     have F := F.frontM (i := 2) Aa Aa
     have F := F.frontM (i := 3) Aa Aa
     refine C2 (Ml := (Kx b1 x2 v1 v14 v28 b2 b3)) (Zl := [row v1 41 Bu x6, row v14 43 BC x25, row v28 39 (Rp.slice (Rp.int .u64)) x43, row (Value.slice none 0 0) 3 (Rp.int .i64) ([] : List Int)]) (M := [(b4, [.string (bs x49.2.1), .int .i64 x49.2.2])]) (Z := []) (β := Value × Value × Value × Value) (u' := (.panicking ({ v := .iface 75 (.agg #[.int .i64 x49.1]), recovered := true } :: []))) (MM := fun x => [(b1, [.int .i64 ((Ab ((x2.1, x6, x25), x43, ([] : List Int), 0, 0, 0, 0, 0, 0) 0 0 x49.1).1.1.1), x.1, x.2.1, x.2.2.1, x.2.2.2, .int .i64 ((Ab ((x2.1, x6, x25), x43, ([] : List Int), 0, 0, 0, 0, 0, 0) 0 0 x49.1).1.2.2.2.1), .int .i64 ((Ab ((x2.1, x6, x25), x43, ([] : List Int), 0, 0, 0, 0, 0, 0) 0 0 x49.1).1.2.2.2.2.1), .int .i64 ((Ab ((x2.1, x6, x25), x43, ([] : List Int), 0, 0, 0, 0, 0, 0) 0 0 x49.1).1.2.2.2.2.2.1), .int .i64 ((Ab ((x2.1, x6, x25), x43, ([] : List Int), 0, 0, 0, 0, 0, 0) 0 0 x49.1).1.2.2.2.2.2.2.1), .int .i64 ((Ab ((x2.1, x6, x25), x43, ([] : List Int), 0, 0, 0, 0, 0, 0) 0 0 x49.1).1.2.2.2.2.2.2.2.1), .int .i64 ((Ab ((x2.1, x6, x25), x43, ([] : List Int), 0, 0, 0, 0, 0, 0) 0 0 x49.1).1.2.2.2.2.2.2.2.2)]), (b2, (JD x2 x6 x25 x43 x49)), (b3, (JX x2 x6 x25 x43 x49))]) (ZZ := fun x => [row x.1 41 Bu ((Ab ((x2.1, x6, x25), x43, ([] : List Int), 0, 0, 0, 0, 0, 0) 0 0 x49.1).1.1.2.1), row x.2.1 43 BC ((Ab ((x2.1, x6, x25), x43, ([] : List Int), 0, 0, 0, 0, 0, 0) 0 0 x49.1).1.1.2.2), row x.2.2.1 39 (Rp.slice (Rp.int .u64)) ((Ab ((x2.1, x6, x25), x43, ([] : List Int), 0, 0, 0, 0, 0, 0) 0 0 x49.1).1.2.1), row x.2.2.2 3 (Rp.int .i64) ((Ab ((x2.1, x6, x25), x43, ([] : List Int), 0, 0, 0, 0, 0, 0) 0 0 x49.1).1.2.2.1)]) F Jh (by simp) (fun hL => Aw _ _ w b1 (v1) (v14) (v28) (Value.slice none 0 0) b2 b3 ((x2.1, x6, x25), x43, ([] : List Int), 0, 0, 0, 0, 0, 0) 0 0 x49.1 _ Aa hL) fun x w F => ?_
     obtain ⟨v32, v33, v34, v35⟩ := x
     have F : Stw ⟨Y, [], w0⟩ [(b1, (Mp x2 x6 x25 x43 x49 v32 v33 v34 v35)), (b2, (JD x2 x6 x25 x43 x49)), (b3, (JX x2 x6 x25 x43 x49)), (b4, [.string (bs x49.2.1), .int .i64 x49.2.2])] [row v32 41 Bu ((Ab ((x2.1, x6, x25), x43, ([] : List Int), 0, 0, 0, 0, 0, 0) 0 0 x49.1).1.1.2.1), row v33 43 BC ((Ab ((x2.1, x6, x25), x43, ([] : List Int), 0, 0, 0, 0, 0, 0) 0 0 x49.1).1.1.2.2), row v34 39 (Rp.slice (Rp.int .u64)) ((Ab ((x2.1, x6, x25), x43, ([] : List Int), 0, 0, 0, 0, 0, 0) 0 0 x49.1).1.2.1), row v35 3 (Rp.int .i64) ((Ab ((x2.1, x6, x25), x43, ([] : List Int), 0, 0, 0, 0, 0, 0) 0 0 x49.1).1.2.2.1)] w := F
     have H := L6 _ H
     have H := L5 _ H
     have H := A2 H
     subst H
     refine C0 F Aa (AN 0 W Aa Aa Gv Aa) (AN 1 W Aa Aa T3 Aa) (AN 2 W Aa Aa IA Aa) ?_
     have F := F.frontZ (i := 3) Aa Aa
     have F := F.frontZ (i := 3) Aa Aa
     have F := F.frontZ (i := 3) Aa Aa
     have F := F.frontZ (i := 3) Aa Aa
     have F := F.sub (M' := []) (Z' := [row v32 41 Bu ((Ab ((x2.1, x6, x25), x43, ([] : List Int), 0, 0, 0, 0, 0, 0) 0 0 x49.1).1.1.2.1), row v33 43 BC ((Ab ((x2.1, x6, x25), x43, ([] : List Int), 0, 0, 0, 0, 0, 0) 0 0 x49.1).1.1.2.2), row v34 39 (Rp.slice (Rp.int .u64)) ((Ab ((x2.1, x6, x25), x43, ([] : List Int), 0, 0, 0, 0, 0, 0) 0 0 x49.1).1.2.1), row v35 3 (Rp.int .i64) ((Ab ((x2.1, x6, x25), x43, ([] : List Int), 0, 0, 0, 0, 0, 0) 0 0 x49.1).1.2.2.1)]) (List.nil_sublist _) (List.Sublist.refl _)
     exact ⟨((v32), (v33), (v34), (v35)), Aa, F⟩
    have H := AY (by rw [hb]; decide) H
    rw [hb] at W
    clear hb
    refine Ci ?_
    iterate 2 refine CM ?_
    refine Cj (Ad ?_)
    have F := F.frontZ (i := 2) Aa Aa
    have F := F.frontZ (i := 2) Aa Aa
    have F := F.frontZ (i := 2) Aa Aa
    have F := F.frontM (i := 3) Aa Aa
    have F := F.frontM (i := 3) Aa Aa
    have F := F.frontM (i := 3) Aa Aa
    have F := F.frontM (i := 3) Aa Aa
    have H := L6 _ H
    exact ⟨_, _, _, (v28), H, W.re ⟨rfl, Aa, Aa, Aa, trivial⟩, F⟩
   have H := EF H
   refine BH (Ml := []) (Zl := []) (M := [(b4, [.string (bs x41), .int .i64 x42]), (b3, [.int .i64 0]), (b2, [.int .i64 0]), (b1, (El x2 v1 v14 v28))]) (Z := [row v1 41 Bu x6, row v14 43 BC x25, row v28 39 (Rp.slice (Rp.int .u64)) x43]) (β := Unit) (pv := fun x => .iface 75 (.agg #[.int .i64 x46])) (MM := fun x => []) (ZZ := fun x => []) W F MV Aa (fun hL => BV _ w b4 (x41, x42) ([119, 101, 105, 103, 104, 116, 115] : List UInt8) _ h16 (Fs F 0 Aa) (hG.go0 F)) fun x w F => ?_
   have F : Stw ⟨Y, [], w0⟩ [(b4, [.string (bs x41), .int .i64 x42]), (b3, [.int .i64 0]), (b2, [.int .i64 0]), (b1, (El x2 v1 v14 v28))] [row v1 41 Bu x6, row v14 43 BC x25, row v28 39 (Rp.slice (Rp.int .u64)) x43] w := F
   iterate 3 refine Bp ?_
   refine CT (Bp ?_)
   refine BK W ?_
   have F := F.nilRow 3 (Rp.int .i64)
   have F := F.frontZ (i := 3) Aa Aa
   have F := F.frontZ (i := 3) Aa Aa
   have F := F.frontZ (i := 3) Aa Aa
   have F := F.frontM (i := 1) Aa Aa
   have F := F.frontM (i := 2) Aa Aa
   have F := F.frontM (i := 3) Aa Aa
   refine C2 (Ml := (Kx b1 x2 v1 v14 v28 b2 b3)) (Zl := [row v1 41 Bu x6, row v14 43 BC x25, row v28 39 (Rp.slice (Rp.int .u64)) x43, row (Value.slice none 0 0) 3 (Rp.int .i64) ([] : List Int)]) (M := [(b4, [.string (bs x41), .int .i64 x42])]) (Z := []) (β := Value × Value × Value × Value) (u' := (.panicking ({ v := .iface 75 (.agg #[.int .i64 x46]), recovered := true } :: []))) (MM := fun x => [(b1, [.int .i64 ((Ab ((x2.1, x6, x25), x43, ([] : List Int), 0, 0, 0, 0, 0, 0) 0 0 x46).1.1.1), x.1, x.2.1, x.2.2.1, x.2.2.2, .int .i64 ((Ab ((x2.1, x6, x25), x43, ([] : List Int), 0, 0, 0, 0, 0, 0) 0 0 x46).1.2.2.2.1), .int .i64 ((Ab ((x2.1, x6, x25), x43, ([] : List Int), 0, 0, 0, 0, 0, 0) 0 0 x46).1.2.2.2.2.1), .int .i64 ((Ab ((x2.1, x6, x25), x43, ([] : List Int), 0, 0, 0, 0, 0, 0) 0 0 x46).1.2.2.2.2.2.1), .int .i64 ((Ab ((x2.1, x6, x25), x43, ([] : List Int), 0, 0, 0, 0, 0, 0) 0 0 x46).1.2.2.2.2.2.2.1), .int .i64 ((Ab ((x2.1, x6, x25), x43, ([] : List Int), 0, 0, 0, 0, 0, 0) 0 0 x46).1.2.2.2.2.2.2.2.1), .int .i64 ((Ab ((x2.1, x6, x25), x43, ([] : List Int), 0, 0, 0, 0, 0, 0) 0 0 x46).1.2.2.2.2.2.2.2.2)]), (b2, [.int .i64 ((Ab ((x2.1, x6, x25), x43, ([] : List Int), 0, 0, 0, 0, 0, 0) 0 0 x46).2.1)]), (b3, [.int .i64 ((Ab ((x2.1, x6, x25), x43, ([] : List Int), 0, 0, 0, 0, 0, 0) 0 0 x46).2.2)])]) (ZZ := fun x => [row x.1 41 Bu ((Ab ((x2.1, x6, x25), x43, ([] : List Int), 0, 0, 0, 0, 0, 0) 0 0 x46).1.1.2.1), row x.2.1 43 BC ((Ab ((x2.1, x6, x25), x43, ([] : List Int), 0, 0, 0, 0, 0, 0) 0 0 x46).1.1.2.2), row x.2.2.1 39 (Rp.slice (Rp.int .u64)) ((Ab ((x2.1, x6, x25), x43, ([] : List Int), 0, 0, 0, 0, 0, 0) 0 0 x46).1.2.1), row x.2.2.2 3 (Rp.int .i64) ((Ab ((x2.1, x6, x25), x43, ([] : List Int), 0, 0, 0, 0, 0, 0) 0 0 x46).1.2.2.1)]) F Jh (by simp) (fun hL => Aw _ _ w b1 (v1) (v14) (v28) (Value.slice none 0 0) b2 b3 ((x2.1, x6, x25), x43, ([] : List Int), 0, 0, 0, 0, 0, 0) 0 0 x46 _ Aa hL) fun x w F => ?_
   obtain ⟨v36, v37, v38, v39⟩ := x
   have F : Stw ⟨Y, [], w0⟩ [(b1, [.int .i64 ((Ab ((x2.1, x6, x25), x43, ([] : List Int), 0, 0, 0, 0, 0, 0) 0 0 x46).1.1.1), v36, v37, v38, v39, .int .i64 ((Ab ((x2.1, x6, x25), x43, ([] : List Int), 0, 0, 0, 0, 0, 0) 0 0 x46).1.2.2.2.1), .int .i64 ((Ab ((x2.1, x6, x25), x43, ([] : List Int), 0, 0, 0, 0, 0, 0) 0 0 x46).1.2.2.2.2.1), .int .i64 ((Ab ((x2.1, x6, x25), x43, ([] : List Int), 0, 0, 0, 0, 0, 0) 0 0 x46).1.2.2.2.2.2.1), .int .i64 ((Ab ((x2.1, x6, x25), x43, ([] : List Int), 0, 0, 0, 0, 0, 0) 0 0 x46).1.2.2.2.2.2.2.1), .int .i64 ((Ab ((x2.1, x6, x25), x43, ([] : List Int), 0, 0, 0, 0, 0, 0) 0 0 x46).1.2.2.2.2.2.2.2.1), .int .i64 ((Ab ((x2.1, x6, x25), x43, ([] : List Int), 0, 0, 0, 0, 0, 0) 0 0 x46).1.2.2.2.2.2.2.2.2)]), (b2, [.int .i64 ((Ab ((x2.1, x6, x25), x43, ([] : List Int), 0, 0, 0, 0, 0, 0) 0 0 x46).2.1)]), (b3, [.int .i64 ((Ab ((x2.1, x6, x25), x43, ([] : List Int), 0, 0, 0, 0, 0, 0) 0 0 x46).2.2)]), (b4, [.string (bs x41), .int .i64 x42])] [row v36 41 Bu ((Ab ((x2.1, x6, x25), x43, ([] : List Int), 0, 0, 0, 0, 0, 0) 0 0 x46).1.1.2.1), row v37 43 BC ((Ab ((x2.1, x6, x25), x43, ([] : List Int), 0, 0, 0, 0, 0, 0) 0 0 x46).1.1.2.2), row v38 39 (Rp.slice (Rp.int .u64)) ((Ab ((x2.1, x6, x25), x43, ([] : List Int), 0, 0, 0, 0, 0, 0) 0 0 x46).1.2.1), row v39 3 (Rp.int .i64) ((Ab ((x2.1, x6, x25), x43, ([] : List Int), 0, 0, 0, 0, 0, 0) 0 0 x46).1.2.2.1)] w := F
   have H := L6 _ H
   have H := L5 _ H
   have H := A2 H
   subst H
   refine C0 F Aa (AN 0 W Aa Aa Gv Aa) (AN 1 W Aa Aa T3 Aa) (AN 2 W Aa Aa IA Aa) ?_
   have F := F.frontZ (i := 3) Aa Aa
   have F := F.frontZ (i := 3) Aa Aa
   have F := F.frontZ (i := 3) Aa Aa
   have F := F.frontZ (i := 3) Aa Aa
   have F := F.sub (M' := []) (Z' := [row v36 41 Bu ((Ab ((x2.1, x6, x25), x43, ([] : List Int), 0, 0, 0, 0, 0, 0) 0 0 x46).1.1.2.1), row v37 43 BC ((Ab ((x2.1, x6, x25), x43, ([] : List Int), 0, 0, 0, 0, 0, 0) 0 0 x46).1.1.2.2), row v38 39 (Rp.slice (Rp.int .u64)) ((Ab ((x2.1, x6, x25), x43, ([] : List Int), 0, 0, 0, 0, 0, 0) 0 0 x46).1.2.1), row v39 3 (Rp.int .i64) ((Ab ((x2.1, x6, x25), x43, ([] : List Int), 0, 0, 0, 0, 0, 0) 0 0 x46).1.2.2.1)]) (List.nil_sublist _) (List.Sublist.refl _)
   exact ⟨((v36), (v37), (v38), (v39)), Aa, F⟩
  rintro a w ⟨x38, x39, x40, v27, hj, W, F⟩
  have H := K5 _ hj
  clear hj G5 K5 L5
  refine Aj (Ac ?_)
  refine ls W F Aa (Ae W Aa).q fun a w W F => ?_
  obtain ⟨x51, h19, H⟩ := An H
  rcases x51 with x52 | x53
  ·
   have H := EG H
   refine AE (Ml := [(b4, [.string (bs x38), .int .i64 x39])]) (Zl := []) (M := (JJ b3 b2 b1 x2 v1 v14 v27)) (Z := [row v1 41 Bu x6, row v14 43 BC x25, row v27 39 (Rp.slice (Rp.int .u64)) x40]) (β := Value) (rv := fun x => x) (MM := fun x => [(b4, [.string (bs x52.2.1), .int .i64 x52.2.2])]) (ZZ := fun x => [row x 3 (Rp.int .i64) x52.1]) W F Mo Aa Aa (fun hL => Bm _ _ w b4 (x38, x39) ([115, 116, 97, 114, 116, 115] : List UInt8) (-1) _ h19 (hG.go F) hL) fun x a w W F => ?_
   obtain ⟨v40, rfl⟩ : ∃ y, y = x := ⟨x, rfl⟩
   have F : Stw ⟨Y, [], w0⟩ [(b4, [.string (bs x52.2.1), .int .i64 x52.2.2]), (b3, [.int .i64 0]), (b2, [.int .i64 0]), (b1, (El x2 v1 v14 v27))] [row v40 3 (Rp.int .i64) x52.1, row v1 41 Bu x6, row v14 43 BC x25, row v27 39 (Rp.slice (Rp.int .u64)) x40] w := F
   refine ls W F Aa (Ak CH Aa Aa Aa LZ W Aa 4 Aa).q fun a w W F => ?_
   refine Ge (M' := [(b4, [.string (bs x52.2.1), .int .i64 x52.2.2]), (b3, [.int .i64 0]), (b2, [.int .i64 0]), (b1, (KX x2 v1 v14 v27 v40))]) 3 W F Aa Aa Aa LZ (F.one (k := 0) Aa) Aa Aa fun w F => ?_
   refine Af (Ad (Aj (Ac ?_)))
   refine ls W F Aa (Ae W Aa).q fun a w W F => ?_
   obtain ⟨x54, h20, H⟩ := An H
   rcases x54 with x55 | x56
   ·
    have H := EG H
    refine AE (Ml := [(b4, [.string (bs x52.2.1), .int .i64 x52.2.2])]) (Zl := []) (M := [(b3, [.int .i64 0]), (b2, [.int .i64 0]), (b1, [.int .i64 x2.1, v1, v14, v27, v40, .int .i64 0, .int .i64 0, .int .i64 0, .int .i64 0, .int .i64 0, .int .i64 0])]) (Z := [row v40 3 (Rp.int .i64) x52.1, row v1 41 Bu x6, row v14 43 BC x25, row v27 39 (Rp.slice (Rp.int .u64)) x40]) (β := Unit) (rv := fun x => .int .i64 x55.1) (MM := fun x => [(b4, [.string (bs x55.2.1), .int .i64 x55.2.2])]) (ZZ := fun x => []) W F Jz Aa Aa (fun hL => Ay _ _ w b4 x52.2 ([114, 97, 116, 101] : List UInt8) _ h20 (hG.go F) hL) fun x a w W F => ?_
    have F : Stw ⟨Y, [], w0⟩ [(b4, [.string (bs x55.2.1), .int .i64 x55.2.2]), (b3, [.int .i64 0]), (b2, [.int .i64 0]), (b1, (KX x2 v1 v14 v27 v40))] [row v40 3 (Rp.int .i64) x52.1, row v1 41 Bu x6, row v14 43 BC x25, row v27 39 (Rp.slice (Rp.int .u64)) x40] w := F
    refine ls W F Aa (Ak CH Aa Aa Aa T3 W Aa 5 Aa).q fun a w W F => ?_
    refine Ch (vs := [.int .i64 x55.1]) (M' := [(b4, [.string (bs x55.2.1), .int .i64 x55.2.2]), (b3, [.int .i64 0]), (b2, [.int .i64 0]), (b1, (KD x2 v1 v14 v27 v40 x55))]) 3 W F Aa Aa Aa T3 Aa Aa Aa Aa Aa fun w F => ?_
    refine Af (Ad (Aj (Ac ?_)))
    refine ls W F Aa (Ae W Aa).q fun a w W F => ?_
    obtain ⟨x57, h21, H⟩ := An H
    rcases x57 with x58 | x59
    ·
     have H := EG H
     refine AE (Ml := [(b4, [.string (bs x55.2.1), .int .i64 x55.2.2])]) (Zl := []) (M := [(b3, [.int .i64 0]), (b2, [.int .i64 0]), (b1, [.int .i64 x2.1, v1, v14, v27, v40, .int .i64 x55.1, .int .i64 0, .int .i64 0, .int .i64 0, .int .i64 0, .int .i64 0])]) (Z := [row v40 3 (Rp.int .i64) x52.1, row v1 41 Bu x6, row v14 43 BC x25, row v27 39 (Rp.slice (Rp.int .u64)) x40]) (β := Unit) (rv := fun x => .int .i64 x58.1) (MM := fun x => [(b4, [.string (bs x58.2.1), .int .i64 x58.2.2])]) (ZZ := fun x => []) W F Jz Aa Aa (fun hL => Ay _ _ w b4 x55.2 ([114, 111, 111, 109] : List UInt8) _ h21 (hG.go F) hL) fun x a w W F => ?_
     have F : Stw ⟨Y, [], w0⟩ [(b4, [.string (bs x58.2.1), .int .i64 x58.2.2]), (b3, [.int .i64 0]), (b2, [.int .i64 0]), (b1, (KD x2 v1 v14 v27 v40 x55))] [row v40 3 (Rp.int .i64) x52.1, row v1 41 Bu x6, row v14 43 BC x25, row v27 39 (Rp.slice (Rp.int .u64)) x40] w := F
     refine ls W F Aa (Ak CH Aa Aa Aa T3 W Aa 6 Aa).q fun a w W F => ?_
     refine Ch (vs := [.int .i64 x58.1]) (M' := [(b4, [.string (bs x58.2.1), .int .i64 x58.2.2]), (b3, [.int .i64 0]), (b2, [.int .i64 0]), (b1, (Ig x2 v1 v14 v27 v40 x55 x58))]) 3 W F Aa Aa Aa T3 Aa Aa Aa Aa Aa fun w F => ?_
     refine Af (Ad (Aj (Ac ?_)))
     refine ls W F Aa (Ae W Aa).q fun a w W F => ?_
     obtain ⟨x60, h22, H⟩ := An H
     rcases x60 with x61 | x62
     ·
      have H := EG H
      refine AE (Ml := [(b4, [.string (bs x58.2.1), .int .i64 x58.2.2])]) (Zl := []) (M := [(b3, [.int .i64 0]), (b2, [.int .i64 0]), (b1, (Ig x2 v1 v14 v27 v40 x55 x58))]) (Z := [row v40 3 (Rp.int .i64) x52.1, row v1 41 Bu x6, row v14 43 BC x25, row v27 39 (Rp.slice (Rp.int .u64)) x40]) (β := Unit) (rv := fun x => .int .i64 x61.1) (MM := fun x => [(b4, [.string (bs x61.2.1), .int .i64 x61.2.2])]) (ZZ := fun x => []) W F Jz Aa Aa (fun hL => Ay _ _ w b4 x58.2 ([119, 105, 100, 101] : List UInt8) _ h22 (hG.go F) hL) fun x a w W F => ?_
      have F : Stw ⟨Y, [], w0⟩ [(b4, [.string (bs x61.2.1), .int .i64 x61.2.2]), (b3, [.int .i64 0]), (b2, [.int .i64 0]), (b1, (Ig x2 v1 v14 v27 v40 x55 x58))] [row v40 3 (Rp.int .i64) x52.1, row v1 41 Bu x6, row v14 43 BC x25, row v27 39 (Rp.slice (Rp.int .u64)) x40] w := F
      refine ls W F Aa (Ak CH Aa Aa Aa T3 W Aa 7 Aa).q fun a w W F => ?_
      refine Ch (vs := [.int .i64 x61.1]) (M' := [(b4, [.string (bs x61.2.1), .int .i64 x61.2.2]), (b3, [.int .i64 0]), (b2, [.int .i64 0]), (b1, (Ie x2 v1 v14 v27 v40 x55 x58 x61))]) 3 W F Aa Aa Aa T3 Aa Aa Aa Aa Aa fun w F => ?_
      refine Af (Ad (Aj (Ac ?_)))
      refine ls W F Aa (Ae W Aa).q fun a w W F => ?_
      obtain ⟨x63, h23, H⟩ := An H
      rcases x63 with x64 | x65
      ·
       have H := EG H
       refine AE (Ml := [(b4, [.string (bs x61.2.1), .int .i64 x61.2.2])]) (Zl := []) (M := [(b3, [.int .i64 0]), (b2, [.int .i64 0]), (b1, (Ie x2 v1 v14 v27 v40 x55 x58 x61))]) (Z := [row v40 3 (Rp.int .i64) x52.1, row v1 41 Bu x6, row v14 43 BC x25, row v27 39 (Rp.slice (Rp.int .u64)) x40]) (β := Unit) (rv := fun x => .int .i64 x64.1) (MM := fun x => [(b4, [.string (bs x64.2.1), .int .i64 x64.2.2])]) (ZZ := fun x => []) W F Jz Aa Aa (fun hL => Ay _ _ w b4 x61.2 ([108, 101, 97, 100] : List UInt8) _ h23 (hG.go F) hL) fun x a w W F => ?_
       have F : Stw ⟨Y, [], w0⟩ [(b4, [.string (bs x64.2.1), .int .i64 x64.2.2]), (b3, [.int .i64 0]), (b2, [.int .i64 0]), (b1, (Ie x2 v1 v14 v27 v40 x55 x58 x61))] [row v40 3 (Rp.int .i64) x52.1, row v1 41 Bu x6, row v14 43 BC x25, row v27 39 (Rp.slice (Rp.int .u64)) x40] w := F
       refine ls W F Aa (Ak CH Aa Aa Aa T3 W Aa 8 Aa).q fun a w W F => ?_
       refine Ch (vs := [.int .i64 x64.1]) (M' := [(b4, [.string (bs x64.2.1), .int .i64 x64.2.2]), (b3, [.int .i64 0]), (b2, [.int .i64 0]), (b1, (H3 x2 v1 v14 v27 v40 x55 x58 x61 x64))]) 3 W F Aa Aa Aa T3 Aa Aa Aa Aa Aa fun w F => ?_
       refine Af (Ad (Aj (Ac ?_)))
       refine ls W F Aa (Ae W Aa).q fun a w W F => ?_
       obtain ⟨x66, h24, H⟩ := An H
       rcases x66 with x67 | x68
       ·
        have H := EG H
        refine AE (Ml := [(b4, [.string (bs x64.2.1), .int .i64 x64.2.2])]) (Zl := []) (M := [(b3, [.int .i64 0]), (b2, [.int .i64 0]), (b1, (H3 x2 v1 v14 v27 v40 x55 x58 x61 x64))]) (Z := [row v40 3 (Rp.int .i64) x52.1, row v1 41 Bu x6, row v14 43 BC x25, row v27 39 (Rp.slice (Rp.int .u64)) x40]) (β := Unit) (rv := fun x => .int .i64 x67.1) (MM := fun x => [(b4, [.string (bs x67.2.1), .int .i64 x67.2.2])]) (ZZ := fun x => []) W F Jz Aa Aa (fun hL => Ay _ _ w b4 x64.2 ([109, 97, 114, 103, 105, 110] : List UInt8) _ h24 (hG.go F) hL) fun x a w W F => ?_
        have F : Stw ⟨Y, [], w0⟩ [(b4, [.string (bs x67.2.1), .int .i64 x67.2.2]), (b3, [.int .i64 0]), (b2, [.int .i64 0]), (b1, (H3 x2 v1 v14 v27 v40 x55 x58 x61 x64))] [row v40 3 (Rp.int .i64) x52.1, row v1 41 Bu x6, row v14 43 BC x25, row v27 39 (Rp.slice (Rp.int .u64)) x40] w := F
        refine ls W F Aa (Ak CH Aa Aa Aa T3 W Aa 9 Aa).q fun a w W F => ?_
        refine Ch (vs := [.int .i64 x67.1]) (M' := [(b4, [.string (bs x67.2.1), .int .i64 x67.2.2]), (b3, [.int .i64 0]), (b2, [.int .i64 0]), (b1, [.int .i64 x2.1, v1, v14, v27, v40, .int .i64 x55.1, .int .i64 x58.1, .int .i64 x61.1, .int .i64 x64.1, .int .i64 x67.1, .int .i64 0])]) 3 W F Aa Aa Aa T3 Aa Aa Aa Aa Aa fun w F => ?_
        refine Af (Ad (Aj (Ac ?_)))
        refine ls W F Aa (Ae W Aa).q fun a w W F => ?_
        obtain ⟨x69, h25, H⟩ := An H
        rcases x69 with x70 | x71
        ·
         have H := EG H
         refine AE (Ml := [(b4, [.string (bs x67.2.1), .int .i64 x67.2.2])]) (Zl := []) (M := [(b3, [.int .i64 0]), (b2, [.int .i64 0]), (b1, [.int .i64 x2.1, v1, v14, v27, v40, .int .i64 x55.1, .int .i64 x58.1, .int .i64 x61.1, .int .i64 x64.1, .int .i64 x67.1, .int .i64 0])]) (Z := [row v40 3 (Rp.int .i64) x52.1, row v1 41 Bu x6, row v14 43 BC x25, row v27 39 (Rp.slice (Rp.int .u64)) x40]) (β := Unit) (rv := fun x => .int .i64 x70.1) (MM := fun x => [(b4, [.string (bs x70.2.1), .int .i64 x70.2.2])]) (ZZ := fun x => []) W F Jz Aa Aa (fun hL => Ay _ _ w b4 x67.2 ([114, 101, 116, 114, 121] : List UInt8) _ h25 (hG.go F) hL) fun x a w W F => ?_
         have F : Stw ⟨Y, [], w0⟩ [(b4, [.string (bs x70.2.1), .int .i64 x70.2.2]), (b3, [.int .i64 0]), (b2, [.int .i64 0]), (b1, [.int .i64 x2.1, v1, v14, v27, v40, .int .i64 x55.1, .int .i64 x58.1, .int .i64 x61.1, .int .i64 x64.1, .int .i64 x67.1, .int .i64 0])] [row v40 3 (Rp.int .i64) x52.1, row v1 41 Bu x6, row v14 43 BC x25, row v27 39 (Rp.slice (Rp.int .u64)) x40] w := F
         refine ls W F Aa (Ak CH Aa Aa Aa T3 W Aa 10 Aa).q fun a w W F => ?_
         refine Ch (vs := [.int .i64 x70.1]) (M' := [(b4, [.string (bs x70.2.1), .int .i64 x70.2.2]), (b3, [.int .i64 0]), (b2, [.int .i64 0]), (b1, [.int .i64 x2.1, v1, v14, v27, v40, .int .i64 x55.1, .int .i64 x58.1, .int .i64 x61.1, .int .i64 x64.1, .int .i64 x67.1, .int .i64 x70.1])]) 3 W F Aa Aa Aa T3 Aa Aa Aa Aa Aa fun w F => ?_
         refine Af (Ad (Aj (Ac ?_)))
         refine ls W F Aa (Ae W Aa).q fun a w W F => ?_
         obtain ⟨x72, hx72, H⟩ := An H
         have hx72 := A2 hx72
         rcases x72 with x73 | x74
         ·
          have H := EG H
          refine AE (Ml := []) (Zl := []) (M := [(b4, [.string (bs x70.2.1), .int .i64 x70.2.2]), (b3, [.int .i64 0]), (b2, [.int .i64 0]), (b1, [.int .i64 x2.1, v1, v14, v27, v40, .int .i64 x55.1, .int .i64 x58.1, .int .i64 x61.1, .int .i64 x64.1, .int .i64 x67.1, .int .i64 x70.1])]) (Z := [row v40 3 (Rp.int .i64) x52.1, row v1 41 Bu x6, row v14 43 BC x25, row v27 39 (Rp.slice (Rp.int .u64)) x40]) (β := Unit) (rv := fun x => .tuple #[]) (MM := fun x => []) (ZZ := fun x => []) W F NU Aa Aa (fun hL => EL _ w b4 x70.2 _ hx72 (Fs F 0 Aa)) fun x a w W F => ?_
          have F : Stw ⟨Y, [], w0⟩ [(b4, [.string (bs x70.2.1), .int .i64 x70.2.2]), (b3, [.int .i64 0]), (b2, [.int .i64 0]), (b1, [.int .i64 x2.1, v1, v14, v27, v40, .int .i64 x55.1, .int .i64 x58.1, .int .i64 x61.1, .int .i64 x64.1, .int .i64 x67.1, .int .i64 x70.1])] [row v40 3 (Rp.int .i64) x52.1, row v1 41 Bu x6, row v14 43 BC x25, row v27 39 (Rp.slice (Rp.int .u64)) x40] w := F
          refine Af (Ad (Aj (Ac ?_)))
          refine ls W F Aa (AW (v := Value.agg #[.int .i64 x2.1, v1, v14, v27, v40, .int .i64 x55.1, .int .i64 x58.1, .int .i64 x61.1, .int .i64 x64.1, .int .i64 x67.1, .int .i64 x70.1]) 3 W Aa Aa Gv Aa).q fun a w W F => ?_
          refine Ch (vs := [.int .i64 x2.1, v1, v14, v27, v40, .int .i64 x55.1, .int .i64 x58.1, .int .i64 x61.1, .int .i64 x64.1, .int .i64 x67.1, .int .i64 x70.1]) (M' := [(b4, [.string (bs x70.2.1), .int .i64 x70.2.2]), (b3, [.int .i64 0]), (b2, [.int .i64 0]), (b1, [.int .i64 x2.1, v1, v14, v27, v40, .int .i64 x55.1, .int .i64 x58.1, .int .i64 x61.1, .int .i64 x64.1, .int .i64 x67.1, .int .i64 x70.1])]) 3 W F Aa Aa Aa Gv Aa Aa Aa (AC Aa (AC (F.one (k := 1) Aa) (AC (F.one (k := 2) Aa) (AC (F.one (k := 3) Aa) (AC (F.one (k := 0) Aa) (AC Aa (AC Aa (AC Aa (AC Aa (AC Aa (AC Aa GY))))))))))) Aa fun w F => ?_
          refine Ch (vs := [.int .i64 0]) (M' := [(b4, [.string (bs x70.2.1), .int .i64 x70.2.2]), (b3, [.int .i64 0]), (b2, [.int .i64 0]), (b1, [.int .i64 x2.1, v1, v14, v27, v40, .int .i64 x55.1, .int .i64 x58.1, .int .i64 x61.1, .int .i64 x64.1, .int .i64 x67.1, .int .i64 x70.1])]) 2 W F Aa Aa Aa T3 Aa Aa Aa Aa Aa fun w F => ?_
          refine Ch (vs := [.int .i64 0]) (M' := [(b4, [.string (bs x70.2.1), .int .i64 x70.2.2]), (b3, [.int .i64 0]), (b2, [.int .i64 0]), (b1, [.int .i64 x2.1, v1, v14, v27, v40, .int .i64 x55.1, .int .i64 x58.1, .int .i64 x61.1, .int .i64 x64.1, .int .i64 x67.1, .int .i64 x70.1])]) 1 W F Aa Aa Aa IA Aa Aa Aa Aa Aa fun w F => ?_
          refine Af (Ad (A1 ?_))
          refine Kd (.inl Aa) W ?_
          have F := F.frontZ (i := 3) Aa Aa
          have F := F.frontZ (i := 3) Aa Aa
          have F := F.frontZ (i := 3) Aa Aa
          have F := F.frontM (i := 1) Aa Aa
          have F := F.frontM (i := 2) Aa Aa
          have F := F.frontM (i := 3) Aa Aa
          refine C2 (Ml := [(b1, [.int .i64 x2.1, v1, v14, v27, v40, .int .i64 x55.1, .int .i64 x58.1, .int .i64 x61.1, .int .i64 x64.1, .int .i64 x67.1, .int .i64 x70.1]), (b2, [.int .i64 0]), (b3, [.int .i64 0])]) (Zl := [row v1 41 Bu x6, row v14 43 BC x25, row v27 39 (Rp.slice (Rp.int .u64)) x40, row v40 3 (Rp.int .i64) x52.1]) (M := [(b4, [.string (bs x70.2.1), .int .i64 x70.2.2])]) (Z := []) (β := Unit) (u' := .returning) (MM := fun x => [(b1, [.int .i64 (((x2.1, x6, x25), x40, x52.1, x55.1, x58.1, x61.1, x64.1, x67.1, x70.1).1.1), (v1), (v14), (v27), (v40), .int .i64 (((x2.1, x6, x25), x40, x52.1, x55.1, x58.1, x61.1, x64.1, x67.1, x70.1).2.2.2.1), .int .i64 (((x2.1, x6, x25), x40, x52.1, x55.1, x58.1, x61.1, x64.1, x67.1, x70.1).2.2.2.2.1), .int .i64 (((x2.1, x6, x25), x40, x52.1, x55.1, x58.1, x61.1, x64.1, x67.1, x70.1).2.2.2.2.2.1), .int .i64 (((x2.1, x6, x25), x40, x52.1, x55.1, x58.1, x61.1, x64.1, x67.1, x70.1).2.2.2.2.2.2.1), .int .i64 (((x2.1, x6, x25), x40, x52.1, x55.1, x58.1, x61.1, x64.1, x67.1, x70.1).2.2.2.2.2.2.2.1), .int .i64 (((x2.1, x6, x25), x40, x52.1, x55.1, x58.1, x61.1, x64.1, x67.1, x70.1).2.2.2.2.2.2.2.2)]), (b2, [.int .i64 0]), (b3, [.int .i64 0])]) (ZZ := fun x => [row (v1) 41 Bu (((x2.1, x6, x25), x40, x52.1, x55.1, x58.1, x61.1, x64.1, x67.1, x70.1).1.2.1), row (v14) 43 BC (((x2.1, x6, x25), x40, x52.1, x55.1, x58.1, x61.1, x64.1, x67.1, x70.1).1.2.2), row (v27) 39 (Rp.slice (Rp.int .u64)) (((x2.1, x6, x25), x40, x52.1, x55.1, x58.1, x61.1, x64.1, x67.1, x70.1).2.1), row (v40) 3 (Rp.int .i64) (((x2.1, x6, x25), x40, x52.1, x55.1, x58.1, x61.1, x64.1, x67.1, x70.1).2.2.1)]) F Jh (by simp) (fun hL => Fv _ _ w b1 (v1) (v14) (v27) (v40) b2 b3 ((x2.1, x6, x25), x40, x52.1, x55.1, x58.1, x61.1, x64.1, x67.1, x70.1) 0 0 _ Aa hL) fun _ w F => ?_
          have F : Stw ⟨Y, [], w0⟩ [(b1, [.int .i64 (((x2.1, x6, x25), x40, x52.1, x55.1, x58.1, x61.1, x64.1, x67.1, x70.1).1.1), (v1), (v14), (v27), (v40), .int .i64 (((x2.1, x6, x25), x40, x52.1, x55.1, x58.1, x61.1, x64.1, x67.1, x70.1).2.2.2.1), .int .i64 (((x2.1, x6, x25), x40, x52.1, x55.1, x58.1, x61.1, x64.1, x67.1, x70.1).2.2.2.2.1), .int .i64 (((x2.1, x6, x25), x40, x52.1, x55.1, x58.1, x61.1, x64.1, x67.1, x70.1).2.2.2.2.2.1), .int .i64 (((x2.1, x6, x25), x40, x52.1, x55.1, x58.1, x61.1, x64.1, x67.1, x70.1).2.2.2.2.2.2.1), .int .i64 (((x2.1, x6, x25), x40, x52.1, x55.1, x58.1, x61.1, x64.1, x67.1, x70.1).2.2.2.2.2.2.2.1), .int .i64 (((x2.1, x6, x25), x40, x52.1, x55.1, x58.1, x61.1, x64.1, x67.1, x70.1).2.2.2.2.2.2.2.2)]), (b2, [.int .i64 0]), (b3, [.int .i64 0]), (b4, [.string (bs x70.2.1), .int .i64 x70.2.2])] [row (v1) 41 Bu (((x2.1, x6, x25), x40, x52.1, x55.1, x58.1, x61.1, x64.1, x67.1, x70.1).1.2.1), row (v14) 43 BC (((x2.1, x6, x25), x40, x52.1, x55.1, x58.1, x61.1, x64.1, x67.1, x70.1).1.2.2), row (v27) 39 (Rp.slice (Rp.int .u64)) (((x2.1, x6, x25), x40, x52.1, x55.1, x58.1, x61.1, x64.1, x67.1, x70.1).2.1), row (v40) 3 (Rp.int .i64) (((x2.1, x6, x25), x40, x52.1, x55.1, x58.1, x61.1, x64.1, x67.1, x70.1).2.2.1)] w := F
          have H := A2 H
          subst H
          refine C0 F Aa (AN 0 W Aa Aa Gv Aa) (AN 1 W Aa Aa T3 Aa) (AN 2 W Aa Aa IA Aa) ?_
          have F := F.frontZ (i := 3) Aa Aa
          have F := F.frontZ (i := 3) Aa Aa
          have F := F.frontZ (i := 3) Aa Aa
          have F := F.frontZ (i := 3) Aa Aa
          have F := F.sub (M' := []) (Z' := [row (v1) 41 Bu (((x2.1, x6, x25), x40, x52.1, x55.1, x58.1, x61.1, x64.1, x67.1, x70.1).1.2.1), row (v14) 43 BC (((x2.1, x6, x25), x40, x52.1, x55.1, x58.1, x61.1, x64.1, x67.1, x70.1).1.2.2), row (v27) 39 (Rp.slice (Rp.int .u64)) (((x2.1, x6, x25), x40, x52.1, x55.1, x58.1, x61.1, x64.1, x67.1, x70.1).2.1), row (v40) 3 (Rp.int .i64) (((x2.1, x6, x25), x40, x52.1, x55.1, x58.1, x61.1, x64.1, x67.1, x70.1).2.2.1)]) (List.nil_sublist _) (List.Sublist.refl _)
          exact ⟨(((v1)), ((v14)), ((v27)), ((v40))), Aa, F⟩
         have H := EF H
         refine BH (Ml := []) (Zl := []) (M := [(b4, [.string (bs x70.2.1), .int .i64 x70.2.2]), (b3, [.int .i64 0]), (b2, [.int .i64 0]), (b1, [.int .i64 x2.1, v1, v14, v27, v40, .int .i64 x55.1, .int .i64 x58.1, .int .i64 x61.1, .int .i64 x64.1, .int .i64 x67.1, .int .i64 x70.1])]) (Z := [row v40 3 (Rp.int .i64) x52.1, row v1 41 Bu x6, row v14 43 BC x25, row v27 39 (Rp.slice (Rp.int .u64)) x40]) (β := Unit) (pv := fun x => .iface 75 (.agg #[.int .i64 x74])) (MM := fun x => []) (ZZ := fun x => []) W F NU Aa (fun hL => EL _ w b4 x70.2 _ hx72 (Fs F 0 Aa)) fun x w F => ?_
         have F : Stw ⟨Y, [], w0⟩ [(b4, [.string (bs x70.2.1), .int .i64 x70.2.2]), (b3, [.int .i64 0]), (b2, [.int .i64 0]), (b1, [.int .i64 x2.1, v1, v14, v27, v40, .int .i64 x55.1, .int .i64 x58.1, .int .i64 x61.1, .int .i64 x64.1, .int .i64 x67.1, .int .i64 x70.1])] [row v40 3 (Rp.int .i64) x52.1, row v1 41 Bu x6, row v14 43 BC x25, row v27 39 (Rp.slice (Rp.int .u64)) x40] w := F
         refine Bp ?_
         refine BK W ?_
         have F := F.frontZ (i := 3) Aa Aa
         have F := F.frontZ (i := 3) Aa Aa
         have F := F.frontZ (i := 3) Aa Aa
         have F := F.frontM (i := 1) Aa Aa
         have F := F.frontM (i := 2) Aa Aa
         have F := F.frontM (i := 3) Aa Aa
         refine C2 (Ml := [(b1, [.int .i64 x2.1, v1, v14, v27, v40, .int .i64 x55.1, .int .i64 x58.1, .int .i64 x61.1, .int .i64 x64.1, .int .i64 x67.1, .int .i64 x70.1]), (b2, [.int .i64 0]), (b3, [.int .i64 0])]) (Zl := [row v1 41 Bu x6, row v14 43 BC x25, row v27 39 (Rp.slice (Rp.int .u64)) x40, row v40 3 (Rp.int .i64) x52.1]) (M := [(b4, [.string (bs x70.2.1), .int .i64 x70.2.2])]) (Z := []) (β := Value × Value × Value × Value) (u' := (.panicking ({ v := .iface 75 (.agg #[.int .i64 x74]), recovered := true } :: []))) (MM := fun x => [(b1, [.int .i64 ((Ab ((x2.1, x6, x25), x40, x52.1, x55.1, x58.1, x61.1, x64.1, x67.1, x70.1) 0 0 x74).1.1.1), x.1, x.2.1, x.2.2.1, x.2.2.2, .int .i64 ((Ab ((x2.1, x6, x25), x40, x52.1, x55.1, x58.1, x61.1, x64.1, x67.1, x70.1) 0 0 x74).1.2.2.2.1), .int .i64 ((Ab ((x2.1, x6, x25), x40, x52.1, x55.1, x58.1, x61.1, x64.1, x67.1, x70.1) 0 0 x74).1.2.2.2.2.1), .int .i64 ((Ab ((x2.1, x6, x25), x40, x52.1, x55.1, x58.1, x61.1, x64.1, x67.1, x70.1) 0 0 x74).1.2.2.2.2.2.1), .int .i64 ((Ab ((x2.1, x6, x25), x40, x52.1, x55.1, x58.1, x61.1, x64.1, x67.1, x70.1) 0 0 x74).1.2.2.2.2.2.2.1), .int .i64 ((Ab ((x2.1, x6, x25), x40, x52.1, x55.1, x58.1, x61.1, x64.1, x67.1, x70.1) 0 0 x74).1.2.2.2.2.2.2.2.1), .int .i64 ((Ab ((x2.1, x6, x25), x40, x52.1, x55.1, x58.1, x61.1, x64.1, x67.1, x70.1) 0 0 x74).1.2.2.2.2.2.2.2.2)]), (b2, [.int .i64 ((Ab ((x2.1, x6, x25), x40, x52.1, x55.1, x58.1, x61.1, x64.1, x67.1, x70.1) 0 0 x74).2.1)]), (b3, [.int .i64 ((Ab ((x2.1, x6, x25), x40, x52.1, x55.1, x58.1, x61.1, x64.1, x67.1, x70.1) 0 0 x74).2.2)])]) (ZZ := fun x => [row x.1 41 Bu ((Ab ((x2.1, x6, x25), x40, x52.1, x55.1, x58.1, x61.1, x64.1, x67.1, x70.1) 0 0 x74).1.1.2.1), row x.2.1 43 BC ((Ab ((x2.1, x6, x25), x40, x52.1, x55.1, x58.1, x61.1, x64.1, x67.1, x70.1) 0 0 x74).1.1.2.2), row x.2.2.1 39 (Rp.slice (Rp.int .u64)) ((Ab ((x2.1, x6, x25), x40, x52.1, x55.1, x58.1, x61.1, x64.1, x67.1, x70.1) 0 0 x74).1.2.1), row x.2.2.2 3 (Rp.int .i64) ((Ab ((x2.1, x6, x25), x40, x52.1, x55.1, x58.1, x61.1, x64.1, x67.1, x70.1) 0 0 x74).1.2.2.1)]) F Jh (by simp) (fun hL => Aw _ _ w b1 (v1) (v14) (v27) (v40) b2 b3 ((x2.1, x6, x25), x40, x52.1, x55.1, x58.1, x61.1, x64.1, x67.1, x70.1) 0 0 x74 _ Aa hL) fun x w F => ?_
         obtain ⟨v41, v42, v43, v44⟩ := x
         have F : Stw ⟨Y, [], w0⟩ [(b1, [.int .i64 ((Ab ((x2.1, x6, x25), x40, x52.1, x55.1, x58.1, x61.1, x64.1, x67.1, x70.1) 0 0 x74).1.1.1), v41, v42, v43, v44, .int .i64 ((Ab ((x2.1, x6, x25), x40, x52.1, x55.1, x58.1, x61.1, x64.1, x67.1, x70.1) 0 0 x74).1.2.2.2.1), .int .i64 ((Ab ((x2.1, x6, x25), x40, x52.1, x55.1, x58.1, x61.1, x64.1, x67.1, x70.1) 0 0 x74).1.2.2.2.2.1), .int .i64 ((Ab ((x2.1, x6, x25), x40, x52.1, x55.1, x58.1, x61.1, x64.1, x67.1, x70.1) 0 0 x74).1.2.2.2.2.2.1), .int .i64 ((Ab ((x2.1, x6, x25), x40, x52.1, x55.1, x58.1, x61.1, x64.1, x67.1, x70.1) 0 0 x74).1.2.2.2.2.2.2.1), .int .i64 ((Ab ((x2.1, x6, x25), x40, x52.1, x55.1, x58.1, x61.1, x64.1, x67.1, x70.1) 0 0 x74).1.2.2.2.2.2.2.2.1), .int .i64 ((Ab ((x2.1, x6, x25), x40, x52.1, x55.1, x58.1, x61.1, x64.1, x67.1, x70.1) 0 0 x74).1.2.2.2.2.2.2.2.2)]), (b2, [.int .i64 ((Ab ((x2.1, x6, x25), x40, x52.1, x55.1, x58.1, x61.1, x64.1, x67.1, x70.1) 0 0 x74).2.1)]), (b3, [.int .i64 ((Ab ((x2.1, x6, x25), x40, x52.1, x55.1, x58.1, x61.1, x64.1, x67.1, x70.1) 0 0 x74).2.2)]), (b4, [.string (bs x70.2.1), .int .i64 x70.2.2])] [row v41 41 Bu ((Ab ((x2.1, x6, x25), x40, x52.1, x55.1, x58.1, x61.1, x64.1, x67.1, x70.1) 0 0 x74).1.1.2.1), row v42 43 BC ((Ab ((x2.1, x6, x25), x40, x52.1, x55.1, x58.1, x61.1, x64.1, x67.1, x70.1) 0 0 x74).1.1.2.2), row v43 39 (Rp.slice (Rp.int .u64)) ((Ab ((x2.1, x6, x25), x40, x52.1, x55.1, x58.1, x61.1, x64.1, x67.1, x70.1) 0 0 x74).1.2.1), row v44 3 (Rp.int .i64) ((Ab ((x2.1, x6, x25), x40, x52.1, x55.1, x58.1, x61.1, x64.1, x67.1, x70.1) 0 0 x74).1.2.2.1)] w := F
         have H := A2 H
         subst H
         refine C0 F Aa (AN 0 W Aa Aa Gv Aa) (AN 1 W Aa Aa T3 Aa) (AN 2 W Aa Aa IA Aa) ?_
         have F := F.frontZ (i := 3) Aa Aa
         have F := F.frontZ (i := 3) Aa Aa
         have F := F.frontZ (i := 3) Aa Aa
         have F := F.frontZ (i := 3) Aa Aa
         have F := F.sub (M' := []) (Z' := [row v41 41 Bu ((Ab ((x2.1, x6, x25), x40, x52.1, x55.1, x58.1, x61.1, x64.1, x67.1, x70.1) 0 0 x74).1.1.2.1), row v42 43 BC ((Ab ((x2.1, x6, x25), x40, x52.1, x55.1, x58.1, x61.1, x64.1, x67.1, x70.1) 0 0 x74).1.1.2.2), row v43 39 (Rp.slice (Rp.int .u64)) ((Ab ((x2.1, x6, x25), x40, x52.1, x55.1, x58.1, x61.1, x64.1, x67.1, x70.1) 0 0 x74).1.2.1), row v44 3 (Rp.int .i64) ((Ab ((x2.1, x6, x25), x40, x52.1, x55.1, x58.1, x61.1, x64.1, x67.1, x70.1) 0 0 x74).1.2.2.1)]) (List.nil_sublist _) (List.Sublist.refl _)
         exact ⟨((v41), (v42), (v43), (v44)), Aa, F⟩
        have H := EF H
        refine BH (Ml := [(b4, [.string (bs x67.2.1), .int .i64 x67.2.2])]) (Zl := []) (M := [(b3, [.int .i64 0]), (b2, [.int .i64 0]), (b1, [.int .i64 x2.1, v1, v14, v27, v40, .int .i64 x55.1, .int .i64 x58.1, .int .i64 x61.1, .int .i64 x64.1, .int .i64 x67.1, .int .i64 0])]) (Z := [row v40 3 (Rp.int .i64) x52.1, row v1 41 Bu x6, row v14 43 BC x25, row v27 39 (Rp.slice (Rp.int .u64)) x40]) (β := Unit) (pv := fun x => .iface 75 (.agg #[.int .i64 x71.1])) (MM := fun x => [(b4, [.string (bs x71.2.1), .int .i64 x71.2.2])]) (ZZ := fun x => []) W F Jz Aa (fun hL => Ay _ _ w b4 x67.2 ([114, 101, 116, 114, 121] : List UInt8) _ h25 (hG.go F) hL) fun x w F => ?_
        have F : Stw ⟨Y, [], w0⟩ [(b4, [.string (bs x71.2.1), .int .i64 x71.2.2]), (b3, [.int .i64 0]), (b2, [.int .i64 0]), (b1, [.int .i64 x2.1, v1, v14, v27, v40, .int .i64 x55.1, .int .i64 x58.1, .int .i64 x61.1, .int .i64 x64.1, .int .i64 x67.1, .int .i64 0])] [row v40 3 (Rp.int .i64) x52.1, row v1 41 Bu x6, row v14 43 BC x25, row v27 39 (Rp.slice (Rp.int .u64)) x40] w := F
        refine Bp ?_
        refine BK W ?_
        have F := F.frontZ (i := 3) Aa Aa
        have F := F.frontZ (i := 3) Aa Aa
        have F := F.frontZ (i := 3) Aa Aa
        have F := F.frontM (i := 1) Aa Aa
        have F := F.frontM (i := 2) Aa Aa
        have F := F.frontM (i := 3) Aa Aa
        refine C2 (Ml := [(b1, [.int .i64 x2.1, v1, v14, v27, v40, .int .i64 x55.1, .int .i64 x58.1, .int .i64 x61.1, .int .i64 x64.1, .int .i64 x67.1, .int .i64 0]), (b2, [.int .i64 0]), (b3, [.int .i64 0])]) (Zl := [row v1 41 Bu x6, row v14 43 BC x25, row v27 39 (Rp.slice (Rp.int .u64)) x40, row v40 3 (Rp.int .i64) x52.1]) (M := [(b4, [.string (bs x71.2.1), .int .i64 x71.2.2])]) (Z := []) (β := Value × Value × Value × Value) (u' := (.panicking ({ v := .iface 75 (.agg #[.int .i64 x71.1]), recovered := true } :: []))) (MM := fun x => [(b1, [.int .i64 ((Ab ((x2.1, x6, x25), x40, x52.1, x55.1, x58.1, x61.1, x64.1, x67.1, 0) 0 0 x71.1).1.1.1), x.1, x.2.1, x.2.2.1, x.2.2.2, .int .i64 ((Ab ((x2.1, x6, x25), x40, x52.1, x55.1, x58.1, x61.1, x64.1, x67.1, 0) 0 0 x71.1).1.2.2.2.1), .int .i64 ((Ab ((x2.1, x6, x25), x40, x52.1, x55.1, x58.1, x61.1, x64.1, x67.1, 0) 0 0 x71.1).1.2.2.2.2.1), .int .i64 ((Ab ((x2.1, x6, x25), x40, x52.1, x55.1, x58.1, x61.1, x64.1, x67.1, 0) 0 0 x71.1).1.2.2.2.2.2.1), .int .i64 ((Ab ((x2.1, x6, x25), x40, x52.1, x55.1, x58.1, x61.1, x64.1, x67.1, 0) 0 0 x71.1).1.2.2.2.2.2.2.1), .int .i64 ((Ab ((x2.1, x6, x25), x40, x52.1, x55.1, x58.1, x61.1, x64.1, x67.1, 0) 0 0 x71.1).1.2.2.2.2.2.2.2.1), .int .i64 ((Ab ((x2.1, x6, x25), x40, x52.1, x55.1, x58.1, x61.1, x64.1, x67.1, 0) 0 0 x71.1).1.2.2.2.2.2.2.2.2)]), (b2, [.int .i64 ((Ab ((x2.1, x6, x25), x40, x52.1, x55.1, x58.1, x61.1, x64.1, x67.1, 0) 0 0 x71.1).2.1)]), (b3, [.int .i64 ((Ab ((x2.1, x6, x25), x40, x52.1, x55.1, x58.1, x61.1, x64.1, x67.1, 0) 0 0 x71.1).2.2)])]) (ZZ := fun x => [row x.1 41 Bu ((Ab ((x2.1, x6, x25), x40, x52.1, x55.1, x58.1, x61.1, x64.1, x67.1, 0) 0 0 x71.1).1.1.2.1), row x.2.1 43 BC ((Ab ((x2.1, x6, x25), x40, x52.1, x55.1, x58.1, x61.1, x64.1, x67.1, 0) 0 0 x71.1).1.1.2.2), row x.2.2.1 39 (Rp.slice (Rp.int .u64)) ((Ab ((x2.1, x6, x25), x40, x52.1, x55.1, x58.1, x61.1, x64.1, x67.1, 0) 0 0 x71.1).1.2.1), row x.2.2.2 3 (Rp.int .i64) ((Ab ((x2.1, x6, x25), x40, x52.1, x55.1, x58.1, x61.1, x64.1, x67.1, 0) 0 0 x71.1).1.2.2.1)]) F Jh (by simp) (fun hL => Aw _ _ w b1 (v1) (v14) (v27) (v40) b2 b3 ((x2.1, x6, x25), x40, x52.1, x55.1, x58.1, x61.1, x64.1, x67.1, 0) 0 0 x71.1 _ Aa hL) fun x w F => ?_
        obtain ⟨v45, v46, v47, v48⟩ := x
        have F : Stw ⟨Y, [], w0⟩ [(b1, [.int .i64 ((Ab ((x2.1, x6, x25), x40, x52.1, x55.1, x58.1, x61.1, x64.1, x67.1, 0) 0 0 x71.1).1.1.1), v45, v46, v47, v48, .int .i64 ((Ab ((x2.1, x6, x25), x40, x52.1, x55.1, x58.1, x61.1, x64.1, x67.1, 0) 0 0 x71.1).1.2.2.2.1), .int .i64 ((Ab ((x2.1, x6, x25), x40, x52.1, x55.1, x58.1, x61.1, x64.1, x67.1, 0) 0 0 x71.1).1.2.2.2.2.1), .int .i64 ((Ab ((x2.1, x6, x25), x40, x52.1, x55.1, x58.1, x61.1, x64.1, x67.1, 0) 0 0 x71.1).1.2.2.2.2.2.1), .int .i64 ((Ab ((x2.1, x6, x25), x40, x52.1, x55.1, x58.1, x61.1, x64.1, x67.1, 0) 0 0 x71.1).1.2.2.2.2.2.2.1), .int .i64 ((Ab ((x2.1, x6, x25), x40, x52.1, x55.1, x58.1, x61.1, x64.1, x67.1, 0) 0 0 x71.1).1.2.2.2.2.2.2.2.1), .int .i64 ((Ab ((x2.1, x6, x25), x40, x52.1, x55.1, x58.1, x61.1, x64.1, x67.1, 0) 0 0 x71.1).1.2.2.2.2.2.2.2.2)]), (b2, [.int .i64 ((Ab ((x2.1, x6, x25), x40, x52.1, x55.1, x58.1, x61.1, x64.1, x67.1, 0) 0 0 x71.1).2.1)]), (b3, [.int .i64 ((Ab ((x2.1, x6, x25), x40, x52.1, x55.1, x58.1, x61.1, x64.1, x67.1, 0) 0 0 x71.1).2.2)]), (b4, [.string (bs x71.2.1), .int .i64 x71.2.2])] [row v45 41 Bu ((Ab ((x2.1, x6, x25), x40, x52.1, x55.1, x58.1, x61.1, x64.1, x67.1, 0) 0 0 x71.1).1.1.2.1), row v46 43 BC ((Ab ((x2.1, x6, x25), x40, x52.1, x55.1, x58.1, x61.1, x64.1, x67.1, 0) 0 0 x71.1).1.1.2.2), row v47 39 (Rp.slice (Rp.int .u64)) ((Ab ((x2.1, x6, x25), x40, x52.1, x55.1, x58.1, x61.1, x64.1, x67.1, 0) 0 0 x71.1).1.2.1), row v48 3 (Rp.int .i64) ((Ab ((x2.1, x6, x25), x40, x52.1, x55.1, x58.1, x61.1, x64.1, x67.1, 0) 0 0 x71.1).1.2.2.1)] w := F
        have H := A2 H
        subst H
        refine C0 F Aa (AN 0 W Aa Aa Gv Aa) (AN 1 W Aa Aa T3 Aa) (AN 2 W Aa Aa IA Aa) ?_
        have F := F.frontZ (i := 3) Aa Aa
        have F := F.frontZ (i := 3) Aa Aa
        have F := F.frontZ (i := 3) Aa Aa
        have F := F.frontZ (i := 3) Aa Aa
        have F := F.sub (M' := []) (Z' := [row v45 41 Bu ((Ab ((x2.1, x6, x25), x40, x52.1, x55.1, x58.1, x61.1, x64.1, x67.1, 0) 0 0 x71.1).1.1.2.1), row v46 43 BC ((Ab ((x2.1, x6, x25), x40, x52.1, x55.1, x58.1, x61.1, x64.1, x67.1, 0) 0 0 x71.1).1.1.2.2), row v47 39 (Rp.slice (Rp.int .u64)) ((Ab ((x2.1, x6, x25), x40, x52.1, x55.1, x58.1, x61.1, x64.1, x67.1, 0) 0 0 x71.1).1.2.1), row v48 3 (Rp.int .i64) ((Ab ((x2.1, x6, x25), x40, x52.1, x55.1, x58.1, x61.1, x64.1, x67.1, 0) 0 0 x71.1).1.2.2.1)]) (List.nil_sublist _) (List.Sublist.refl _)
        exact ⟨((v45), (v46), (v47), (v48)), Aa, F⟩
       have H := EF H
       refine BH (Ml := [(b4, [.string (bs x64.2.1), .int .i64 x64.2.2])]) (Zl := []) (M := [(b3, [.int .i64 0]), (b2, [.int .i64 0]), (b1, (H3 x2 v1 v14 v27 v40 x55 x58 x61 x64))]) (Z := [row v40 3 (Rp.int .i64) x52.1, row v1 41 Bu x6, row v14 43 BC x25, row v27 39 (Rp.slice (Rp.int .u64)) x40]) (β := Unit) (pv := fun x => .iface 75 (.agg #[.int .i64 x68.1])) (MM := fun x => [(b4, [.string (bs x68.2.1), .int .i64 x68.2.2])]) (ZZ := fun x => []) W F Jz Aa (fun hL => Ay _ _ w b4 x64.2 ([109, 97, 114, 103, 105, 110] : List UInt8) _ h24 (hG.go F) hL) fun x w F => ?_
       have F : Stw ⟨Y, [], w0⟩ [(b4, [.string (bs x68.2.1), .int .i64 x68.2.2]), (b3, [.int .i64 0]), (b2, [.int .i64 0]), (b1, (H3 x2 v1 v14 v27 v40 x55 x58 x61 x64))] [row v40 3 (Rp.int .i64) x52.1, row v1 41 Bu x6, row v14 43 BC x25, row v27 39 (Rp.slice (Rp.int .u64)) x40] w := F
       refine Bp ?_
       refine BK W ?_
       have F := F.frontZ (i := 3) Aa Aa
       have F := F.frontZ (i := 3) Aa Aa
       have F := F.frontZ (i := 3) Aa Aa
       have F := F.frontM (i := 1) Aa Aa
       have F := F.frontM (i := 2) Aa Aa
       have F := F.frontM (i := 3) Aa Aa
       refine C2 (Ml := [(b1, (H3 x2 v1 v14 v27 v40 x55 x58 x61 x64)), (b2, [.int .i64 0]), (b3, [.int .i64 0])]) (Zl := [row v1 41 Bu x6, row v14 43 BC x25, row v27 39 (Rp.slice (Rp.int .u64)) x40, row v40 3 (Rp.int .i64) x52.1]) (M := [(b4, [.string (bs x68.2.1), .int .i64 x68.2.2])]) (Z := []) (β := Value × Value × Value × Value) (u' := (.panicking ({ v := .iface 75 (.agg #[.int .i64 x68.1]), recovered := true } :: []))) (MM := fun x => [(b1, [.int .i64 ((Ab ((x2.1, x6, x25), x40, x52.1, x55.1, x58.1, x61.1, x64.1, 0, 0) 0 0 x68.1).1.1.1), x.1, x.2.1, x.2.2.1, x.2.2.2, .int .i64 ((Ab ((x2.1, x6, x25), x40, x52.1, x55.1, x58.1, x61.1, x64.1, 0, 0) 0 0 x68.1).1.2.2.2.1), .int .i64 ((Ab ((x2.1, x6, x25), x40, x52.1, x55.1, x58.1, x61.1, x64.1, 0, 0) 0 0 x68.1).1.2.2.2.2.1), .int .i64 ((Ab ((x2.1, x6, x25), x40, x52.1, x55.1, x58.1, x61.1, x64.1, 0, 0) 0 0 x68.1).1.2.2.2.2.2.1), .int .i64 ((Ab ((x2.1, x6, x25), x40, x52.1, x55.1, x58.1, x61.1, x64.1, 0, 0) 0 0 x68.1).1.2.2.2.2.2.2.1), .int .i64 ((Ab ((x2.1, x6, x25), x40, x52.1, x55.1, x58.1, x61.1, x64.1, 0, 0) 0 0 x68.1).1.2.2.2.2.2.2.2.1), .int .i64 ((Ab ((x2.1, x6, x25), x40, x52.1, x55.1, x58.1, x61.1, x64.1, 0, 0) 0 0 x68.1).1.2.2.2.2.2.2.2.2)]), (b2, [.int .i64 ((Ab ((x2.1, x6, x25), x40, x52.1, x55.1, x58.1, x61.1, x64.1, 0, 0) 0 0 x68.1).2.1)]), (b3, [.int .i64 ((Ab ((x2.1, x6, x25), x40, x52.1, x55.1, x58.1, x61.1, x64.1, 0, 0) 0 0 x68.1).2.2)])]) (ZZ := fun x => [row x.1 41 Bu ((Ab ((x2.1, x6, x25), x40, x52.1, x55.1, x58.1, x61.1, x64.1, 0, 0) 0 0 x68.1).1.1.2.1), row x.2.1 43 BC ((Ab ((x2.1, x6, x25), x40, x52.1, x55.1, x58.1, x61.1, x64.1, 0, 0) 0 0 x68.1).1.1.2.2), row x.2.2.1 39 (Rp.slice (Rp.int .u64)) ((Ab ((x2.1, x6, x25), x40, x52.1, x55.1, x58.1, x61.1, x64.1, 0, 0) 0 0 x68.1).1.2.1), row x.2.2.2 3 (Rp.int .i64) ((Ab ((x2.1, x6, x25), x40, x52.1, x55.1, x58.1, x61.1, x64.1, 0, 0) 0 0 x68.1).1.2.2.1)]) F Jh (by simp) (fun hL => Aw _ _ w b1 (v1) (v14) (v27) (v40) b2 b3 ((x2.1, x6, x25), x40, x52.1, x55.1, x58.1, x61.1, x64.1, 0, 0) 0 0 x68.1 _ Aa hL) fun x w F => ?_
       obtain ⟨v49, v50, v51, v52⟩ := x
       have F : Stw ⟨Y, [], w0⟩ [(b1, [.int .i64 ((Ab ((x2.1, x6, x25), x40, x52.1, x55.1, x58.1, x61.1, x64.1, 0, 0) 0 0 x68.1).1.1.1), v49, v50, v51, v52, .int .i64 ((Ab ((x2.1, x6, x25), x40, x52.1, x55.1, x58.1, x61.1, x64.1, 0, 0) 0 0 x68.1).1.2.2.2.1), .int .i64 ((Ab ((x2.1, x6, x25), x40, x52.1, x55.1, x58.1, x61.1, x64.1, 0, 0) 0 0 x68.1).1.2.2.2.2.1), .int .i64 ((Ab ((x2.1, x6, x25), x40, x52.1, x55.1, x58.1, x61.1, x64.1, 0, 0) 0 0 x68.1).1.2.2.2.2.2.1), .int .i64 ((Ab ((x2.1, x6, x25), x40, x52.1, x55.1, x58.1, x61.1, x64.1, 0, 0) 0 0 x68.1).1.2.2.2.2.2.2.1), .int .i64 ((Ab ((x2.1, x6, x25), x40, x52.1, x55.1, x58.1, x61.1, x64.1, 0, 0) 0 0 x68.1).1.2.2.2.2.2.2.2.1), .int .i64 ((Ab ((x2.1, x6, x25), x40, x52.1, x55.1, x58.1, x61.1, x64.1, 0, 0) 0 0 x68.1).1.2.2.2.2.2.2.2.2)]), (b2, [.int .i64 ((Ab ((x2.1, x6, x25), x40, x52.1, x55.1, x58.1, x61.1, x64.1, 0, 0) 0 0 x68.1).2.1)]), (b3, [.int .i64 ((Ab ((x2.1, x6, x25), x40, x52.1, x55.1, x58.1, x61.1, x64.1, 0, 0) 0 0 x68.1).2.2)]), (b4, [.string (bs x68.2.1), .int .i64 x68.2.2])] [row v49 41 Bu ((Ab ((x2.1, x6, x25), x40, x52.1, x55.1, x58.1, x61.1, x64.1, 0, 0) 0 0 x68.1).1.1.2.1), row v50 43 BC ((Ab ((x2.1, x6, x25), x40, x52.1, x55.1, x58.1, x61.1, x64.1, 0, 0) 0 0 x68.1).1.1.2.2), row v51 39 (Rp.slice (Rp.int .u64)) ((Ab ((x2.1, x6, x25), x40, x52.1, x55.1, x58.1, x61.1, x64.1, 0, 0) 0 0 x68.1).1.2.1), row v52 3 (Rp.int .i64) ((Ab ((x2.1, x6, x25), x40, x52.1, x55.1, x58.1, x61.1, x64.1, 0, 0) 0 0 x68.1).1.2.2.1)] w := F
       have H := A2 H
       subst H
       refine C0 F Aa (AN 0 W Aa Aa Gv Aa) (AN 1 W Aa Aa T3 Aa) (AN 2 W Aa Aa IA Aa) ?_
       have F := F.frontZ (i := 3) Aa Aa
       have F := F.frontZ (i := 3) Aa Aa
       have F := F.frontZ (i := 3) Aa Aa
       have F := F.frontZ (i := 3) Aa Aa
       have F := F.sub (M' := []) (Z' := [row v49 41 Bu ((Ab ((x2.1, x6, x25), x40, x52.1, x55.1, x58.1, x61.1, x64.1, 0, 0) 0 0 x68.1).1.1.2.1), row v50 43 BC ((Ab ((x2.1, x6, x25), x40, x52.1, x55.1, x58.1, x61.1, x64.1, 0, 0) 0 0 x68.1).1.1.2.2), row v51 39 (Rp.slice (Rp.int .u64)) ((Ab ((x2.1, x6, x25), x40, x52.1, x55.1, x58.1, x61.1, x64.1, 0, 0) 0 0 x68.1).1.2.1), row v52 3 (Rp.int .i64) ((Ab ((x2.1, x6, x25), x40, x52.1, x55.1, x58.1, x61.1, x64.1, 0, 0) 0 0 x68.1).1.2.2.1)]) (List.nil_sublist _) (List.Sublist.refl _)
       exact ⟨((v49), (v50), (v51), (v52)), Aa, F⟩
      have H := EF H
      refine BH (Ml := [(b4, [.string (bs x61.2.1), .int .i64 x61.2.2])]) (Zl := []) (M := [(b3, [.int .i64 0]), (b2, [.int .i64 0]), (b1, (Ie x2 v1 v14 v27 v40 x55 x58 x61))]) (Z := [row v40 3 (Rp.int .i64) x52.1, row v1 41 Bu x6, row v14 43 BC x25, row v27 39 (Rp.slice (Rp.int .u64)) x40]) (β := Unit) (pv := fun x => .iface 75 (.agg #[.int .i64 x65.1])) (MM := fun x => [(b4, [.string (bs x65.2.1), .int .i64 x65.2.2])]) (ZZ := fun x => []) W F Jz Aa (fun hL => Ay _ _ w b4 x61.2 ([108, 101, 97, 100] : List UInt8) _ h23 (hG.go F) hL) fun x w F => ?_
      have F : Stw ⟨Y, [], w0⟩ [(b4, [.string (bs x65.2.1), .int .i64 x65.2.2]), (b3, [.int .i64 0]), (b2, [.int .i64 0]), (b1, (Ie x2 v1 v14 v27 v40 x55 x58 x61))] [row v40 3 (Rp.int .i64) x52.1, row v1 41 Bu x6, row v14 43 BC x25, row v27 39 (Rp.slice (Rp.int .u64)) x40] w := F
      refine Bp ?_
      refine BK W ?_
      have F := F.frontZ (i := 3) Aa Aa
      have F := F.frontZ (i := 3) Aa Aa
      have F := F.frontZ (i := 3) Aa Aa
      have F := F.frontM (i := 1) Aa Aa
      have F := F.frontM (i := 2) Aa Aa
      have F := F.frontM (i := 3) Aa Aa
      refine C2 (Ml := [(b1, (Ie x2 v1 v14 v27 v40 x55 x58 x61)), (b2, [.int .i64 0]), (b3, [.int .i64 0])]) (Zl := [row v1 41 Bu x6, row v14 43 BC x25, row v27 39 (Rp.slice (Rp.int .u64)) x40, row v40 3 (Rp.int .i64) x52.1]) (M := [(b4, [.string (bs x65.2.1), .int .i64 x65.2.2])]) (Z := []) (β := Value × Value × Value × Value) (u' := (.panicking ({ v := .iface 75 (.agg #[.int .i64 x65.1]), recovered := true } :: []))) (MM := fun x => [(b1, [.int .i64 ((Ab ((x2.1, x6, x25), x40, x52.1, x55.1, x58.1, x61.1, 0, 0, 0) 0 0 x65.1).1.1.1), x.1, x.2.1, x.2.2.1, x.2.2.2, .int .i64 ((Ab ((x2.1, x6, x25), x40, x52.1, x55.1, x58.1, x61.1, 0, 0, 0) 0 0 x65.1).1.2.2.2.1), .int .i64 ((Ab ((x2.1, x6, x25), x40, x52.1, x55.1, x58.1, x61.1, 0, 0, 0) 0 0 x65.1).1.2.2.2.2.1), .int .i64 ((Ab ((x2.1, x6, x25), x40, x52.1, x55.1, x58.1, x61.1, 0, 0, 0) 0 0 x65.1).1.2.2.2.2.2.1), .int .i64 ((Ab ((x2.1, x6, x25), x40, x52.1, x55.1, x58.1, x61.1, 0, 0, 0) 0 0 x65.1).1.2.2.2.2.2.2.1), .int .i64 ((Ab ((x2.1, x6, x25), x40, x52.1, x55.1, x58.1, x61.1, 0, 0, 0) 0 0 x65.1).1.2.2.2.2.2.2.2.1), .int .i64 ((Ab ((x2.1, x6, x25), x40, x52.1, x55.1, x58.1, x61.1, 0, 0, 0) 0 0 x65.1).1.2.2.2.2.2.2.2.2)]), (b2, [.int .i64 ((Ab ((x2.1, x6, x25), x40, x52.1, x55.1, x58.1, x61.1, 0, 0, 0) 0 0 x65.1).2.1)]), (b3, [.int .i64 ((Ab ((x2.1, x6, x25), x40, x52.1, x55.1, x58.1, x61.1, 0, 0, 0) 0 0 x65.1).2.2)])]) (ZZ := fun x => [row x.1 41 Bu ((Ab ((x2.1, x6, x25), x40, x52.1, x55.1, x58.1, x61.1, 0, 0, 0) 0 0 x65.1).1.1.2.1), row x.2.1 43 BC ((Ab ((x2.1, x6, x25), x40, x52.1, x55.1, x58.1, x61.1, 0, 0, 0) 0 0 x65.1).1.1.2.2), row x.2.2.1 39 (Rp.slice (Rp.int .u64)) ((Ab ((x2.1, x6, x25), x40, x52.1, x55.1, x58.1, x61.1, 0, 0, 0) 0 0 x65.1).1.2.1), row x.2.2.2 3 (Rp.int .i64) ((Ab ((x2.1, x6, x25), x40, x52.1, x55.1, x58.1, x61.1, 0, 0, 0) 0 0 x65.1).1.2.2.1)]) F Jh (by simp) (fun hL => Aw _ _ w b1 (v1) (v14) (v27) (v40) b2 b3 ((x2.1, x6, x25), x40, x52.1, x55.1, x58.1, x61.1, 0, 0, 0) 0 0 x65.1 _ Aa hL) fun x w F => ?_
      obtain ⟨v53, v54, v55, v56⟩ := x
      have F : Stw ⟨Y, [], w0⟩ [(b1, [.int .i64 ((Ab ((x2.1, x6, x25), x40, x52.1, x55.1, x58.1, x61.1, 0, 0, 0) 0 0 x65.1).1.1.1), v53, v54, v55, v56, .int .i64 ((Ab ((x2.1, x6, x25), x40, x52.1, x55.1, x58.1, x61.1, 0, 0, 0) 0 0 x65.1).1.2.2.2.1), .int .i64 ((Ab ((x2.1, x6, x25), x40, x52.1, x55.1, x58.1, x61.1, 0, 0, 0) 0 0 x65.1).1.2.2.2.2.1), .int .i64 ((Ab ((x2.1, x6, x25), x40, x52.1, x55.1, x58.1, x61.1, 0, 0, 0) 0 0 x65.1).1.2.2.2.2.2.1), .int .i64 ((Ab ((x2.1, x6, x25), x40, x52.1, x55.1, x58.1, x61.1, 0, 0, 0) 0 0 x65.1).1.2.2.2.2.2.2.1), .int .i64 ((Ab ((x2.1, x6, x25), x40, x52.1, x55.1, x58.1, x61.1, 0, 0, 0) 0 0 x65.1).1.2.2.2.2.2.2.2.1), .int .i64 ((Ab ((x2.1, x6, x25), x40, x52.1, x55.1, x58.1, x61.1, 0, 0, 0) 0 0 x65.1).1.2.2.2.2.2.2.2.2)]), (b2, [.int .i64 ((Ab ((x2.1, x6, x25), x40, x52.1, x55.1, x58.1, x61.1, 0, 0, 0) 0 0 x65.1).2.1)]), (b3, [.int .i64 ((Ab ((x2.1, x6, x25), x40, x52.1, x55.1, x58.1, x61.1, 0, 0, 0) 0 0 x65.1).2.2)]), (b4, [.string (bs x65.2.1), .int .i64 x65.2.2])] [row v53 41 Bu ((Ab ((x2.1, x6, x25), x40, x52.1, x55.1, x58.1, x61.1, 0, 0, 0) 0 0 x65.1).1.1.2.1), row v54 43 BC ((Ab ((x2.1, x6, x25), x40, x52.1, x55.1, x58.1, x61.1, 0, 0, 0) 0 0 x65.1).1.1.2.2), row v55 39 (Rp.slice (Rp.int .u64)) ((Ab ((x2.1, x6, x25), x40, x52.1, x55.1, x58.1, x61.1, 0, 0, 0) 0 0 x65.1).1.2.1), row v56 3 (Rp.int .i64) ((Ab ((x2.1, x6, x25), x40, x52.1, x55.1, x58.1, x61.1, 0, 0, 0) 0 0 x65.1).1.2.2.1)] w := F
      have H := A2 H
      subst H
      refine C0 F Aa (AN 0 W Aa Aa Gv Aa) (AN 1 W Aa Aa T3 Aa) (AN 2 W Aa Aa IA Aa) ?_
      have F := F.frontZ (i := 3) Aa Aa
      have F := F.frontZ (i := 3) Aa Aa
      have F := F.frontZ (i := 3) Aa Aa
      have F := F.frontZ (i := 3) Aa Aa
      have F := F.sub (M' := []) (Z' := [row v53 41 Bu ((Ab ((x2.1, x6, x25), x40, x52.1, x55.1, x58.1, x61.1, 0, 0, 0) 0 0 x65.1).1.1.2.1), row v54 43 BC ((Ab ((x2.1, x6, x25), x40, x52.1, x55.1, x58.1, x61.1, 0, 0, 0) 0 0 x65.1).1.1.2.2), row v55 39 (Rp.slice (Rp.int .u64)) ((Ab ((x2.1, x6, x25), x40, x52.1, x55.1, x58.1, x61.1, 0, 0, 0) 0 0 x65.1).1.2.1), row v56 3 (Rp.int .i64) ((Ab ((x2.1, x6, x25), x40, x52.1, x55.1, x58.1, x61.1, 0, 0, 0) 0 0 x65.1).1.2.2.1)]) (List.nil_sublist _) (List.Sublist.refl _)
      exact ⟨((v53), (v54), (v55), (v56)), Aa, F⟩
     have H := EF H
     refine BH (Ml := [(b4, [.string (bs x58.2.1), .int .i64 x58.2.2])]) (Zl := []) (M := [(b3, [.int .i64 0]), (b2, [.int .i64 0]), (b1, (Ig x2 v1 v14 v27 v40 x55 x58))]) (Z := [row v40 3 (Rp.int .i64) x52.1, row v1 41 Bu x6, row v14 43 BC x25, row v27 39 (Rp.slice (Rp.int .u64)) x40]) (β := Unit) (pv := fun x => .iface 75 (.agg #[.int .i64 x62.1])) (MM := fun x => [(b4, [.string (bs x62.2.1), .int .i64 x62.2.2])]) (ZZ := fun x => []) W F Jz Aa (fun hL => Ay _ _ w b4 x58.2 ([119, 105, 100, 101] : List UInt8) _ h22 (hG.go F) hL) fun x w F => ?_
     have F : Stw ⟨Y, [], w0⟩ [(b4, [.string (bs x62.2.1), .int .i64 x62.2.2]), (b3, [.int .i64 0]), (b2, [.int .i64 0]), (b1, (Ig x2 v1 v14 v27 v40 x55 x58))] [row v40 3 (Rp.int .i64) x52.1, row v1 41 Bu x6, row v14 43 BC x25, row v27 39 (Rp.slice (Rp.int .u64)) x40] w := F
     refine Bp ?_
     refine BK W ?_
     have F := F.frontZ (i := 3) Aa Aa
     have F := F.frontZ (i := 3) Aa Aa
     have F := F.frontZ (i := 3) Aa Aa
     have F := F.frontM (i := 1) Aa Aa
     have F := F.frontM (i := 2) Aa Aa
     have F := F.frontM (i := 3) Aa Aa
     refine C2 (Ml := [(b1, (Ig x2 v1 v14 v27 v40 x55 x58)), (b2, [.int .i64 0]), (b3, [.int .i64 0])]) (Zl := [row v1 41 Bu x6, row v14 43 BC x25, row v27 39 (Rp.slice (Rp.int .u64)) x40, row v40 3 (Rp.int .i64) x52.1]) (M := [(b4, [.string (bs x62.2.1), .int .i64 x62.2.2])]) (Z := []) (β := Value × Value × Value × Value) (u' := (.panicking ({ v := .iface 75 (.agg #[.int .i64 x62.1]), recovered := true } :: []))) (MM := fun x => [(b1, [.int .i64 ((Ab ((x2.1, x6, x25), x40, x52.1, x55.1, x58.1, 0, 0, 0, 0) 0 0 x62.1).1.1.1), x.1, x.2.1, x.2.2.1, x.2.2.2, .int .i64 ((Ab ((x2.1, x6, x25), x40, x52.1, x55.1, x58.1, 0, 0, 0, 0) 0 0 x62.1).1.2.2.2.1), .int .i64 ((Ab ((x2.1, x6, x25), x40, x52.1, x55.1, x58.1, 0, 0, 0, 0) 0 0 x62.1).1.2.2.2.2.1), .int .i64 ((Ab ((x2.1, x6, x25), x40, x52.1, x55.1, x58.1, 0, 0, 0, 0) 0 0 x62.1).1.2.2.2.2.2.1), .int .i64 ((Ab ((x2.1, x6, x25), x40, x52.1, x55.1, x58.1, 0, 0, 0, 0) 0 0 x62.1).1.2.2.2.2.2.2.1), .int .i64 ((Ab ((x2.1, x6, x25), x40, x52.1, x55.1, x58.1, 0, 0, 0, 0) 0 0 x62.1).1.2.2.2.2.2.2.2.1), .int .i64 ((Ab ((x2.1, x6, x25), x40, x52.1, x55.1, x58.1, 0, 0, 0, 0) 0 0 x62.1).1.2.2.2.2.2.2.2.2)]), (b2, [.int .i64 ((Ab ((x2.1, x6, x25), x40, x52.1, x55.1, x58.1, 0, 0, 0, 0) 0 0 x62.1).2.1)]), (b3, [.int .i64 ((Ab ((x2.1, x6, x25), x40, x52.1, x55.1, x58.1, 0, 0, 0, 0) 0 0 x62.1).2.2)])]) (ZZ := fun x => [row x.1 41 Bu ((Ab ((x2.1, x6, x25), x40, x52.1, x55.1, x58.1, 0, 0, 0, 0) 0 0 x62.1).1.1.2.1), row x.2.1 43 BC ((Ab ((x2.1, x6, x25), x40, x52.1, x55.1, x58.1, 0, 0, 0, 0) 0 0 x62.1).1.1.2.2), row x.2.2.1 39 (Rp.slice (Rp.int .u64)) ((Ab ((x2.1, x6, x25), x40, x52.1, x55.1, x58.1, 0, 0, 0, 0) 0 0 x62.1).1.2.1), row x.2.2.2 3 (Rp.int .i64) ((Ab ((x2.1, x6, x25), x40, x52.1, x55.1, x58.1, 0, 0, 0, 0) 0 0 x62.1).1.2.2.1)]) F Jh (by simp) (fun hL => Aw _ _ w b1 (v1) (v14) (v27) (v40) b2 b3 ((x2.1, x6, x25), x40, x52.1, x55.1, x58.1, 0, 0, 0, 0) 0 0 x62.1 _ Aa hL) fun x w F => ?_
     obtain ⟨v57, v58, v59, v60⟩ := x
     have F : Stw ⟨Y, [], w0⟩ [(b1, [.int .i64 ((Ab ((x2.1, x6, x25), x40, x52.1, x55.1, x58.1, 0, 0, 0, 0) 0 0 x62.1).1.1.1), v57, v58, v59, v60, .int .i64 ((Ab ((x2.1, x6, x25), x40, x52.1, x55.1, x58.1, 0, 0, 0, 0) 0 0 x62.1).1.2.2.2.1), .int .i64 ((Ab ((x2.1, x6, x25), x40, x52.1, x55.1, x58.1, 0, 0, 0, 0) 0 0 x62.1).1.2.2.2.2.1), .int .i64 ((Ab ((x2.1, x6, x25), x40, x52.1, x55.1, x58.1, 0, 0, 0, 0) 0 0 x62.1).1.2.2.2.2.2.1), .int .i64 ((Ab ((x2.1, x6, x25), x40, x52.1, x55.1, x58.1, 0, 0, 0, 0) 0 0 x62.1).1.2.2.2.2.2.2.1), .int .i64 ((Ab ((x2.1, x6, x25), x40, x52.1, x55.1, x58.1, 0, 0, 0, 0) 0 0 x62.1).1.2.2.2.2.2.2.2.1), .int .i64 ((Ab ((x2.1, x6, x25), x40, x52.1, x55.1, x58.1, 0, 0, 0, 0) 0 0 x62.1).1.2.2.2.2.2.2.2.2)]), (b2, [.int .i64 ((Ab ((x2.1, x6, x25), x40, x52.1, x55.1, x58.1, 0, 0, 0, 0) 0 0 x62.1).2.1)]), (b3, [.int .i64 ((Ab ((x2.1, x6, x25), x40, x52.1, x55.1, x58.1, 0, 0, 0, 0) 0 0 x62.1).2.2)]), (b4, [.string (bs x62.2.1), .int .i64 x62.2.2])] [row v57 41 Bu ((Ab ((x2.1, x6, x25), x40, x52.1, x55.1, x58.1, 0, 0, 0, 0) 0 0 x62.1).1.1.2.1), row v58 43 BC ((Ab ((x2.1, x6, x25), x40, x52.1, x55.1, x58.1, 0, 0, 0, 0) 0 0 x62.1).1.1.2.2), row v59 39 (Rp.slice (Rp.int .u64)) ((Ab ((x2.1, x6, x25), x40, x52.1, x55.1, x58.1, 0, 0, 0, 0) 0 0 x62.1).1.2.1), row v60 3 (Rp.int .i64) ((Ab ((x2.1, x6, x25), x40, x52.1, x55.1, x58.1, 0, 0, 0, 0) 0 0 x62.1).1.2.2.1)] w := F
     have H := A2 H
     subst H
     refine C0 F Aa (AN 0 W Aa Aa Gv Aa) (AN 1 W Aa Aa T3 Aa) (AN 2 W Aa Aa IA Aa) ?_
     have F := F.frontZ (i := 3) Aa Aa
     have F := F.frontZ (i := 3) Aa Aa
     have F := F.frontZ (i := 3) Aa Aa
     have F := F.frontZ (i := 3) Aa Aa
     have F := F.sub (M' := []) (Z' := [row v57 41 Bu ((Ab ((x2.1, x6, x25), x40, x52.1, x55.1, x58.1, 0, 0, 0, 0) 0 0 x62.1).1.1.2.1), row v58 43 BC ((Ab ((x2.1, x6, x25), x40, x52.1, x55.1, x58.1, 0, 0, 0, 0) 0 0 x62.1).1.1.2.2), row v59 39 (Rp.slice (Rp.int .u64)) ((Ab ((x2.1, x6, x25), x40, x52.1, x55.1, x58.1, 0, 0, 0, 0) 0 0 x62.1).1.2.1), row v60 3 (Rp.int .i64) ((Ab ((x2.1, x6, x25), x40, x52.1, x55.1, x58.1, 0, 0, 0, 0) 0 0 x62.1).1.2.2.1)]) (List.nil_sublist _) (List.Sublist.refl _)
     exact ⟨((v57), (v58), (v59), (v60)), Aa, F⟩
    have H := EF H
    refine BH (Ml := [(b4, [.string (bs x55.2.1), .int .i64 x55.2.2])]) (Zl := []) (M := [(b3, [.int .i64 0]), (b2, [.int .i64 0]), (b1, [.int .i64 x2.1, v1, v14, v27, v40, .int .i64 x55.1, .int .i64 0, .int .i64 0, .int .i64 0, .int .i64 0, .int .i64 0])]) (Z := [row v40 3 (Rp.int .i64) x52.1, row v1 41 Bu x6, row v14 43 BC x25, row v27 39 (Rp.slice (Rp.int .u64)) x40]) (β := Unit) (pv := fun x => .iface 75 (.agg #[.int .i64 x59.1])) (MM := fun x => [(b4, [.string (bs x59.2.1), .int .i64 x59.2.2])]) (ZZ := fun x => []) W F Jz Aa (fun hL => Ay _ _ w b4 x55.2 ([114, 111, 111, 109] : List UInt8) _ h21 (hG.go F) hL) fun x w F => ?_
    have F : Stw ⟨Y, [], w0⟩ [(b4, [.string (bs x59.2.1), .int .i64 x59.2.2]), (b3, [.int .i64 0]), (b2, [.int .i64 0]), (b1, (KD x2 v1 v14 v27 v40 x55))] [row v40 3 (Rp.int .i64) x52.1, row v1 41 Bu x6, row v14 43 BC x25, row v27 39 (Rp.slice (Rp.int .u64)) x40] w := F
    refine Bp ?_
    refine BK W ?_
    have F := F.frontZ (i := 3) Aa Aa
    have F := F.frontZ (i := 3) Aa Aa
    have F := F.frontZ (i := 3) Aa Aa
    have F := F.frontM (i := 1) Aa Aa
    have F := F.frontM (i := 2) Aa Aa
    have F := F.frontM (i := 3) Aa Aa
    refine C2 (Ml := [(b1, [.int .i64 x2.1, v1, v14, v27, v40, .int .i64 x55.1, .int .i64 0, .int .i64 0, .int .i64 0, .int .i64 0, .int .i64 0]), (b2, [.int .i64 0]), (b3, [.int .i64 0])]) (Zl := [row v1 41 Bu x6, row v14 43 BC x25, row v27 39 (Rp.slice (Rp.int .u64)) x40, row v40 3 (Rp.int .i64) x52.1]) (M := [(b4, [.string (bs x59.2.1), .int .i64 x59.2.2])]) (Z := []) (β := Value × Value × Value × Value) (u' := (.panicking ({ v := .iface 75 (.agg #[.int .i64 x59.1]), recovered := true } :: []))) (MM := fun x => [(b1, [.int .i64 ((Ab ((x2.1, x6, x25), x40, x52.1, x55.1, 0, 0, 0, 0, 0) 0 0 x59.1).1.1.1), x.1, x.2.1, x.2.2.1, x.2.2.2, .int .i64 ((Ab ((x2.1, x6, x25), x40, x52.1, x55.1, 0, 0, 0, 0, 0) 0 0 x59.1).1.2.2.2.1), .int .i64 ((Ab ((x2.1, x6, x25), x40, x52.1, x55.1, 0, 0, 0, 0, 0) 0 0 x59.1).1.2.2.2.2.1), .int .i64 ((Ab ((x2.1, x6, x25), x40, x52.1, x55.1, 0, 0, 0, 0, 0) 0 0 x59.1).1.2.2.2.2.2.1), .int .i64 ((Ab ((x2.1, x6, x25), x40, x52.1, x55.1, 0, 0, 0, 0, 0) 0 0 x59.1).1.2.2.2.2.2.2.1), .int .i64 ((Ab ((x2.1, x6, x25), x40, x52.1, x55.1, 0, 0, 0, 0, 0) 0 0 x59.1).1.2.2.2.2.2.2.2.1), .int .i64 ((Ab ((x2.1, x6, x25), x40, x52.1, x55.1, 0, 0, 0, 0, 0) 0 0 x59.1).1.2.2.2.2.2.2.2.2)]), (b2, [.int .i64 ((Ab ((x2.1, x6, x25), x40, x52.1, x55.1, 0, 0, 0, 0, 0) 0 0 x59.1).2.1)]), (b3, [.int .i64 ((Ab ((x2.1, x6, x25), x40, x52.1, x55.1, 0, 0, 0, 0, 0) 0 0 x59.1).2.2)])]) (ZZ := fun x => [row x.1 41 Bu ((Ab ((x2.1, x6, x25), x40, x52.1, x55.1, 0, 0, 0, 0, 0) 0 0 x59.1).1.1.2.1), row x.2.1 43 BC ((Ab ((x2.1, x6, x25), x40, x52.1, x55.1, 0, 0, 0, 0, 0) 0 0 x59.1).1.1.2.2), row x.2.2.1 39 (Rp.slice (Rp.int .u64)) ((Ab ((x2.1, x6, x25), x40, x52.1, x55.1, 0, 0, 0, 0, 0) 0 0 x59.1).1.2.1), row x.2.2.2 3 (Rp.int .i64) ((Ab ((x2.1, x6, x25), x40, x52.1, x55.1, 0, 0, 0, 0, 0) 0 0 x59.1).1.2.2.1)]) F Jh (by simp) (fun hL => Aw _ _ w b1 (v1) (v14) (v27) (v40) b2 b3 ((x2.1, x6, x25), x40, x52.1, x55.1, 0, 0, 0, 0, 0) 0 0 x59.1 _ Aa hL) fun x w F => ?_
    obtain ⟨v61, v62, v63, v64⟩ := x
    have F : Stw ⟨Y, [], w0⟩ [(b1, [.int .i64 ((Ab ((x2.1, x6, x25), x40, x52.1, x55.1, 0, 0, 0, 0, 0) 0 0 x59.1).1.1.1), v61, v62, v63, v64, .int .i64 ((Ab ((x2.1, x6, x25), x40, x52.1, x55.1, 0, 0, 0, 0, 0) 0 0 x59.1).1.2.2.2.1), .int .i64 ((Ab ((x2.1, x6, x25), x40, x52.1, x55.1, 0, 0, 0, 0, 0) 0 0 x59.1).1.2.2.2.2.1), .int .i64 ((Ab ((x2.1, x6, x25), x40, x52.1, x55.1, 0, 0, 0, 0, 0) 0 0 x59.1).1.2.2.2.2.2.1), .int .i64 ((Ab ((x2.1, x6, x25), x40, x52.1, x55.1, 0, 0, 0, 0, 0) 0 0 x59.1).1.2.2.2.2.2.2.1), .int .i64 ((Ab ((x2.1, x6, x25), x40, x52.1, x55.1, 0, 0, 0, 0, 0) 0 0 x59.1).1.2.2.2.2.2.2.2.1), .int .i64 ((Ab ((x2.1, x6, x25), x40, x52.1, x55.1, 0, 0, 0, 0, 0) 0 0 x59.1).1.2.2.2.2.2.2.2.2)]), (b2, [.int .i64 ((Ab ((x2.1, x6, x25), x40, x52.1, x55.1, 0, 0, 0, 0, 0) 0 0 x59.1).2.1)]), (b3, [.int .i64 ((Ab ((x2.1, x6, x25), x40, x52.1, x55.1, 0, 0, 0, 0, 0) 0 0 x59.1).2.2)]), (b4, [.string (bs x59.2.1), .int .i64 x59.2.2])] [row v61 41 Bu ((Ab ((x2.1, x6, x25), x40, x52.1, x55.1, 0, 0, 0, 0, 0) 0 0 x59.1).1.1.2.1), row v62 43 BC ((Ab ((x2.1, x6, x25), x40, x52.1, x55.1, 0, 0, 0, 0, 0) 0 0 x59.1).1.1.2.2), row v63 39 (Rp.slice (Rp.int .u64)) ((Ab ((x2.1, x6, x25), x40, x52.1, x55.1, 0, 0, 0, 0, 0) 0 0 x59.1).1.2.1), row v64 3 (Rp.int .i64) ((Ab ((x2.1, x6, x25), x40, x52.1, x55.1, 0, 0, 0, 0, 0) 0 0 x59.1).1.2.2.1)] w := F
    have H := A2 H
    subst H
    refine C0 F Aa (AN 0 W Aa Aa Gv Aa) (AN 1 W Aa Aa T3 Aa) (AN 2 W Aa Aa IA Aa) ?_
    have F := F.frontZ (i := 3) Aa Aa
    have F := F.frontZ (i := 3) Aa Aa
    have F := F.frontZ (i := 3) Aa Aa
    have F := F.frontZ (i := 3) Aa Aa
    have F := F.sub (M' := []) (Z' := [row v61 41 Bu ((Ab ((x2.1, x6, x25), x40, x52.1, x55.1, 0, 0, 0, 0, 0) 0 0 x59.1).1.1.2.1), row v62 43 BC ((Ab ((x2.1, x6, x25), x40, x52.1, x55.1, 0, 0, 0, 0, 0) 0 0 x59.1).1.1.2.2), row v63 39 (Rp.slice (Rp.int .u64)) ((Ab ((x2.1, x6, x25), x40, x52.1, x55.1, 0, 0, 0, 0, 0) 0 0 x59.1).1.2.1), row v64 3 (Rp.int .i64) ((Ab ((x2.1, x6, x25), x40, x52.1, x55.1, 0, 0, 0, 0, 0) 0 0 x59.1).1.2.2.1)]) (List.nil_sublist _) (List.Sublist.refl _)
    exact ⟨((v61), (v62), (v63), (v64)), Aa, F⟩
   have H := EF H
   refine BH (Ml := [(b4, [.string (bs x52.2.1), .int .i64 x52.2.2])]) (Zl := []) (M := [(b3, [.int .i64 0]), (b2, [.int .i64 0]), (b1, [.int .i64 x2.1, v1, v14, v27, v40, .int .i64 0, .int .i64 0, .int .i64 0, .int .i64 0, .int .i64 0, .int .i64 0])]) (Z := [row v40 3 (Rp.int .i64) x52.1, row v1 41 Bu x6, row v14 43 BC x25, row v27 39 (Rp.slice (Rp.int .u64)) x40]) (β := Unit) (pv := fun x => .iface 75 (.agg #[.int .i64 x56.1])) (MM := fun x => [(b4, [.string (bs x56.2.1), .int .i64 x56.2.2])]) (ZZ := fun x => []) W F Jz Aa (fun hL => Ay _ _ w b4 x52.2 ([114, 97, 116, 101] : List UInt8) _ h20 (hG.go F) hL) fun x w F => ?_
   have F : Stw ⟨Y, [], w0⟩ [(b4, [.string (bs x56.2.1), .int .i64 x56.2.2]), (b3, [.int .i64 0]), (b2, [.int .i64 0]), (b1, (KX x2 v1 v14 v27 v40))] [row v40 3 (Rp.int .i64) x52.1, row v1 41 Bu x6, row v14 43 BC x25, row v27 39 (Rp.slice (Rp.int .u64)) x40] w := F
   refine Bp ?_
   refine BK W ?_
   have F := F.frontZ (i := 3) Aa Aa
   have F := F.frontZ (i := 3) Aa Aa
   have F := F.frontZ (i := 3) Aa Aa
   have F := F.frontM (i := 1) Aa Aa
   have F := F.frontM (i := 2) Aa Aa
   have F := F.frontM (i := 3) Aa Aa
   refine C2 (Ml := [(b1, [.int .i64 x2.1, v1, v14, v27, v40, .int .i64 0, .int .i64 0, .int .i64 0, .int .i64 0, .int .i64 0, .int .i64 0]), (b2, [.int .i64 0]), (b3, [.int .i64 0])]) (Zl := [row v1 41 Bu x6, row v14 43 BC x25, row v27 39 (Rp.slice (Rp.int .u64)) x40, row v40 3 (Rp.int .i64) x52.1]) (M := [(b4, [.string (bs x56.2.1), .int .i64 x56.2.2])]) (Z := []) (β := Value × Value × Value × Value) (u' := (.panicking ({ v := .iface 75 (.agg #[.int .i64 x56.1]), recovered := true } :: []))) (MM := fun x => [(b1, [.int .i64 ((Ab ((x2.1, x6, x25), x40, x52.1, 0, 0, 0, 0, 0, 0) 0 0 x56.1).1.1.1), x.1, x.2.1, x.2.2.1, x.2.2.2, .int .i64 ((Ab ((x2.1, x6, x25), x40, x52.1, 0, 0, 0, 0, 0, 0) 0 0 x56.1).1.2.2.2.1), .int .i64 ((Ab ((x2.1, x6, x25), x40, x52.1, 0, 0, 0, 0, 0, 0) 0 0 x56.1).1.2.2.2.2.1), .int .i64 ((Ab ((x2.1, x6, x25), x40, x52.1, 0, 0, 0, 0, 0, 0) 0 0 x56.1).1.2.2.2.2.2.1), .int .i64 ((Ab ((x2.1, x6, x25), x40, x52.1, 0, 0, 0, 0, 0, 0) 0 0 x56.1).1.2.2.2.2.2.2.1), .int .i64 ((Ab ((x2.1, x6, x25), x40, x52.1, 0, 0, 0, 0, 0, 0) 0 0 x56.1).1.2.2.2.2.2.2.2.1), .int .i64 ((Ab ((x2.1, x6, x25), x40, x52.1, 0, 0, 0, 0, 0, 0) 0 0 x56.1).1.2.2.2.2.2.2.2.2)]), (b2, [.int .i64 ((Ab ((x2.1, x6, x25), x40, x52.1, 0, 0, 0, 0, 0, 0) 0 0 x56.1).2.1)]), (b3, [.int .i64 ((Ab ((x2.1, x6, x25), x40, x52.1, 0, 0, 0, 0, 0, 0) 0 0 x56.1).2.2)])]) (ZZ := fun x => [row x.1 41 Bu ((Ab ((x2.1, x6, x25), x40, x52.1, 0, 0, 0, 0, 0, 0) 0 0 x56.1).1.1.2.1), row x.2.1 43 BC ((Ab ((x2.1, x6, x25), x40, x52.1, 0, 0, 0, 0, 0, 0) 0 0 x56.1).1.1.2.2), row x.2.2.1 39 (Rp.slice (Rp.int .u64)) ((Ab ((x2.1, x6, x25), x40, x52.1, 0, 0, 0, 0, 0, 0) 0 0 x56.1).1.2.1), row x.2.2.2 3 (Rp.int .i64) ((Ab ((x2.1, x6, x25), x40, x52.1, 0, 0, 0, 0, 0, 0) 0 0 x56.1).1.2.2.1)]) F Jh (by simp) (fun hL => Aw _ _ w b1 (v1) (v14) (v27) (v40) b2 b3 ((x2.1, x6, x25), x40, x52.1, 0, 0, 0, 0, 0, 0) 0 0 x56.1 _ Aa hL) fun x w F => ?_
   obtain ⟨v65, v66, v67, v68⟩ := x
   have F : Stw ⟨Y, [], w0⟩ [(b1, [.int .i64 ((Ab ((x2.1, x6, x25), x40, x52.1, 0, 0, 0, 0, 0, 0) 0 0 x56.1).1.1.1), v65, v66, v67, v68, .int .i64 ((Ab ((x2.1, x6, x25), x40, x52.1, 0, 0, 0, 0, 0, 0) 0 0 x56.1).1.2.2.2.1), .int .i64 ((Ab ((x2.1, x6, x25), x40, x52.1, 0, 0, 0, 0, 0, 0) 0 0 x56.1).1.2.2.2.2.1), .int .i64 ((Ab ((x2.1, x6, x25), x40, x52.1, 0, 0, 0, 0, 0, 0) 0 0 x56.1).1.2.2.2.2.2.1), .int .i64 ((Ab ((x2.1, x6, x25), x40, x52.1, 0, 0, 0, 0, 0, 0) 0 0 x56.1).1.2.2.2.2.2.2.1), .int .i64 ((Ab ((x2.1, x6, x25), x40, x52.1, 0, 0, 0, 0, 0, 0) 0 0 x56.1).1.2.2.2.2.2.2.2.1), .int .i64 ((Ab ((x2.1, x6, x25), x40, x52.1, 0, 0, 0, 0, 0, 0) 0 0 x56.1).1.2.2.2.2.2.2.2.2)]), (b2, [.int .i64 ((Ab ((x2.1, x6, x25), x40, x52.1, 0, 0, 0, 0, 0, 0) 0 0 x56.1).2.1)]), (b3, [.int .i64 ((Ab ((x2.1, x6, x25), x40, x52.1, 0, 0, 0, 0, 0, 0) 0 0 x56.1).2.2)]), (b4, [.string (bs x56.2.1), .int .i64 x56.2.2])] [row v65 41 Bu ((Ab ((x2.1, x6, x25), x40, x52.1, 0, 0, 0, 0, 0, 0) 0 0 x56.1).1.1.2.1), row v66 43 BC ((Ab ((x2.1, x6, x25), x40, x52.1, 0, 0, 0, 0, 0, 0) 0 0 x56.1).1.1.2.2), row v67 39 (Rp.slice (Rp.int .u64)) ((Ab ((x2.1, x6, x25), x40, x52.1, 0, 0, 0, 0, 0, 0) 0 0 x56.1).1.2.1), row v68 3 (Rp.int .i64) ((Ab ((x2.1, x6, x25), x40, x52.1, 0, 0, 0, 0, 0, 0) 0 0 x56.1).1.2.2.1)] w := F
   have H := A2 H
   subst H
   refine C0 F Aa (AN 0 W Aa Aa Gv Aa) (AN 1 W Aa Aa T3 Aa) (AN 2 W Aa Aa IA Aa) ?_
   have F := F.frontZ (i := 3) Aa Aa
   have F := F.frontZ (i := 3) Aa Aa
   have F := F.frontZ (i := 3) Aa Aa
   have F := F.frontZ (i := 3) Aa Aa
   have F := F.sub (M' := []) (Z' := [row v65 41 Bu ((Ab ((x2.1, x6, x25), x40, x52.1, 0, 0, 0, 0, 0, 0) 0 0 x56.1).1.1.2.1), row v66 43 BC ((Ab ((x2.1, x6, x25), x40, x52.1, 0, 0, 0, 0, 0, 0) 0 0 x56.1).1.1.2.2), row v67 39 (Rp.slice (Rp.int .u64)) ((Ab ((x2.1, x6, x25), x40, x52.1, 0, 0, 0, 0, 0, 0) 0 0 x56.1).1.2.1), row v68 3 (Rp.int .i64) ((Ab ((x2.1, x6, x25), x40, x52.1, 0, 0, 0, 0, 0, 0) 0 0 x56.1).1.2.2.1)]) (List.nil_sublist _) (List.Sublist.refl _)
   exact ⟨((v65), (v66), (v67), (v68)), Aa, F⟩
  have H := EF H
  refine BH (Ml := [(b4, [.string (bs x38), .int .i64 x39])]) (Zl := []) (M := (JJ b3 b2 b1 x2 v1 v14 v27)) (Z := [row v1 41 Bu x6, row v14 43 BC x25, row v27 39 (Rp.slice (Rp.int .u64)) x40]) (β := Unit) (pv := fun x => .iface 75 (.agg #[.int .i64 x53.1])) (MM := fun x => [(b4, [.string (bs x53.2.1), .int .i64 x53.2.2])]) (ZZ := fun x => []) W F Mo Aa (fun hL => Bm _ _ w b4 (x38, x39) ([115, 116, 97, 114, 116, 115] : List UInt8) (-1) _ h19 (hG.go F) hL) fun x w F => ?_
  have F : Stw ⟨Y, [], w0⟩ [(b4, [.string (bs x53.2.1), .int .i64 x53.2.2]), (b3, [.int .i64 0]), (b2, [.int .i64 0]), (b1, (El x2 v1 v14 v27))] [row v1 41 Bu x6, row v14 43 BC x25, row v27 39 (Rp.slice (Rp.int .u64)) x40] w := F
  refine Bp ?_
  refine BK W ?_
  have F := F.nilRow 3 (Rp.int .i64)
  have F := F.frontZ (i := 3) Aa Aa
  have F := F.frontZ (i := 3) Aa Aa
  have F := F.frontZ (i := 3) Aa Aa
  have F := F.frontM (i := 1) Aa Aa
  have F := F.frontM (i := 2) Aa Aa
  have F := F.frontM (i := 3) Aa Aa
  refine C2 (Ml := (Kx b1 x2 v1 v14 v27 b2 b3)) (Zl := [row v1 41 Bu x6, row v14 43 BC x25, row v27 39 (Rp.slice (Rp.int .u64)) x40, row (Value.slice none 0 0) 3 (Rp.int .i64) ([] : List Int)]) (M := [(b4, [.string (bs x53.2.1), .int .i64 x53.2.2])]) (Z := []) (β := Value × Value × Value × Value) (u' := (.panicking ({ v := .iface 75 (.agg #[.int .i64 x53.1]), recovered := true } :: []))) (MM := fun x => [(b1, [.int .i64 ((Ab ((x2.1, x6, x25), x40, ([] : List Int), 0, 0, 0, 0, 0, 0) 0 0 x53.1).1.1.1), x.1, x.2.1, x.2.2.1, x.2.2.2, .int .i64 ((Ab ((x2.1, x6, x25), x40, ([] : List Int), 0, 0, 0, 0, 0, 0) 0 0 x53.1).1.2.2.2.1), .int .i64 ((Ab ((x2.1, x6, x25), x40, ([] : List Int), 0, 0, 0, 0, 0, 0) 0 0 x53.1).1.2.2.2.2.1), .int .i64 ((Ab ((x2.1, x6, x25), x40, ([] : List Int), 0, 0, 0, 0, 0, 0) 0 0 x53.1).1.2.2.2.2.2.1), .int .i64 ((Ab ((x2.1, x6, x25), x40, ([] : List Int), 0, 0, 0, 0, 0, 0) 0 0 x53.1).1.2.2.2.2.2.2.1), .int .i64 ((Ab ((x2.1, x6, x25), x40, ([] : List Int), 0, 0, 0, 0, 0, 0) 0 0 x53.1).1.2.2.2.2.2.2.2.1), .int .i64 ((Ab ((x2.1, x6, x25), x40, ([] : List Int), 0, 0, 0, 0, 0, 0) 0 0 x53.1).1.2.2.2.2.2.2.2.2)]), (b2, (JD x2 x6 x25 x40 x53)), (b3, (JX x2 x6 x25 x40 x53))]) (ZZ := fun x => [row x.1 41 Bu ((Ab ((x2.1, x6, x25), x40, ([] : List Int), 0, 0, 0, 0, 0, 0) 0 0 x53.1).1.1.2.1), row x.2.1 43 BC ((Ab ((x2.1, x6, x25), x40, ([] : List Int), 0, 0, 0, 0, 0, 0) 0 0 x53.1).1.1.2.2), row x.2.2.1 39 (Rp.slice (Rp.int .u64)) ((Ab ((x2.1, x6, x25), x40, ([] : List Int), 0, 0, 0, 0, 0, 0) 0 0 x53.1).1.2.1), row x.2.2.2 3 (Rp.int .i64) ((Ab ((x2.1, x6, x25), x40, ([] : List Int), 0, 0, 0, 0, 0, 0) 0 0 x53.1).1.2.2.1)]) F Jh (by simp) (fun hL => Aw _ _ w b1 (v1) (v14) (v27) (Value.slice none 0 0) b2 b3 ((x2.1, x6, x25), x40, ([] : List Int), 0, 0, 0, 0, 0, 0) 0 0 x53.1 _ Aa hL) fun x w F => ?_
  obtain ⟨v69, v70, v71, v72⟩ := x
  have F : Stw ⟨Y, [], w0⟩ [(b1, (Mp x2 x6 x25 x40 x53 v69 v70 v71 v72)), (b2, (JD x2 x6 x25 x40 x53)), (b3, (JX x2 x6 x25 x40 x53)), (b4, [.string (bs x53.2.1), .int .i64 x53.2.2])] [row v69 41 Bu ((Ab ((x2.1, x6, x25), x40, ([] : List Int), 0, 0, 0, 0, 0, 0) 0 0 x53.1).1.1.2.1), row v70 43 BC ((Ab ((x2.1, x6, x25), x40, ([] : List Int), 0, 0, 0, 0, 0, 0) 0 0 x53.1).1.1.2.2), row v71 39 (Rp.slice (Rp.int .u64)) ((Ab ((x2.1, x6, x25), x40, ([] : List Int), 0, 0, 0, 0, 0, 0) 0 0 x53.1).1.2.1), row v72 3 (Rp.int .i64) ((Ab ((x2.1, x6, x25), x40, ([] : List Int), 0, 0, 0, 0, 0, 0) 0 0 x53.1).1.2.2.1)] w := F
  have H := A2 H
  subst H
  refine C0 F Aa (AN 0 W Aa Aa Gv Aa) (AN 1 W Aa Aa T3 Aa) (AN 2 W Aa Aa IA Aa) ?_
  have F := F.frontZ (i := 3) Aa Aa
  have F := F.frontZ (i := 3) Aa Aa
  have F := F.frontZ (i := 3) Aa Aa
  have F := F.frontZ (i := 3) Aa Aa
  have F := F.sub (M' := []) (Z' := [row v69 41 Bu ((Ab ((x2.1, x6, x25), x40, ([] : List Int), 0, 0, 0, 0, 0, 0) 0 0 x53.1).1.1.2.1), row v70 43 BC ((Ab ((x2.1, x6, x25), x40, ([] : List Int), 0, 0, 0, 0, 0, 0) 0 0 x53.1).1.1.2.2), row v71 39 (Rp.slice (Rp.int .u64)) ((Ab ((x2.1, x6, x25), x40, ([] : List Int), 0, 0, 0, 0, 0, 0) 0 0 x53.1).1.2.1), row v72 3 (Rp.int .i64) ((Ab ((x2.1, x6, x25), x40, ([] : List Int), 0, 0, 0, 0, 0, 0) 0 0 x53.1).1.2.2.1)]) (List.nil_sublist _) (List.Sublist.refl _)
  exact ⟨((v69), (v70), (v71), (v72)), Aa, F⟩
 have H := EF H
 refine BH (Ml := [(b4, [.string (bs p0), .int .i64 1])]) (Zl := []) (M := (Mk b3 b2 b1)) (Z := []) (β := Unit) (pv := fun x => .iface 75 (.agg #[.int .i64 x3.1])) (MM := fun x => [(b4, [.string (bs x3.2.1), .int .i64 x3.2.2])]) (ZZ := fun x => []) W F Jz Aa (fun hL => Ay _ _ w b4 (p0, 1) ([115, 119, 105, 116, 99, 104, 101, 115] : List UInt8) _ h1 (hG.go F) hL) fun x w F => ?_
 have F : Stw ⟨Y, [], w0⟩ [(b4, [.string (bs x3.2.1), .int .i64 x3.2.2]), (b3, [.int .i64 0]), (b2, [.int .i64 0]), (b1, (FD))] [] w := F
 refine Bp ?_
 refine BK W ?_
 have F := F.nilRow 41 Bu
 have F := F.nilRow 43 BC
 have F := F.nilRow 39 (Rp.slice (Rp.int .u64))
 have F := F.nilRow 3 (Rp.int .i64)
 have F := F.frontZ (i := 1) Aa Aa
 have F := F.frontZ (i := 2) Aa Aa
 have F := F.frontZ (i := 3) Aa Aa
 have F := F.frontM (i := 1) Aa Aa
 have F := F.frontM (i := 2) Aa Aa
 have F := F.frontM (i := 3) Aa Aa
 refine C2 (Ml := [(b1, [.int .i64 0, .slice none 0 0, .slice none 0 0, .slice none 0 0, .slice none 0 0, .int .i64 0, .int .i64 0, .int .i64 0, .int .i64 0, .int .i64 0, .int .i64 0]), (b2, [.int .i64 0]), (b3, [.int .i64 0])]) (Zl := [row (Value.slice none 0 0) 41 Bu ([] : List (Int × Int × Int × Int × Int × Int)), row (Value.slice none 0 0) 43 BC ([] : List (Int × Int)), row (Value.slice none 0 0) 39 (Rp.slice (Rp.int .u64)) ([] : List (List Int)), row (Value.slice none 0 0) 3 (Rp.int .i64) ([] : List Int)]) (M := [(b4, [.string (bs x3.2.1), .int .i64 x3.2.2])]) (Z := []) (β := Value × Value × Value × Value) (u' := (.panicking ({ v := .iface 75 (.agg #[.int .i64 x3.1]), recovered := true } :: []))) (MM := fun x => [(b1, [.int .i64 ((Ab ((0, ([] : List (Int × Int × Int × Int × Int × Int)), ([] : List (Int × Int))), ([] : List (List Int)), ([] : List Int), 0, 0, 0, 0, 0, 0) 0 0 x3.1).1.1.1), x.1, x.2.1, x.2.2.1, x.2.2.2, .int .i64 ((Ab ((0, ([] : List (Int × Int × Int × Int × Int × Int)), ([] : List (Int × Int))), ([] : List (List Int)), ([] : List Int), 0, 0, 0, 0, 0, 0) 0 0 x3.1).1.2.2.2.1), .int .i64 ((Ab ((0, ([] : List (Int × Int × Int × Int × Int × Int)), ([] : List (Int × Int))), ([] : List (List Int)), ([] : List Int), 0, 0, 0, 0, 0, 0) 0 0 x3.1).1.2.2.2.2.1), .int .i64 ((Ab ((0, ([] : List (Int × Int × Int × Int × Int × Int)), ([] : List (Int × Int))), ([] : List (List Int)), ([] : List Int), 0, 0, 0, 0, 0, 0) 0 0 x3.1).1.2.2.2.2.2.1), .int .i64 ((Ab ((0, ([] : List (Int × Int × Int × Int × Int × Int)), ([] : List (Int × Int))), ([] : List (List Int)), ([] : List Int), 0, 0, 0, 0, 0, 0) 0 0 x3.1).1.2.2.2.2.2.2.1), .int .i64 ((Ab ((0, ([] : List (Int × Int × Int × Int × Int × Int)), ([] : List (Int × Int))), ([] : List (List Int)), ([] : List Int), 0, 0, 0, 0, 0, 0) 0 0 x3.1).1.2.2.2.2.2.2.2.1), .int .i64 ((Ab ((0, ([] : List (Int × Int × Int × Int × Int × Int)), ([] : List (Int × Int))), ([] : List (List Int)), ([] : List Int), 0, 0, 0, 0, 0, 0) 0 0 x3.1).1.2.2.2.2.2.2.2.2)]), (b2, (Mm x3)), (b3, (LY x3))]) (ZZ := fun x => [row x.1 41 Bu ((Ab ((0, ([] : List (Int × Int × Int × Int × Int × Int)), ([] : List (Int × Int))), ([] : List (List Int)), ([] : List Int), 0, 0, 0, 0, 0, 0) 0 0 x3.1).1.1.2.1), row x.2.1 43 BC ((Ab ((0, ([] : List (Int × Int × Int × Int × Int × Int)), ([] : List (Int × Int))), ([] : List (List Int)), ([] : List Int), 0, 0, 0, 0, 0, 0) 0 0 x3.1).1.1.2.2), row x.2.2.1 39 (Rp.slice (Rp.int .u64)) ((Ab ((0, ([] : List (Int × Int × Int × Int × Int × Int)), ([] : List (Int × Int))), ([] : List (List Int)), ([] : List Int), 0, 0, 0, 0, 0, 0) 0 0 x3.1).1.2.1), row x.2.2.2 3 (Rp.int .i64) ((Ab ((0, ([] : List (Int × Int × Int × Int × Int × Int)), ([] : List (Int × Int))), ([] : List (List Int)), ([] : List Int), 0, 0, 0, 0, 0, 0) 0 0 x3.1).1.2.2.1)]) F Jh (by simp) (fun hL => Aw _ _ w b1 (Value.slice none 0 0) (Value.slice none 0 0) (Value.slice none 0 0) (Value.slice none 0 0) b2 b3 ((0, ([] : List (Int × Int × Int × Int × Int × Int)), ([] : List (Int × Int))), ([] : List (List Int)), ([] : List Int), 0, 0, 0, 0, 0, 0) 0 0 x3.1 _ Aa hL) fun x w F => ?_
 obtain ⟨v73, v74, v75, v76⟩ := x
 have F : Stw ⟨Y, [], w0⟩ [(b1, [.int .i64 ((Ab ((0, ([] : List (Int × Int × Int × Int × Int × Int)), ([] : List (Int × Int))), ([] : List (List Int)), ([] : List Int), 0, 0, 0, 0, 0, 0) 0 0 x3.1).1.1.1), v73, v74, v75, v76, .int .i64 ((Ab ((0, ([] : List (Int × Int × Int × Int × Int × Int)), ([] : List (Int × Int))), ([] : List (List Int)), ([] : List Int), 0, 0, 0, 0, 0, 0) 0 0 x3.1).1.2.2.2.1), .int .i64 ((Ab ((0, ([] : List (Int × Int × Int × Int × Int × Int)), ([] : List (Int × Int))), ([] : List (List Int)), ([] : List Int), 0, 0, 0, 0, 0, 0) 0 0 x3.1).1.2.2.2.2.1), .int .i64 ((Ab ((0, ([] : List (Int × Int × Int × Int × Int × Int)), ([] : List (Int × Int))), ([] : List (List Int)), ([] : List Int), 0, 0, 0, 0, 0, 0) 0 0 x3.1).1.2.2.2.2.2.1), .int .i64 ((Ab ((0, ([] : List (Int × Int × Int × Int × Int × Int)), ([] : List (Int × Int))), ([] : List (List Int)), ([] : List Int), 0, 0, 0, 0, 0, 0) 0 0 x3.1).1.2.2.2.2.2.2.1), .int .i64 ((Ab ((0, ([] : List (Int × Int × Int × Int × Int × Int)), ([] : List (Int × Int))), ([] : List (List Int)), ([] : List Int), 0, 0, 0, 0, 0, 0) 0 0 x3.1).1.2.2.2.2.2.2.2.1), .int .i64 ((Ab ((0, ([] : List (Int × Int × Int × Int × Int × Int)), ([] : List (Int × Int))), ([] : List (List Int)), ([] : List Int), 0, 0, 0, 0, 0, 0) 0 0 x3.1).1.2.2.2.2.2.2.2.2)]), (b2, (Mm x3)), (b3, (LY x3)), (b4, [.string (bs x3.2.1), .int .i64 x3.2.2])] [row v73 41 Bu ((Ab ((0, ([] : List (Int × Int × Int × Int × Int × Int)), ([] : List (Int × Int))), ([] : List (List Int)), ([] : List Int), 0, 0, 0, 0, 0, 0) 0 0 x3.1).1.1.2.1), row v74 43 BC ((Ab ((0, ([] : List (Int × Int × Int × Int × Int × Int)), ([] : List (Int × Int))), ([] : List (List Int)), ([] : List Int), 0, 0, 0, 0, 0, 0) 0 0 x3.1).1.1.2.2), row v75 39 (Rp.slice (Rp.int .u64)) ((Ab ((0, ([] : List (Int × Int × Int × Int × Int × Int)), ([] : List (Int × Int))), ([] : List (List Int)), ([] : List Int), 0, 0, 0, 0, 0, 0) 0 0 x3.1).1.2.1), row v76 3 (Rp.int .i64) ((Ab ((0, ([] : List (Int × Int × Int × Int × Int × Int)), ([] : List (Int × Int))), ([] : List (List Int)), ([] : List Int), 0, 0, 0, 0, 0, 0) 0 0 x3.1).1.2.2.1)] w := F
 have H := A2 H
 subst H
 refine C0 F Aa (AN 0 W Aa Aa Gv Aa) (AN 1 W Aa Aa T3 Aa) (AN 2 W Aa Aa IA Aa) ?_
 have F := F.frontZ (i := 3) Aa Aa
 have F := F.frontZ (i := 3) Aa Aa
 have F := F.frontZ (i := 3) Aa Aa
 have F := F.frontZ (i := 3) Aa Aa
 have F := F.sub (M' := []) (Z' := [row v73 41 Bu ((Ab ((0, ([] : List (Int × Int × Int × Int × Int × Int)), ([] : List (Int × Int))), ([] : List (List Int)), ([] : List Int), 0, 0, 0, 0, 0, 0) 0 0 x3.1).1.1.2.1), row v74 43 BC ((Ab ((0, ([] : List (Int × Int × Int × Int × Int × Int)), ([] : List (Int × Int))), ([] : List (List Int)), ([] : List Int), 0, 0, 0, 0, 0, 0) 0 0 x3.1).1.1.2.2), row v75 39 (Rp.slice (Rp.int .u64)) ((Ab ((0, ([] : List (Int × Int × Int × Int × Int × Int)), ([] : List (Int × Int))), ([] : List (List Int)), ([] : List Int), 0, 0, 0, 0, 0, 0) 0 0 x3.1).1.2.1), row v76 3 (Rp.int .i64) ((Ab ((0, ([] : List (Int × Int × Int × Int × Int × Int)), ([] : List (Int × Int))), ([] : List (List Int)), ([] : List Int), 0, 0, 0, 0, 0, 0) 0 0 x3.1).1.2.2.1)]) (List.nil_sublist _) (List.Sublist.refl _)
 exact ⟨((v73), (v74), (v75), (v76)), Aa, F⟩
end Go.Proofs.YthmkgdnnocemmaaDoor
