/-
  Parts: QEnd.
-/
import Derived.Test.YtjpihophigjbpaaGreatDoorQ1
import Derived.Deep.RegionHeld3
set_option linter.unusedSimpArgs false
set_option linter.unusedVariables false
/-
  The last region of a submit's reading: what is read is handed back, and whether all stands that must.
-/
namespace Go.Proofs.YtjpihophigjbpaaGreatDoor
open Go.RowKit Go.Shelf Vs

theorem Box.seventeen {w : World} {b : Nat} {T : TypeId} {c0 c1 c2 c3 c4 c5 c6 c7 c8 c9 c10 c11 c12 c13 c14 c15 c16 : Value} (h : Box w b T [c0, c1, c2, c3, c4, c5, c6, c7, c8, c9, c10, c11, c12, c13, c14, c15, c16]) :
    (w.cell? ⟨b, 0, none⟩ = some c0 ∧ w.cell? ⟨b, 1, none⟩ = some c1 ∧ w.cell? ⟨b, 2, none⟩ = some c2 ∧ w.cell? ⟨b, 3, none⟩ = some c3 ∧ w.cell? ⟨b, 4, none⟩ = some c4 ∧ w.cell? ⟨b, 5, none⟩ = some c5 ∧ w.cell? ⟨b, 6, none⟩ = some c6 ∧ w.cell? ⟨b, 7, none⟩ = some c7 ∧ w.cell? ⟨b, 8, none⟩ = some c8 ∧ w.cell? ⟨b, 9, none⟩ = some c9 ∧
      w.cell? ⟨b, 10, none⟩ = some c10 ∧ w.cell? ⟨b, 11, none⟩ = some c11 ∧ w.cell? ⟨b, 12, none⟩ = some c12 ∧ w.cell? ⟨b, 13, none⟩ = some c13 ∧ w.cell? ⟨b, 14, none⟩ = some c14 ∧ w.cell? ⟨b, 15, none⟩ = some c15 ∧ w.cell? ⟨b, 16, none⟩ = some c16) ∧
    (w.frozen? ⟨b, 0, none⟩ = false ∧ w.frozen? ⟨b, 1, none⟩ = false ∧ w.frozen? ⟨b, 2, none⟩ = false ∧ w.frozen? ⟨b, 3, none⟩ = false ∧ w.frozen? ⟨b, 4, none⟩ = false ∧ w.frozen? ⟨b, 5, none⟩ = false ∧ w.frozen? ⟨b, 6, none⟩ = false ∧ w.frozen? ⟨b, 7, none⟩ = false ∧ w.frozen? ⟨b, 8, none⟩ = false ∧ w.frozen? ⟨b, 9, none⟩ = false ∧
      w.frozen? ⟨b, 10, none⟩ = false ∧ w.frozen? ⟨b, 11, none⟩ = false ∧ w.frozen? ⟨b, 12, none⟩ = false ∧ w.frozen? ⟨b, 13, none⟩ = false ∧ w.frozen? ⟨b, 14, none⟩ = false ∧ w.frozen? ⟨b, 15, none⟩ = false ∧ w.frozen? ⟨b, 16, none⟩ = false) ∧ b < w.heap.size :=
  ⟨⟨Box.cell h 0, Box.cell h 1, Box.cell h 2, Box.cell h 3, Box.cell h 4, Box.cell h 5, Box.cell h 6, Box.cell h 7, Box.cell h 8, Box.cell h 9, Box.cell h 10, Box.cell h 11, Box.cell h 12, Box.cell h 13, Box.cell h 14, Box.cell h 15, Box.cell h 16⟩,
   ⟨Box.free h 0, Box.free h 1, Box.free h 2, Box.free h 3, Box.free h 4, Box.free h 5, Box.free h 6, Box.free h 7, Box.free h 8, Box.free h 9, Box.free h 10, Box.free h 11, Box.free h 12, Box.free h 13, Box.free h 14, Box.free h 15, Box.free h 16⟩, Box.lt h⟩
/-- Seventeen cells written over. -/
theorem Box.over17 {w : World} {b : Nat} {T : TypeId} {c0 c1 c2 c3 c4 c5 c6 c7 c8 c9 c10 c11 c12 c13 c14 c15 c16 : Value} (h : Box w b T [c0, c1, c2, c3, c4, c5, c6, c7, c8, c9, c10, c11, c12, c13, c14, c15, c16]) (v0 v1 v2 v3 v4 v5 v6 v7 v8 v9 v10 v11 v12 v13 v14 v15 v16 : Value) : Box (((((((((((((((((w.setCell ⟨b, 0, none⟩ v0).setCell ⟨b, 1, none⟩ v1).setCell ⟨b, 2, none⟩ v2).setCell ⟨b, 3, none⟩ v3).setCell ⟨b, 4, none⟩ v4).setCell ⟨b, 5, none⟩ v5).setCell ⟨b, 6, none⟩ v6).setCell ⟨b, 7, none⟩ v7).setCell ⟨b, 8, none⟩ v8).setCell ⟨b, 9, none⟩ v9).setCell ⟨b, 10, none⟩ v10).setCell ⟨b, 11, none⟩ v11).setCell ⟨b, 12, none⟩ v12).setCell ⟨b, 13, none⟩ v13).setCell ⟨b, 14, none⟩ v14).setCell ⟨b, 15, none⟩ v15).setCell ⟨b, 16, none⟩ v16) b T [v0, v1, v2, v3, v4, v5, v6, v7, v8, v9, v10, v11, v12, v13, v14, v15, v16] := by
  have h17 := (Box.set (Box.set (Box.set (Box.set (Box.set (Box.set (Box.set (Box.set (Box.set (Box.set (Box.set (Box.set (Box.set (Box.set (Box.set (Box.set (Box.set h 0 v0) 1 v1) 2 v2) 3 v3) 4 v4) 5 v5) 6 v6) 7 v7) 8 v8) 9 v9) 10 v10) 11 v11) 12 v12) 13 v13) 14 v14) 15 v15) 16 v16)
  simpa only [List.set_cons_zero, List.set_cons_succ] using h17
theorem Box.other17 {w : World} {b b' : Nat} {T : TypeId} {cs : List Value} (h : Box w b' T cs) (hne : b' ≠ b) (v0 v1 v2 v3 v4 v5 v6 v7 v8 v9 v10 v11 v12 v13 v14 v15 v16 : Value) : Box (((((((((((((((((w.setCell ⟨b, 0, none⟩ v0).setCell ⟨b, 1, none⟩ v1).setCell ⟨b, 2, none⟩ v2).setCell ⟨b, 3, none⟩ v3).setCell ⟨b, 4, none⟩ v4).setCell ⟨b, 5, none⟩ v5).setCell ⟨b, 6, none⟩ v6).setCell ⟨b, 7, none⟩ v7).setCell ⟨b, 8, none⟩ v8).setCell ⟨b, 9, none⟩ v9).setCell ⟨b, 10, none⟩ v10).setCell ⟨b, 11, none⟩ v11).setCell ⟨b, 12, none⟩ v12).setCell ⟨b, 13, none⟩ v13).setCell ⟨b, 14, none⟩ v14).setCell ⟨b, 15, none⟩ v15).setCell ⟨b, 16, none⟩ v16) b' T cs :=
  (Box.other (Box.other (Box.other (Box.other (Box.other (Box.other (Box.other (Box.other (Box.other (Box.other (Box.other (Box.other (Box.other (Box.other (Box.other (Box.other (Box.other h (a := ⟨b, 0, none⟩) hne v0) (a := ⟨b, 1, none⟩) hne v1) (a := ⟨b, 2, none⟩) hne v2) (a := ⟨b, 3, none⟩) hne v3) (a := ⟨b, 4, none⟩) hne v4) (a := ⟨b, 5, none⟩) hne v5) (a := ⟨b, 6, none⟩) hne v6) (a := ⟨b, 7, none⟩) hne v7) (a := ⟨b, 8, none⟩) hne v8) (a := ⟨b, 9, none⟩) hne v9) (a := ⟨b, 10, none⟩) hne v10) (a := ⟨b, 11, none⟩) hne v11) (a := ⟨b, 12, none⟩) hne v12) (a := ⟨b, 13, none⟩) hne v13) (a := ⟨b, 14, none⟩) hne v14) (a := ⟨b, 15, none⟩) hne v15) (a := ⟨b, 16, none⟩) hne v16)
theorem below17 {B : Nat} {w0 w : World} {b : Nat} (h : Below B w0 w) (hb : B ≤ b) (v0 v1 v2 v3 v4 v5 v6 v7 v8 v9 v10 v11 v12 v13 v14 v15 v16 : Value) : Below B w0 (((((((((((((((((w.setCell ⟨b, 0, none⟩ v0).setCell ⟨b, 1, none⟩ v1).setCell ⟨b, 2, none⟩ v2).setCell ⟨b, 3, none⟩ v3).setCell ⟨b, 4, none⟩ v4).setCell ⟨b, 5, none⟩ v5).setCell ⟨b, 6, none⟩ v6).setCell ⟨b, 7, none⟩ v7).setCell ⟨b, 8, none⟩ v8).setCell ⟨b, 9, none⟩ v9).setCell ⟨b, 10, none⟩ v10).setCell ⟨b, 11, none⟩ v11).setCell ⟨b, 12, none⟩ v12).setCell ⟨b, 13, none⟩ v13).setCell ⟨b, 14, none⟩ v14).setCell ⟨b, 15, none⟩ v15).setCell ⟨b, 16, none⟩ v16) :=
  (((((((((((((((((h.setCell (p := ⟨b, 0, none⟩) hb v0).setCell (p := ⟨b, 1, none⟩) hb v1).setCell (p := ⟨b, 2, none⟩) hb v2).setCell (p := ⟨b, 3, none⟩) hb v3).setCell (p := ⟨b, 4, none⟩) hb v4).setCell (p := ⟨b, 5, none⟩) hb v5).setCell (p := ⟨b, 6, none⟩) hb v6).setCell (p := ⟨b, 7, none⟩) hb v7).setCell (p := ⟨b, 8, none⟩) hb v8).setCell (p := ⟨b, 9, none⟩) hb v9).setCell (p := ⟨b, 10, none⟩) hb v10).setCell (p := ⟨b, 11, none⟩) hb v11).setCell (p := ⟨b, 12, none⟩) hb v12).setCell (p := ⟨b, 13, none⟩) hb v13).setCell (p := ⟨b, 14, none⟩) hb v14).setCell (p := ⟨b, 15, none⟩) hb v15).setCell (p := ⟨b, 16, none⟩) hb v16)
abbrev so0 : Oper := { dst := some 52, op := Op.load 40 (Operand.tmp 4), type := 40, pos := "cmd.go:164", after := #[], guard := none }
abbrev so1 : Oper := { dst := some 53, op := Op.fieldAddr 40 (Operand.tmp 4) 1, type := 0, pos := "cmd.go:164", after := #[], guard := none }
abbrev so2 : Oper := { dst := some 54, op := Op.load 9 (Operand.tmp 53), type := 9, pos := "cmd.go:164", after := #[{ on := 1, ground := Ground.data }], guard := none }
abbrev so3 : Oper := { dst := some 55, op := Op.binOp BinOp.neq 9 (Operand.tmp 54) (Operand.const (Value.string ⟨#[]⟩)) 9, type := 4, pos := "cmd.go:164", after := #[{ on := 2, ground := Ground.data }], guard := none }
abbrev so4 : Oper := { dst := some 56, op := Op.move (Operand.tmp 55), type := 4, pos := "cmd.go:164", after := #[{ on := 3, ground := Ground.data }], guard := none }
abbrev so5 : Oper := { dst := some 57, op := Op.fieldAddr 40 (Operand.tmp 4) 2, type := 0, pos := "cmd.go:164", after := #[{ on := 4, ground := Ground.guard }], guard := some (4, true) }
abbrev so6 : Oper := { dst := some 58, op := Op.load 9 (Operand.tmp 57), type := 9, pos := "cmd.go:164", after := #[{ on := 5, ground := Ground.data }, { on := 4, ground := Ground.guard }], guard := some (4, true) }
abbrev so7 : Oper := { dst := some 59, op := Op.binOp BinOp.neq 9 (Operand.tmp 58) (Operand.const (Value.string ⟨#[]⟩)) 9, type := 4, pos := "cmd.go:164", after := #[{ on := 6, ground := Ground.data }, { on := 4, ground := Ground.guard }], guard := some (4, true) }
abbrev so8 : Oper := { dst := some 60, op := Op.pick (Operand.tmp 56) (Operand.tmp 59) (Operand.const (Value.bool false)), type := 4, pos := "cmd.go:164", after := #[{ on := 4, ground := Ground.data }, { on := 7, ground := Ground.data }], guard := none }
abbrev so9 : Oper := { dst := some 61, op := Op.move (Operand.tmp 60), type := 4, pos := "cmd.go:164", after := #[{ on := 8, ground := Ground.data }, { on := 4, ground := Ground.chain }], guard := none }
abbrev so10 : Oper := { dst := some 62, op := Op.fieldAddr 40 (Operand.tmp 4) 5, type := 0, pos := "cmd.go:164", after := #[{ on := 9, ground := Ground.guard }], guard := some (9, true) }
abbrev so11 : Oper := { dst := some 63, op := Op.load 3 (Operand.tmp 62), type := 3, pos := "cmd.go:164", after := #[{ on := 10, ground := Ground.data }, { on := 9, ground := Ground.guard }], guard := some (9, true) }
abbrev so12 : Oper := { dst := some 64, op := Op.binOp BinOp.leq 3 (Operand.const (Value.int IntKind.i64 1)) (Operand.tmp 63) 3, type := 4, pos := "cmd.go:164", after := #[{ on := 11, ground := Ground.data }, { on := 9, ground := Ground.guard }], guard := some (9, true) }
abbrev so13 : Oper := { dst := some 65, op := Op.pick (Operand.tmp 61) (Operand.tmp 64) (Operand.const (Value.bool false)), type := 4, pos := "cmd.go:164", after := #[{ on := 9, ground := Ground.data }, { on := 12, ground := Ground.data }], guard := none }
abbrev so14 : Oper := { dst := some 66, op := Op.move (Operand.tmp 65), type := 4, pos := "cmd.go:164", after := #[{ on := 13, ground := Ground.data }, { on := 9, ground := Ground.chain }], guard := none }
abbrev so15 : Oper := { dst := some 67, op := Op.fieldAddr 40 (Operand.tmp 4) 5, type := 0, pos := "cmd.go:164", after := #[{ on := 14, ground := Ground.guard }, { on := 19, ground := Ground.gcOnly Departure.lateStores }], guard := some (14, true) }
abbrev so16 : Oper := { dst := some 68, op := Op.load 3 (Operand.tmp 67), type := 3, pos := "cmd.go:164", after := #[{ on := 15, ground := Ground.data }, { on := 14, ground := Ground.guard }, { on := 19, ground := Ground.gcOnly Departure.lateStores }], guard := some (14, true) }
abbrev so17 : Oper := { dst := some 69, op := Op.binOp BinOp.leq 3 (Operand.tmp 68) (Operand.const (Value.int IntKind.i64 256)) 3, type := 4, pos := "cmd.go:164", after := #[{ on := 16, ground := Ground.data }, { on := 14, ground := Ground.guard }, { on := 19, ground := Ground.gcOnly Departure.lateStores }], guard := some (14, true) }
abbrev so18 : Oper := { dst := some 70, op := Op.pick (Operand.tmp 66) (Operand.tmp 69) (Operand.const (Value.bool false)), type := 4, pos := "cmd.go:164", after := #[{ on := 14, ground := Ground.data }, { on := 17, ground := Ground.data }, { on := 19, ground := Ground.gcOnly Departure.lateStores }], guard := none }
abbrev so19 : Oper := { dst := none, op := Op.store 40 (Operand.tmp 2) (Operand.tmp 52), type := 0, pos := "cmd.go:164", after := #[{ on := 0, ground := Ground.data }, { on := 14, ground := Ground.chain }, { on := 0, ground := Ground.phase }, { on := 1, ground := Ground.textOnly Departure.lateStores }, { on := 2, ground := Ground.textOnly Departure.lateStores }, { on := 3, ground := Ground.textOnly Departure.lateStores }, { on := 4, ground := Ground.textOnly Departure.lateStores }, { on := 5, ground := Ground.textOnly Departure.lateStores }, { on := 6, ground := Ground.textOnly Departure.lateStores }, { on := 7, ground := Ground.textOnly Departure.lateStores }, { on := 8, ground := Ground.textOnly Departure.lateStores }, { on := 9, ground := Ground.textOnly Departure.lateStores }, { on := 10, ground := Ground.textOnly Departure.lateStores }, { on := 11, ground := Ground.textOnly Departure.lateStores }, { on := 12, ground := Ground.textOnly Departure.lateStores }, { on := 13, ground := Ground.textOnly Departure.lateStores }, { on := 14, ground := Ground.textOnly Departure.lateStores }, { on := 15, ground := Ground.textOnly Departure.lateStores }, { on := 16, ground := Ground.textOnly Departure.lateStores }, { on := 17, ground := Ground.textOnly Departure.lateStores }, { on := 18, ground := Ground.textOnly Departure.lateStores }], guard := none }
abbrev so20 : Oper := { dst := some 3, op := Op.assign (Operand.tmp 70), type := 4, pos := "cmd.go:164", after := #[{ on := 18, ground := Ground.data }, { on := 19, ground := Ground.chain }, { on := 0, ground := Ground.phase }, { on := 1, ground := Ground.phase }, { on := 2, ground := Ground.phase }, { on := 3, ground := Ground.phase }, { on := 4, ground := Ground.phase }, { on := 5, ground := Ground.phase }, { on := 6, ground := Ground.phase }, { on := 7, ground := Ground.phase }, { on := 8, ground := Ground.phase }, { on := 9, ground := Ground.phase }, { on := 10, ground := Ground.phase }, { on := 11, ground := Ground.phase }, { on := 12, ground := Ground.phase }, { on := 13, ground := Ground.phase }, { on := 14, ground := Ground.phase }, { on := 15, ground := Ground.phase }, { on := 16, ground := Ground.phase }, { on := 17, ground := Ground.phase }, { on := 18, ground := Ground.phase }, { on := 19, ground := Ground.phase }], guard := none }
abbrev sos : Array Oper := #[so0, so1, so2, so3, so4, so5, so6, so7, so8, so9, so10, so11, so12, so13, so14, so15, so16, so17, so18, so19, so20]
abbrev soA (r b : Nat) (x0 x1 x3 x5 x6 x7 x8 x9 x10 x11 x12 x13 x14 x15 x16 x17 x18 x19 x20 x21 x22 x23 x24 x25 x26 x27 x28 x29 x30 x31 x32 x33 x34 x35 x36 x37 x38 x39 x40 x41 x42 x43 x44 x45 x46 x47 x48 x49 x50 x51 x52 x53 x54 x55 x56 x57 x58 x59 x60 x61 x62 x63 x64 x65 x66 x67 x68 x69 x70 : Value) : Act := { tmps := #[x0, x1, .pointer (some ⟨r, 0, none⟩), x3, .pointer (some ⟨b, 0, none⟩), x5, x6, x7, x8, x9, x10, x11, x12, x13, x14, x15, x16, x17, x18, x19, x20, x21, x22, x23, x24, x25, x26, x27, x28, x29, x30, x31, x32, x33, x34, x35, x36, x37, x38, x39, x40, x41, x42, x43, x44, x45, x46, x47, x48, x49, x50, x51, x52, x53, x54, x55, x56, x57, x58, x59, x60, x61, x62, x63, x64, x65, x66, x67, x68, x69, x70], defers := [] }
set_option maxRecDepth 100000 in
set_option maxHeartbeats 4000000 in
theorem sub_end_u {Q : Exit → Act → World → Prop} {w : World} {r b : Nat} {k0 : Int} {US PS QS NS HS : ByteArray} {nn tt rr r1 r2 r3 lm jb : Int} {an : Bool} {Ai Aa : Option Addr} {ni ci na ca : Nat} {c0 c1 c2 c3 c4 c5 c6 c7 c8 c9 c10 c11 c12 c13 c14 c15 c16 : Value} {x0 x1 x3 x5 x6 x7 x8 x9 x10 x11 x12 x13 x14 x15 x16 x17 x18 x19 x20 x21 x22 x23 x24 x25 x26 x27 x28 x29 x30 x31 x32 x33 x34 x35 x36 x37 x38 x39 x40 x41 x42 x43 x44 x45 x46 x47 x48 x49 x50 x51 x52 x53 x54 x55 x56 x57 x58 x59 x60 x61 x62 x63 x64 x65 x66 x67 x68 x69 x70 : Value} (hrb : b ≠ r) (hr : Box w r TCmd [c0, c1, c2, c3, c4, c5, c6, c7, c8, c9, c10, c11, c12, c13, c14, c15, c16]) (hb : Box w b TCmd [.int .i64 k0, .string US, .string PS, .string QS, .string NS, .int .i64 nn, .int .i64 tt, .int .i64 rr, .int .i64 r1, .int .i64 r2, .int .i64 r3, .bool an, .slice Ai ni ci, .slice Aa na ca, .int .i64 lm, .int .i64 jb, .string HS]) (u1 : US.toList = []) (u2 : US.toList.isEmpty = true)
    (hQ : ∀ (W : World) (y52 y53 y54 y55 y56 y57 y58 y59 y60 y61 y62 y63 y64 y65 y66 y67 y68 y69 y70 : Value), Aft r w W → Box W r TCmd [.int .i64 k0, .string US, .string PS, .string QS, .string NS, .int .i64 nn, .int .i64 tt, .int .i64 rr, .int .i64 r1, .int .i64 r2, .int .i64 r3, .bool an, .slice Ai ni ci, .slice Aa na ca, .int .i64 lm, .int .i64 jb, .string HS] → Q .normal (soA r b x0 x1 (.bool false) x5 x6 x7 x8 x9 x10 x11 x12 x13 x14 x15 x16 x17 x18 x19 x20 x21 x22 x23 x24 x25 x26 x27 x28 x29 x30 x31 x32 x33 x34 x35 x36 x37 x38 x39 x40 x41 x42 x43 x44 x45 x46 x47 x48 x49 x50 x51 y52 y53 y54 y55 y56 y57 y58 y59 y60 y61 y62 y63 y64 y65 y66 y67 y68 y69 y70) W) :
    (Code.region 12 sos true).wp Tryz.prog Q (soA r b x0 x1 x3 x5 x6 x7 x8 x9 x10 x11 x12 x13 x14 x15 x16 x17 x18 x19 x20 x21 x22 x23 x24 x25 x26 x27 x28 x29 x30 x31 x32 x33 x34 x35 x36 x37 x38 x39 x40 x41 x42 x43 x44 x45 x46 x47 x48 x49 x50 x51 x52 x53 x54 x55 x56 x57 x58 x59 x60 x61 x62 x63 x64 x65 x66 x67 x68 x69 x70) w := by
  have qd := fhid (show Box w.drew r TCmd [c0, c1, c2, c3, c4, c5, c6, c7, c8, c9, c10, c11, c12, c13, c14, c15, c16] from hr)
  have qb := fhid (show Box w.drew b TCmd [.int .i64 k0, .string US, .string PS, .string QS, .string NS, .int .i64 nn, .int .i64 tt, .int .i64 rr, .int .i64 r1, .int .i64 r2, .int .i64 r3, .bool an, .slice Ai ni ci, .slice Aa na ca, .int .i64 lm, .int .i64 jb, .string HS] from hb)
  have ad := fhid (show Aft r w w.drew from Aft.of ((Below.refl _ _).drew))
  clear hr hb
  replace hQ := fhid hQ
  refine wp_region_noPanic ?_
  refine wp_region_held_drew (S := fun w' => Box w' b TCmd [.int .i64 k0, .string US, .string PS, .string QS, .string NS, .int .i64 nn, .int .i64 tt, .int .i64 rr, .int .i64 r1, .int .i64 r2, .int .i64 r3, .bool an, .slice Ai ni ci, .slice Aa na ca, .int .i64 lm, .int .i64 jb, .string HS]) (by kernel_rfl) qb.out (fun hHeld => ?_)
  generalize w.drew = wd at *
  refine wpAnyH_take (i := 0) (v := ?v0) rfl (by kernel_rfl) (by kernel_rfl) (by kernel_rfl) (fun _ _ _ h => h) (Or.inl ⟨by kernel_rfl, ?hy0⟩) (by assumption) ?_
  case hy0 => (intro w0 hSw; obtain ⟨⟨m0, m1, m2, m3, m4, m5, m6, m7, m8, m9, m10, m11, m12, m13, m14, m15, m16⟩, _, hbl0⟩ := Box.seventeen hSw; go_simp; try with_reducible rfl)
  try simp only [Act.put, List.setIfInBounds_toArray, List.set_cons_zero, List.set_cons_succ]
  refine wpAnyH_take (i := 1) (v := ?v1) rfl (by kernel_rfl) (by kernel_rfl) (by kernel_rfl) (fun _ _ _ h => h) (Or.inl ⟨by kernel_rfl, ?hy1⟩) (by assumption) ?_
  case hy1 => (intro w0 hSw; clear hSw; go_simp; try with_reducible rfl)
  try simp only [Act.put, List.setIfInBounds_toArray, List.set_cons_zero, List.set_cons_succ]
  refine wpAnyH_take (i := 2) (v := ?v2) rfl (by kernel_rfl) (by kernel_rfl) (by kernel_rfl) (fun _ _ _ h => h) (Or.inl ⟨by kernel_rfl, ?hy2⟩) (by assumption) ?_
  case hy2 => (intro w0 hSw; have mm : w0.cell? ⟨b, 1, none⟩ = some (.string US) := Box.cell hSw 1; clear hSw; go_simp; try with_reducible rfl)
  try simp only [Act.put, List.setIfInBounds_toArray, List.set_cons_zero, List.set_cons_succ]
  refine wpAnyH_take (i := 3) (v := .bool false) rfl (by kernel_rfl) (by kernel_rfl) (by kernel_rfl) (fun _ _ _ h => h) (Or.inl ⟨by kernel_rfl, ?hy3⟩) (by assumption) ?_
  case hy3 => (intro w0 hSw; clear hSw; go_simp; try with_reducible rfl)
  try simp only [Act.put, List.setIfInBounds_toArray, List.set_cons_zero, List.set_cons_succ]
  refine wpAnyH_take (i := 4) (v := ?v4) rfl (by kernel_rfl) (by kernel_rfl) (by kernel_rfl) (fun _ _ _ h => h) (Or.inl ⟨by kernel_rfl, ?hy4⟩) (by assumption) ?_
  case hy4 => (intro w0 hSw; clear hSw; go_simp; try with_reducible rfl)
  try simp only [Act.put, List.setIfInBounds_toArray, List.set_cons_zero, List.set_cons_succ]
  refine wpAnyH_take (i := 5) (v := undef) rfl (by kernel_rfl) (by kernel_rfl) (by kernel_rfl) (fun _ _ _ h => h) (Or.inr ⟨by kernel_rfl, rfl⟩) (by assumption) ?_
  try simp only [Act.put, List.setIfInBounds_toArray, List.set_cons_zero, List.set_cons_succ]
  refine wpAnyH_take (i := 6) (v := undef) rfl (by kernel_rfl) (by kernel_rfl) (by kernel_rfl) (fun _ _ _ h => h) (Or.inr ⟨by kernel_rfl, rfl⟩) (by assumption) ?_
  try simp only [Act.put, List.setIfInBounds_toArray, List.set_cons_zero, List.set_cons_succ]
  refine wpAnyH_take (i := 7) (v := undef) rfl (by kernel_rfl) (by kernel_rfl) (by kernel_rfl) (fun _ _ _ h => h) (Or.inr ⟨by kernel_rfl, rfl⟩) (by assumption) ?_
  try simp only [Act.put, List.setIfInBounds_toArray, List.set_cons_zero, List.set_cons_succ]
  refine wpAnyH_take (i := 8) (v := ?v8) rfl (by kernel_rfl) (by kernel_rfl) (by kernel_rfl) (fun _ _ _ h => h) (Or.inl ⟨by kernel_rfl, ?hy8⟩) (by assumption) ?_
  case hy8 => (intro w0 hSw; clear hSw; go_simp; try with_reducible rfl)
  try simp only [Act.put, List.setIfInBounds_toArray, List.set_cons_zero, List.set_cons_succ]
  refine wpAnyH_take (i := 9) (v := ?v9) rfl (by kernel_rfl) (by kernel_rfl) (by kernel_rfl) (fun _ _ _ h => h) (Or.inl ⟨by kernel_rfl, ?hy9⟩) (by assumption) ?_
  case hy9 => (intro w0 hSw; clear hSw; go_simp; try with_reducible rfl)
  try simp only [Act.put, List.setIfInBounds_toArray, List.set_cons_zero, List.set_cons_succ]
  refine wpAnyH_take (i := 10) (v := undef) rfl (by kernel_rfl) (by kernel_rfl) (by kernel_rfl) (fun _ _ _ h => h) (Or.inr ⟨by kernel_rfl, rfl⟩) (by assumption) ?_
  try simp only [Act.put, List.setIfInBounds_toArray, List.set_cons_zero, List.set_cons_succ]
  refine wpAnyH_take (i := 11) (v := undef) rfl (by kernel_rfl) (by kernel_rfl) (by kernel_rfl) (fun _ _ _ h => h) (Or.inr ⟨by kernel_rfl, rfl⟩) (by assumption) ?_
  try simp only [Act.put, List.setIfInBounds_toArray, List.set_cons_zero, List.set_cons_succ]
  refine wpAnyH_take (i := 12) (v := undef) rfl (by kernel_rfl) (by kernel_rfl) (by kernel_rfl) (fun _ _ _ h => h) (Or.inr ⟨by kernel_rfl, rfl⟩) (by assumption) ?_
  try simp only [Act.put, List.setIfInBounds_toArray, List.set_cons_zero, List.set_cons_succ]
  refine wpAnyH_take (i := 13) (v := ?v13) rfl (by kernel_rfl) (by kernel_rfl) (by kernel_rfl) (fun _ _ _ h => h) (Or.inl ⟨by kernel_rfl, ?hy13⟩) (by assumption) ?_
  case hy13 => (intro w0 hSw; clear hSw; go_simp; try with_reducible rfl)
  try simp only [Act.put, List.setIfInBounds_toArray, List.set_cons_zero, List.set_cons_succ]
  refine wpAnyH_take (i := 14) (v := ?v14) rfl (by kernel_rfl) (by kernel_rfl) (by kernel_rfl) (fun _ _ _ h => h) (Or.inl ⟨by kernel_rfl, ?hy14⟩) (by assumption) ?_
  case hy14 => (intro w0 hSw; clear hSw; go_simp; try with_reducible rfl)
  try simp only [Act.put, List.setIfInBounds_toArray, List.set_cons_zero, List.set_cons_succ]
  refine wpAnyH_take (i := 15) (v := undef) rfl (by kernel_rfl) (by kernel_rfl) (by kernel_rfl) (fun _ _ _ h => h) (Or.inr ⟨by kernel_rfl, rfl⟩) (by assumption) ?_
  try simp only [Act.put, List.setIfInBounds_toArray, List.set_cons_zero, List.set_cons_succ]
  refine wpAnyH_take (i := 16) (v := undef) rfl (by kernel_rfl) (by kernel_rfl) (by kernel_rfl) (fun _ _ _ h => h) (Or.inr ⟨by kernel_rfl, rfl⟩) (by assumption) ?_
  try simp only [Act.put, List.setIfInBounds_toArray, List.set_cons_zero, List.set_cons_succ]
  refine wpAnyH_take (i := 17) (v := undef) rfl (by kernel_rfl) (by kernel_rfl) (by kernel_rfl) (fun _ _ _ h => h) (Or.inr ⟨by kernel_rfl, rfl⟩) (by assumption) ?_
  try simp only [Act.put, List.setIfInBounds_toArray, List.set_cons_zero, List.set_cons_succ]
  refine wpAnyH_take (i := 18) (v := ?v18) rfl (by kernel_rfl) (by kernel_rfl) (by kernel_rfl) (fun _ _ _ h => h) (Or.inl ⟨by kernel_rfl, ?hy18⟩) (by assumption) ?_
  case hy18 => (intro w0 hSw; clear hSw; go_simp; try with_reducible rfl)
  try simp only [Act.put, List.setIfInBounds_toArray, List.set_cons_zero, List.set_cons_succ]
  have hk17 := Box.seventeen qd.out
  have d0 := hk17.1.1
  have f0 := hk17.2.1.1
  have d1 := hk17.1.2.1
  have f1 := hk17.2.1.2.1
  have d2 := hk17.1.2.2.1
  have f2 := hk17.2.1.2.2.1
  have d3 := hk17.1.2.2.2.1
  have f3 := hk17.2.1.2.2.2.1
  have d4 := hk17.1.2.2.2.2.1
  have f4 := hk17.2.1.2.2.2.2.1
  have d5 := hk17.1.2.2.2.2.2.1
  have f5 := hk17.2.1.2.2.2.2.2.1
  have d6 := hk17.1.2.2.2.2.2.2.1
  have f6 := hk17.2.1.2.2.2.2.2.2.1
  have d7 := hk17.1.2.2.2.2.2.2.2.1
  have f7 := hk17.2.1.2.2.2.2.2.2.2.1
  have d8 := hk17.1.2.2.2.2.2.2.2.2.1
  have f8 := hk17.2.1.2.2.2.2.2.2.2.2.1
  have d9 := hk17.1.2.2.2.2.2.2.2.2.2.1
  have f9 := hk17.2.1.2.2.2.2.2.2.2.2.2.1
  have d10 := hk17.1.2.2.2.2.2.2.2.2.2.2.1
  have f10 := hk17.2.1.2.2.2.2.2.2.2.2.2.2.1
  have d11 := hk17.1.2.2.2.2.2.2.2.2.2.2.2.1
  have f11 := hk17.2.1.2.2.2.2.2.2.2.2.2.2.2.1
  have d12 := hk17.1.2.2.2.2.2.2.2.2.2.2.2.2.1
  have f12 := hk17.2.1.2.2.2.2.2.2.2.2.2.2.2.2.1
  have d13 := hk17.1.2.2.2.2.2.2.2.2.2.2.2.2.2.1
  have f13 := hk17.2.1.2.2.2.2.2.2.2.2.2.2.2.2.2.1
  have d14 := hk17.1.2.2.2.2.2.2.2.2.2.2.2.2.2.2.1
  have f14 := hk17.2.1.2.2.2.2.2.2.2.2.2.2.2.2.2.2.1
  have d15 := hk17.1.2.2.2.2.2.2.2.2.2.2.2.2.2.2.2.1
  have f15 := hk17.2.1.2.2.2.2.2.2.2.2.2.2.2.2.2.2.2.1
  have d16 := hk17.1.2.2.2.2.2.2.2.2.2.2.2.2.2.2.2.2
  have f16 := hk17.2.1.2.2.2.2.2.2.2.2.2.2.2.2.2.2.2.2
  have hrl := hk17.2.2
  clear hk17
  refine wpAnyH_ready (rs := [19]) (by kernel_rfl) (by simp) ?_
  refine AllReadyH.cons (o := so19) rfl (fun K hK => ?_) AllReadyH.nil
  replace hK := fhid hK
  go_simp
  refine hK.out _ _ (Box.other17 qb.out hrb _ _ _ _ _ _ _ _ _ _ _ _ _ _ _ _ _) (fun hHeld => ?_)
  clear hK K
  try simp only [Act.put, List.setIfInBounds_toArray, List.set_cons_zero, List.set_cons_succ]
  refine wpAnyH_take (i := 20) (v := ?v20) rfl (by kernel_rfl) (by kernel_rfl) (by kernel_rfl) (fun _ _ _ h => h) (Or.inl ⟨by kernel_rfl, ?hy20⟩) (by assumption) ?_
  case hy20 => (intro w0 hSw; clear hSw; go_simp; try with_reducible rfl)
  try simp only [Act.put, List.setIfInBounds_toArray, List.set_cons_zero, List.set_cons_succ]
  refine wpAnyH_done (by kernel_rfl) ?_ _
  refine NoPanic.normal ?_
  refine hQ.out _ _ _ _ _ _ _ _ _ _ _ _ _ _ _ _ _ _ _ _ ?_ (Box.over17 qd.out _ _ _ _ _ _ _ _ _ _ _ _ _ _ _ _ _)
  exact Aft.set (Aft.set (Aft.set (Aft.set (Aft.set (Aft.set (Aft.set (Aft.set (Aft.set (Aft.set (Aft.set (Aft.set (Aft.set (Aft.set (Aft.set (Aft.set (Aft.set ad.out 0 _) 1 _) 2 _) 3 _) 4 _) 5 _) 6 _) 7 _) 8 _) 9 _) 10 _) 11 _) 12 _) 13 _) 14 _) 15 _) 16 _
set_option maxRecDepth 100000 in
set_option maxHeartbeats 4000000 in
theorem sub_end_p {Q : Exit → Act → World → Prop} {w : World} {r b : Nat} {k0 : Int} {US PS QS NS HS : ByteArray} {nn tt rr r1 r2 r3 lm jb : Int} {an : Bool} {Ai Aa : Option Addr} {ni ci na ca : Nat} {c0 c1 c2 c3 c4 c5 c6 c7 c8 c9 c10 c11 c12 c13 c14 c15 c16 : Value} {x0 x1 x3 x5 x6 x7 x8 x9 x10 x11 x12 x13 x14 x15 x16 x17 x18 x19 x20 x21 x22 x23 x24 x25 x26 x27 x28 x29 x30 x31 x32 x33 x34 x35 x36 x37 x38 x39 x40 x41 x42 x43 x44 x45 x46 x47 x48 x49 x50 x51 x52 x53 x54 x55 x56 x57 x58 x59 x60 x61 x62 x63 x64 x65 x66 x67 x68 x69 x70 : Value} (hrb : b ≠ r) (hr : Box w r TCmd [c0, c1, c2, c3, c4, c5, c6, c7, c8, c9, c10, c11, c12, c13, c14, c15, c16]) (hb : Box w b TCmd [.int .i64 k0, .string US, .string PS, .string QS, .string NS, .int .i64 nn, .int .i64 tt, .int .i64 rr, .int .i64 r1, .int .i64 r2, .int .i64 r3, .bool an, .slice Ai ni ci, .slice Aa na ca, .int .i64 lm, .int .i64 jb, .string HS]) (u1 : ¬ US.toList = []) (u2 : US.toList.isEmpty = false) (p1 : PS.toList = []) (p2 : PS.toList.isEmpty = true)
    (hQ : ∀ (W : World) (y52 y53 y54 y55 y56 y57 y58 y59 y60 y61 y62 y63 y64 y65 y66 y67 y68 y69 y70 : Value), Aft r w W → Box W r TCmd [.int .i64 k0, .string US, .string PS, .string QS, .string NS, .int .i64 nn, .int .i64 tt, .int .i64 rr, .int .i64 r1, .int .i64 r2, .int .i64 r3, .bool an, .slice Ai ni ci, .slice Aa na ca, .int .i64 lm, .int .i64 jb, .string HS] → Q .normal (soA r b x0 x1 (.bool false) x5 x6 x7 x8 x9 x10 x11 x12 x13 x14 x15 x16 x17 x18 x19 x20 x21 x22 x23 x24 x25 x26 x27 x28 x29 x30 x31 x32 x33 x34 x35 x36 x37 x38 x39 x40 x41 x42 x43 x44 x45 x46 x47 x48 x49 x50 x51 y52 y53 y54 y55 y56 y57 y58 y59 y60 y61 y62 y63 y64 y65 y66 y67 y68 y69 y70) W) :
    (Code.region 12 sos true).wp Tryz.prog Q (soA r b x0 x1 x3 x5 x6 x7 x8 x9 x10 x11 x12 x13 x14 x15 x16 x17 x18 x19 x20 x21 x22 x23 x24 x25 x26 x27 x28 x29 x30 x31 x32 x33 x34 x35 x36 x37 x38 x39 x40 x41 x42 x43 x44 x45 x46 x47 x48 x49 x50 x51 x52 x53 x54 x55 x56 x57 x58 x59 x60 x61 x62 x63 x64 x65 x66 x67 x68 x69 x70) w := by
  have qd := fhid (show Box w.drew r TCmd [c0, c1, c2, c3, c4, c5, c6, c7, c8, c9, c10, c11, c12, c13, c14, c15, c16] from hr)
  have qb := fhid (show Box w.drew b TCmd [.int .i64 k0, .string US, .string PS, .string QS, .string NS, .int .i64 nn, .int .i64 tt, .int .i64 rr, .int .i64 r1, .int .i64 r2, .int .i64 r3, .bool an, .slice Ai ni ci, .slice Aa na ca, .int .i64 lm, .int .i64 jb, .string HS] from hb)
  have ad := fhid (show Aft r w w.drew from Aft.of ((Below.refl _ _).drew))
  clear hr hb
  replace hQ := fhid hQ
  refine wp_region_noPanic ?_
  refine wp_region_held_drew (S := fun w' => Box w' b TCmd [.int .i64 k0, .string US, .string PS, .string QS, .string NS, .int .i64 nn, .int .i64 tt, .int .i64 rr, .int .i64 r1, .int .i64 r2, .int .i64 r3, .bool an, .slice Ai ni ci, .slice Aa na ca, .int .i64 lm, .int .i64 jb, .string HS]) (by kernel_rfl) qb.out (fun hHeld => ?_)
  generalize w.drew = wd at *
  refine wpAnyH_take (i := 0) (v := ?v0) rfl (by kernel_rfl) (by kernel_rfl) (by kernel_rfl) (fun _ _ _ h => h) (Or.inl ⟨by kernel_rfl, ?hy0⟩) (by assumption) ?_
  case hy0 => (intro w0 hSw; obtain ⟨⟨m0, m1, m2, m3, m4, m5, m6, m7, m8, m9, m10, m11, m12, m13, m14, m15, m16⟩, _, hbl0⟩ := Box.seventeen hSw; go_simp; try with_reducible rfl)
  try simp only [Act.put, List.setIfInBounds_toArray, List.set_cons_zero, List.set_cons_succ]
  refine wpAnyH_take (i := 1) (v := ?v1) rfl (by kernel_rfl) (by kernel_rfl) (by kernel_rfl) (fun _ _ _ h => h) (Or.inl ⟨by kernel_rfl, ?hy1⟩) (by assumption) ?_
  case hy1 => (intro w0 hSw; clear hSw; go_simp; try with_reducible rfl)
  try simp only [Act.put, List.setIfInBounds_toArray, List.set_cons_zero, List.set_cons_succ]
  refine wpAnyH_take (i := 2) (v := ?v2) rfl (by kernel_rfl) (by kernel_rfl) (by kernel_rfl) (fun _ _ _ h => h) (Or.inl ⟨by kernel_rfl, ?hy2⟩) (by assumption) ?_
  case hy2 => (intro w0 hSw; have mm : w0.cell? ⟨b, 1, none⟩ = some (.string US) := Box.cell hSw 1; clear hSw; go_simp; try with_reducible rfl)
  try simp only [Act.put, List.setIfInBounds_toArray, List.set_cons_zero, List.set_cons_succ]
  refine wpAnyH_take (i := 3) (v := .bool true) rfl (by kernel_rfl) (by kernel_rfl) (by kernel_rfl) (fun _ _ _ h => h) (Or.inl ⟨by kernel_rfl, ?hy3⟩) (by assumption) ?_
  case hy3 => (intro w0 hSw; clear hSw; go_simp; try with_reducible rfl)
  try simp only [Act.put, List.setIfInBounds_toArray, List.set_cons_zero, List.set_cons_succ]
  refine wpAnyH_take (i := 4) (v := ?v4) rfl (by kernel_rfl) (by kernel_rfl) (by kernel_rfl) (fun _ _ _ h => h) (Or.inl ⟨by kernel_rfl, ?hy4⟩) (by assumption) ?_
  case hy4 => (intro w0 hSw; clear hSw; go_simp; try with_reducible rfl)
  try simp only [Act.put, List.setIfInBounds_toArray, List.set_cons_zero, List.set_cons_succ]
  refine wpAnyH_take (i := 5) (v := ?v5) rfl (by kernel_rfl) (by kernel_rfl) (by kernel_rfl) (fun _ _ _ h => h) (Or.inl ⟨by kernel_rfl, ?hy5⟩) (by assumption) ?_
  case hy5 => (intro w0 hSw; clear hSw; go_simp; try with_reducible rfl)
  try simp only [Act.put, List.setIfInBounds_toArray, List.set_cons_zero, List.set_cons_succ]
  refine wpAnyH_take (i := 6) (v := ?v6) rfl (by kernel_rfl) (by kernel_rfl) (by kernel_rfl) (fun _ _ _ h => h) (Or.inl ⟨by kernel_rfl, ?hy6⟩) (by assumption) ?_
  case hy6 => (intro w0 hSw; have mm : w0.cell? ⟨b, 2, none⟩ = some (.string PS) := Box.cell hSw 2; clear hSw; go_simp; try with_reducible rfl)
  try simp only [Act.put, List.setIfInBounds_toArray, List.set_cons_zero, List.set_cons_succ]
  refine wpAnyH_take (i := 7) (v := .bool false) rfl (by kernel_rfl) (by kernel_rfl) (by kernel_rfl) (fun _ _ _ h => h) (Or.inl ⟨by kernel_rfl, ?hy7⟩) (by assumption) ?_
  case hy7 => (intro w0 hSw; clear hSw; go_simp; try with_reducible rfl)
  try simp only [Act.put, List.setIfInBounds_toArray, List.set_cons_zero, List.set_cons_succ]
  refine wpAnyH_take (i := 8) (v := ?v8) rfl (by kernel_rfl) (by kernel_rfl) (by kernel_rfl) (fun _ _ _ h => h) (Or.inl ⟨by kernel_rfl, ?hy8⟩) (by assumption) ?_
  case hy8 => (intro w0 hSw; clear hSw; go_simp; try with_reducible rfl)
  try simp only [Act.put, List.setIfInBounds_toArray, List.set_cons_zero, List.set_cons_succ]
  refine wpAnyH_take (i := 9) (v := ?v9) rfl (by kernel_rfl) (by kernel_rfl) (by kernel_rfl) (fun _ _ _ h => h) (Or.inl ⟨by kernel_rfl, ?hy9⟩) (by assumption) ?_
  case hy9 => (intro w0 hSw; clear hSw; go_simp; try with_reducible rfl)
  try simp only [Act.put, List.setIfInBounds_toArray, List.set_cons_zero, List.set_cons_succ]
  refine wpAnyH_take (i := 10) (v := undef) rfl (by kernel_rfl) (by kernel_rfl) (by kernel_rfl) (fun _ _ _ h => h) (Or.inr ⟨by kernel_rfl, rfl⟩) (by assumption) ?_
  try simp only [Act.put, List.setIfInBounds_toArray, List.set_cons_zero, List.set_cons_succ]
  refine wpAnyH_take (i := 11) (v := undef) rfl (by kernel_rfl) (by kernel_rfl) (by kernel_rfl) (fun _ _ _ h => h) (Or.inr ⟨by kernel_rfl, rfl⟩) (by assumption) ?_
  try simp only [Act.put, List.setIfInBounds_toArray, List.set_cons_zero, List.set_cons_succ]
  refine wpAnyH_take (i := 12) (v := undef) rfl (by kernel_rfl) (by kernel_rfl) (by kernel_rfl) (fun _ _ _ h => h) (Or.inr ⟨by kernel_rfl, rfl⟩) (by assumption) ?_
  try simp only [Act.put, List.setIfInBounds_toArray, List.set_cons_zero, List.set_cons_succ]
  refine wpAnyH_take (i := 13) (v := ?v13) rfl (by kernel_rfl) (by kernel_rfl) (by kernel_rfl) (fun _ _ _ h => h) (Or.inl ⟨by kernel_rfl, ?hy13⟩) (by assumption) ?_
  case hy13 => (intro w0 hSw; clear hSw; go_simp; try with_reducible rfl)
  try simp only [Act.put, List.setIfInBounds_toArray, List.set_cons_zero, List.set_cons_succ]
  refine wpAnyH_take (i := 14) (v := ?v14) rfl (by kernel_rfl) (by kernel_rfl) (by kernel_rfl) (fun _ _ _ h => h) (Or.inl ⟨by kernel_rfl, ?hy14⟩) (by assumption) ?_
  case hy14 => (intro w0 hSw; clear hSw; go_simp; try with_reducible rfl)
  try simp only [Act.put, List.setIfInBounds_toArray, List.set_cons_zero, List.set_cons_succ]
  refine wpAnyH_take (i := 15) (v := undef) rfl (by kernel_rfl) (by kernel_rfl) (by kernel_rfl) (fun _ _ _ h => h) (Or.inr ⟨by kernel_rfl, rfl⟩) (by assumption) ?_
  try simp only [Act.put, List.setIfInBounds_toArray, List.set_cons_zero, List.set_cons_succ]
  refine wpAnyH_take (i := 16) (v := undef) rfl (by kernel_rfl) (by kernel_rfl) (by kernel_rfl) (fun _ _ _ h => h) (Or.inr ⟨by kernel_rfl, rfl⟩) (by assumption) ?_
  try simp only [Act.put, List.setIfInBounds_toArray, List.set_cons_zero, List.set_cons_succ]
  refine wpAnyH_take (i := 17) (v := undef) rfl (by kernel_rfl) (by kernel_rfl) (by kernel_rfl) (fun _ _ _ h => h) (Or.inr ⟨by kernel_rfl, rfl⟩) (by assumption) ?_
  try simp only [Act.put, List.setIfInBounds_toArray, List.set_cons_zero, List.set_cons_succ]
  refine wpAnyH_take (i := 18) (v := ?v18) rfl (by kernel_rfl) (by kernel_rfl) (by kernel_rfl) (fun _ _ _ h => h) (Or.inl ⟨by kernel_rfl, ?hy18⟩) (by assumption) ?_
  case hy18 => (intro w0 hSw; clear hSw; go_simp; try with_reducible rfl)
  try simp only [Act.put, List.setIfInBounds_toArray, List.set_cons_zero, List.set_cons_succ]
  have hk17 := Box.seventeen qd.out
  have d0 := hk17.1.1
  have f0 := hk17.2.1.1
  have d1 := hk17.1.2.1
  have f1 := hk17.2.1.2.1
  have d2 := hk17.1.2.2.1
  have f2 := hk17.2.1.2.2.1
  have d3 := hk17.1.2.2.2.1
  have f3 := hk17.2.1.2.2.2.1
  have d4 := hk17.1.2.2.2.2.1
  have f4 := hk17.2.1.2.2.2.2.1
  have d5 := hk17.1.2.2.2.2.2.1
  have f5 := hk17.2.1.2.2.2.2.2.1
  have d6 := hk17.1.2.2.2.2.2.2.1
  have f6 := hk17.2.1.2.2.2.2.2.2.1
  have d7 := hk17.1.2.2.2.2.2.2.2.1
  have f7 := hk17.2.1.2.2.2.2.2.2.2.1
  have d8 := hk17.1.2.2.2.2.2.2.2.2.1
  have f8 := hk17.2.1.2.2.2.2.2.2.2.2.1
  have d9 := hk17.1.2.2.2.2.2.2.2.2.2.1
  have f9 := hk17.2.1.2.2.2.2.2.2.2.2.2.1
  have d10 := hk17.1.2.2.2.2.2.2.2.2.2.2.1
  have f10 := hk17.2.1.2.2.2.2.2.2.2.2.2.2.1
  have d11 := hk17.1.2.2.2.2.2.2.2.2.2.2.2.1
  have f11 := hk17.2.1.2.2.2.2.2.2.2.2.2.2.2.1
  have d12 := hk17.1.2.2.2.2.2.2.2.2.2.2.2.2.1
  have f12 := hk17.2.1.2.2.2.2.2.2.2.2.2.2.2.2.1
  have d13 := hk17.1.2.2.2.2.2.2.2.2.2.2.2.2.2.1
  have f13 := hk17.2.1.2.2.2.2.2.2.2.2.2.2.2.2.2.1
  have d14 := hk17.1.2.2.2.2.2.2.2.2.2.2.2.2.2.2.1
  have f14 := hk17.2.1.2.2.2.2.2.2.2.2.2.2.2.2.2.2.1
  have d15 := hk17.1.2.2.2.2.2.2.2.2.2.2.2.2.2.2.2.1
  have f15 := hk17.2.1.2.2.2.2.2.2.2.2.2.2.2.2.2.2.2.1
  have d16 := hk17.1.2.2.2.2.2.2.2.2.2.2.2.2.2.2.2.2
  have f16 := hk17.2.1.2.2.2.2.2.2.2.2.2.2.2.2.2.2.2.2
  have hrl := hk17.2.2
  clear hk17
  refine wpAnyH_ready (rs := [19]) (by kernel_rfl) (by simp) ?_
  refine AllReadyH.cons (o := so19) rfl (fun K hK => ?_) AllReadyH.nil
  replace hK := fhid hK
  go_simp
  refine hK.out _ _ (Box.other17 qb.out hrb _ _ _ _ _ _ _ _ _ _ _ _ _ _ _ _ _) (fun hHeld => ?_)
  clear hK K
  try simp only [Act.put, List.setIfInBounds_toArray, List.set_cons_zero, List.set_cons_succ]
  refine wpAnyH_take (i := 20) (v := ?v20) rfl (by kernel_rfl) (by kernel_rfl) (by kernel_rfl) (fun _ _ _ h => h) (Or.inl ⟨by kernel_rfl, ?hy20⟩) (by assumption) ?_
  case hy20 => (intro w0 hSw; clear hSw; go_simp; try with_reducible rfl)
  try simp only [Act.put, List.setIfInBounds_toArray, List.set_cons_zero, List.set_cons_succ]
  refine wpAnyH_done (by kernel_rfl) ?_ _
  refine NoPanic.normal ?_
  refine hQ.out _ _ _ _ _ _ _ _ _ _ _ _ _ _ _ _ _ _ _ _ ?_ (Box.over17 qd.out _ _ _ _ _ _ _ _ _ _ _ _ _ _ _ _ _)
  exact Aft.set (Aft.set (Aft.set (Aft.set (Aft.set (Aft.set (Aft.set (Aft.set (Aft.set (Aft.set (Aft.set (Aft.set (Aft.set (Aft.set (Aft.set (Aft.set (Aft.set ad.out 0 _) 1 _) 2 _) 3 _) 4 _) 5 _) 6 _) 7 _) 8 _) 9 _) 10 _) 11 _) 12 _) 13 _) 14 _) 15 _) 16 _
set_option maxRecDepth 100000 in
set_option maxHeartbeats 4000000 in
theorem sub_end_n {Q : Exit → Act → World → Prop} {w : World} {r b : Nat} {k0 : Int} {US PS QS NS HS : ByteArray} {nn tt rr r1 r2 r3 lm jb : Int} {an : Bool} {Ai Aa : Option Addr} {ni ci na ca : Nat} {c0 c1 c2 c3 c4 c5 c6 c7 c8 c9 c10 c11 c12 c13 c14 c15 c16 : Value} {x0 x1 x3 x5 x6 x7 x8 x9 x10 x11 x12 x13 x14 x15 x16 x17 x18 x19 x20 x21 x22 x23 x24 x25 x26 x27 x28 x29 x30 x31 x32 x33 x34 x35 x36 x37 x38 x39 x40 x41 x42 x43 x44 x45 x46 x47 x48 x49 x50 x51 x52 x53 x54 x55 x56 x57 x58 x59 x60 x61 x62 x63 x64 x65 x66 x67 x68 x69 x70 : Value} (hrb : b ≠ r) (hr : Box w r TCmd [c0, c1, c2, c3, c4, c5, c6, c7, c8, c9, c10, c11, c12, c13, c14, c15, c16]) (hb : Box w b TCmd [.int .i64 k0, .string US, .string PS, .string QS, .string NS, .int .i64 nn, .int .i64 tt, .int .i64 rr, .int .i64 r1, .int .i64 r2, .int .i64 r3, .bool an, .slice Ai ni ci, .slice Aa na ca, .int .i64 lm, .int .i64 jb, .string HS]) (u1 : ¬ US.toList = []) (u2 : US.toList.isEmpty = false) (p1 : ¬ PS.toList = []) (p2 : PS.toList.isEmpty = false) (n1 : ¬ 1 ≤ nn)
    (hQ : ∀ (W : World) (y52 y53 y54 y55 y56 y57 y58 y59 y60 y61 y62 y63 y64 y65 y66 y67 y68 y69 y70 : Value), Aft r w W → Box W r TCmd [.int .i64 k0, .string US, .string PS, .string QS, .string NS, .int .i64 nn, .int .i64 tt, .int .i64 rr, .int .i64 r1, .int .i64 r2, .int .i64 r3, .bool an, .slice Ai ni ci, .slice Aa na ca, .int .i64 lm, .int .i64 jb, .string HS] → Q .normal (soA r b x0 x1 (.bool false) x5 x6 x7 x8 x9 x10 x11 x12 x13 x14 x15 x16 x17 x18 x19 x20 x21 x22 x23 x24 x25 x26 x27 x28 x29 x30 x31 x32 x33 x34 x35 x36 x37 x38 x39 x40 x41 x42 x43 x44 x45 x46 x47 x48 x49 x50 x51 y52 y53 y54 y55 y56 y57 y58 y59 y60 y61 y62 y63 y64 y65 y66 y67 y68 y69 y70) W) :
    (Code.region 12 sos true).wp Tryz.prog Q (soA r b x0 x1 x3 x5 x6 x7 x8 x9 x10 x11 x12 x13 x14 x15 x16 x17 x18 x19 x20 x21 x22 x23 x24 x25 x26 x27 x28 x29 x30 x31 x32 x33 x34 x35 x36 x37 x38 x39 x40 x41 x42 x43 x44 x45 x46 x47 x48 x49 x50 x51 x52 x53 x54 x55 x56 x57 x58 x59 x60 x61 x62 x63 x64 x65 x66 x67 x68 x69 x70) w := by
  have qd := fhid (show Box w.drew r TCmd [c0, c1, c2, c3, c4, c5, c6, c7, c8, c9, c10, c11, c12, c13, c14, c15, c16] from hr)
  have qb := fhid (show Box w.drew b TCmd [.int .i64 k0, .string US, .string PS, .string QS, .string NS, .int .i64 nn, .int .i64 tt, .int .i64 rr, .int .i64 r1, .int .i64 r2, .int .i64 r3, .bool an, .slice Ai ni ci, .slice Aa na ca, .int .i64 lm, .int .i64 jb, .string HS] from hb)
  have ad := fhid (show Aft r w w.drew from Aft.of ((Below.refl _ _).drew))
  clear hr hb
  replace hQ := fhid hQ
  refine wp_region_noPanic ?_
  refine wp_region_held_drew (S := fun w' => Box w' b TCmd [.int .i64 k0, .string US, .string PS, .string QS, .string NS, .int .i64 nn, .int .i64 tt, .int .i64 rr, .int .i64 r1, .int .i64 r2, .int .i64 r3, .bool an, .slice Ai ni ci, .slice Aa na ca, .int .i64 lm, .int .i64 jb, .string HS]) (by kernel_rfl) qb.out (fun hHeld => ?_)
  generalize w.drew = wd at *
  refine wpAnyH_take (i := 0) (v := ?v0) rfl (by kernel_rfl) (by kernel_rfl) (by kernel_rfl) (fun _ _ _ h => h) (Or.inl ⟨by kernel_rfl, ?hy0⟩) (by assumption) ?_
  case hy0 => (intro w0 hSw; obtain ⟨⟨m0, m1, m2, m3, m4, m5, m6, m7, m8, m9, m10, m11, m12, m13, m14, m15, m16⟩, _, hbl0⟩ := Box.seventeen hSw; go_simp; try with_reducible rfl)
  try simp only [Act.put, List.setIfInBounds_toArray, List.set_cons_zero, List.set_cons_succ]
  refine wpAnyH_take (i := 1) (v := ?v1) rfl (by kernel_rfl) (by kernel_rfl) (by kernel_rfl) (fun _ _ _ h => h) (Or.inl ⟨by kernel_rfl, ?hy1⟩) (by assumption) ?_
  case hy1 => (intro w0 hSw; clear hSw; go_simp; try with_reducible rfl)
  try simp only [Act.put, List.setIfInBounds_toArray, List.set_cons_zero, List.set_cons_succ]
  refine wpAnyH_take (i := 2) (v := ?v2) rfl (by kernel_rfl) (by kernel_rfl) (by kernel_rfl) (fun _ _ _ h => h) (Or.inl ⟨by kernel_rfl, ?hy2⟩) (by assumption) ?_
  case hy2 => (intro w0 hSw; have mm : w0.cell? ⟨b, 1, none⟩ = some (.string US) := Box.cell hSw 1; clear hSw; go_simp; try with_reducible rfl)
  try simp only [Act.put, List.setIfInBounds_toArray, List.set_cons_zero, List.set_cons_succ]
  refine wpAnyH_take (i := 3) (v := .bool true) rfl (by kernel_rfl) (by kernel_rfl) (by kernel_rfl) (fun _ _ _ h => h) (Or.inl ⟨by kernel_rfl, ?hy3⟩) (by assumption) ?_
  case hy3 => (intro w0 hSw; clear hSw; go_simp; try with_reducible rfl)
  try simp only [Act.put, List.setIfInBounds_toArray, List.set_cons_zero, List.set_cons_succ]
  refine wpAnyH_take (i := 4) (v := ?v4) rfl (by kernel_rfl) (by kernel_rfl) (by kernel_rfl) (fun _ _ _ h => h) (Or.inl ⟨by kernel_rfl, ?hy4⟩) (by assumption) ?_
  case hy4 => (intro w0 hSw; clear hSw; go_simp; try with_reducible rfl)
  try simp only [Act.put, List.setIfInBounds_toArray, List.set_cons_zero, List.set_cons_succ]
  refine wpAnyH_take (i := 5) (v := ?v5) rfl (by kernel_rfl) (by kernel_rfl) (by kernel_rfl) (fun _ _ _ h => h) (Or.inl ⟨by kernel_rfl, ?hy5⟩) (by assumption) ?_
  case hy5 => (intro w0 hSw; clear hSw; go_simp; try with_reducible rfl)
  try simp only [Act.put, List.setIfInBounds_toArray, List.set_cons_zero, List.set_cons_succ]
  refine wpAnyH_take (i := 6) (v := ?v6) rfl (by kernel_rfl) (by kernel_rfl) (by kernel_rfl) (fun _ _ _ h => h) (Or.inl ⟨by kernel_rfl, ?hy6⟩) (by assumption) ?_
  case hy6 => (intro w0 hSw; have mm : w0.cell? ⟨b, 2, none⟩ = some (.string PS) := Box.cell hSw 2; clear hSw; go_simp; try with_reducible rfl)
  try simp only [Act.put, List.setIfInBounds_toArray, List.set_cons_zero, List.set_cons_succ]
  refine wpAnyH_take (i := 7) (v := .bool true) rfl (by kernel_rfl) (by kernel_rfl) (by kernel_rfl) (fun _ _ _ h => h) (Or.inl ⟨by kernel_rfl, ?hy7⟩) (by assumption) ?_
  case hy7 => (intro w0 hSw; clear hSw; go_simp; try with_reducible rfl)
  try simp only [Act.put, List.setIfInBounds_toArray, List.set_cons_zero, List.set_cons_succ]
  refine wpAnyH_take (i := 8) (v := ?v8) rfl (by kernel_rfl) (by kernel_rfl) (by kernel_rfl) (fun _ _ _ h => h) (Or.inl ⟨by kernel_rfl, ?hy8⟩) (by assumption) ?_
  case hy8 => (intro w0 hSw; clear hSw; go_simp; try with_reducible rfl)
  try simp only [Act.put, List.setIfInBounds_toArray, List.set_cons_zero, List.set_cons_succ]
  refine wpAnyH_take (i := 9) (v := ?v9) rfl (by kernel_rfl) (by kernel_rfl) (by kernel_rfl) (fun _ _ _ h => h) (Or.inl ⟨by kernel_rfl, ?hy9⟩) (by assumption) ?_
  case hy9 => (intro w0 hSw; clear hSw; go_simp; try with_reducible rfl)
  try simp only [Act.put, List.setIfInBounds_toArray, List.set_cons_zero, List.set_cons_succ]
  refine wpAnyH_take (i := 10) (v := ?v10) rfl (by kernel_rfl) (by kernel_rfl) (by kernel_rfl) (fun _ _ _ h => h) (Or.inl ⟨by kernel_rfl, ?hy10⟩) (by assumption) ?_
  case hy10 => (intro w0 hSw; clear hSw; go_simp; try with_reducible rfl)
  try simp only [Act.put, List.setIfInBounds_toArray, List.set_cons_zero, List.set_cons_succ]
  refine wpAnyH_take (i := 11) (v := ?v11) rfl (by kernel_rfl) (by kernel_rfl) (by kernel_rfl) (fun _ _ _ h => h) (Or.inl ⟨by kernel_rfl, ?hy11⟩) (by assumption) ?_
  case hy11 => (intro w0 hSw; have mm : w0.cell? ⟨b, 5, none⟩ = some (.int .i64 nn) := Box.cell hSw 5; clear hSw; go_simp; try with_reducible rfl)
  try simp only [Act.put, List.setIfInBounds_toArray, List.set_cons_zero, List.set_cons_succ]
  refine wpAnyH_take (i := 12) (v := .bool false) rfl (by kernel_rfl) (by kernel_rfl) (by kernel_rfl) (fun _ _ _ h => h) (Or.inl ⟨by kernel_rfl, ?hy12⟩) (by assumption) ?_
  case hy12 => (intro w0 hSw; clear hSw; go_simp; try with_reducible rfl)
  try simp only [Act.put, List.setIfInBounds_toArray, List.set_cons_zero, List.set_cons_succ]
  refine wpAnyH_take (i := 13) (v := ?v13) rfl (by kernel_rfl) (by kernel_rfl) (by kernel_rfl) (fun _ _ _ h => h) (Or.inl ⟨by kernel_rfl, ?hy13⟩) (by assumption) ?_
  case hy13 => (intro w0 hSw; clear hSw; go_simp; try with_reducible rfl)
  try simp only [Act.put, List.setIfInBounds_toArray, List.set_cons_zero, List.set_cons_succ]
  refine wpAnyH_take (i := 14) (v := ?v14) rfl (by kernel_rfl) (by kernel_rfl) (by kernel_rfl) (fun _ _ _ h => h) (Or.inl ⟨by kernel_rfl, ?hy14⟩) (by assumption) ?_
  case hy14 => (intro w0 hSw; clear hSw; go_simp; try with_reducible rfl)
  try simp only [Act.put, List.setIfInBounds_toArray, List.set_cons_zero, List.set_cons_succ]
  refine wpAnyH_take (i := 15) (v := undef) rfl (by kernel_rfl) (by kernel_rfl) (by kernel_rfl) (fun _ _ _ h => h) (Or.inr ⟨by kernel_rfl, rfl⟩) (by assumption) ?_
  try simp only [Act.put, List.setIfInBounds_toArray, List.set_cons_zero, List.set_cons_succ]
  refine wpAnyH_take (i := 16) (v := undef) rfl (by kernel_rfl) (by kernel_rfl) (by kernel_rfl) (fun _ _ _ h => h) (Or.inr ⟨by kernel_rfl, rfl⟩) (by assumption) ?_
  try simp only [Act.put, List.setIfInBounds_toArray, List.set_cons_zero, List.set_cons_succ]
  refine wpAnyH_take (i := 17) (v := undef) rfl (by kernel_rfl) (by kernel_rfl) (by kernel_rfl) (fun _ _ _ h => h) (Or.inr ⟨by kernel_rfl, rfl⟩) (by assumption) ?_
  try simp only [Act.put, List.setIfInBounds_toArray, List.set_cons_zero, List.set_cons_succ]
  refine wpAnyH_take (i := 18) (v := ?v18) rfl (by kernel_rfl) (by kernel_rfl) (by kernel_rfl) (fun _ _ _ h => h) (Or.inl ⟨by kernel_rfl, ?hy18⟩) (by assumption) ?_
  case hy18 => (intro w0 hSw; clear hSw; go_simp; try with_reducible rfl)
  try simp only [Act.put, List.setIfInBounds_toArray, List.set_cons_zero, List.set_cons_succ]
  have hk17 := Box.seventeen qd.out
  have d0 := hk17.1.1
  have f0 := hk17.2.1.1
  have d1 := hk17.1.2.1
  have f1 := hk17.2.1.2.1
  have d2 := hk17.1.2.2.1
  have f2 := hk17.2.1.2.2.1
  have d3 := hk17.1.2.2.2.1
  have f3 := hk17.2.1.2.2.2.1
  have d4 := hk17.1.2.2.2.2.1
  have f4 := hk17.2.1.2.2.2.2.1
  have d5 := hk17.1.2.2.2.2.2.1
  have f5 := hk17.2.1.2.2.2.2.2.1
  have d6 := hk17.1.2.2.2.2.2.2.1
  have f6 := hk17.2.1.2.2.2.2.2.2.1
  have d7 := hk17.1.2.2.2.2.2.2.2.1
  have f7 := hk17.2.1.2.2.2.2.2.2.2.1
  have d8 := hk17.1.2.2.2.2.2.2.2.2.1
  have f8 := hk17.2.1.2.2.2.2.2.2.2.2.1
  have d9 := hk17.1.2.2.2.2.2.2.2.2.2.1
  have f9 := hk17.2.1.2.2.2.2.2.2.2.2.2.1
  have d10 := hk17.1.2.2.2.2.2.2.2.2.2.2.1
  have f10 := hk17.2.1.2.2.2.2.2.2.2.2.2.2.1
  have d11 := hk17.1.2.2.2.2.2.2.2.2.2.2.2.1
  have f11 := hk17.2.1.2.2.2.2.2.2.2.2.2.2.2.1
  have d12 := hk17.1.2.2.2.2.2.2.2.2.2.2.2.2.1
  have f12 := hk17.2.1.2.2.2.2.2.2.2.2.2.2.2.2.1
  have d13 := hk17.1.2.2.2.2.2.2.2.2.2.2.2.2.2.1
  have f13 := hk17.2.1.2.2.2.2.2.2.2.2.2.2.2.2.2.1
  have d14 := hk17.1.2.2.2.2.2.2.2.2.2.2.2.2.2.2.1
  have f14 := hk17.2.1.2.2.2.2.2.2.2.2.2.2.2.2.2.2.1
  have d15 := hk17.1.2.2.2.2.2.2.2.2.2.2.2.2.2.2.2.1
  have f15 := hk17.2.1.2.2.2.2.2.2.2.2.2.2.2.2.2.2.2.1
  have d16 := hk17.1.2.2.2.2.2.2.2.2.2.2.2.2.2.2.2.2
  have f16 := hk17.2.1.2.2.2.2.2.2.2.2.2.2.2.2.2.2.2.2
  have hrl := hk17.2.2
  clear hk17
  refine wpAnyH_ready (rs := [19]) (by kernel_rfl) (by simp) ?_
  refine AllReadyH.cons (o := so19) rfl (fun K hK => ?_) AllReadyH.nil
  replace hK := fhid hK
  go_simp
  refine hK.out _ _ (Box.other17 qb.out hrb _ _ _ _ _ _ _ _ _ _ _ _ _ _ _ _ _) (fun hHeld => ?_)
  clear hK K
  try simp only [Act.put, List.setIfInBounds_toArray, List.set_cons_zero, List.set_cons_succ]
  refine wpAnyH_take (i := 20) (v := ?v20) rfl (by kernel_rfl) (by kernel_rfl) (by kernel_rfl) (fun _ _ _ h => h) (Or.inl ⟨by kernel_rfl, ?hy20⟩) (by assumption) ?_
  case hy20 => (intro w0 hSw; clear hSw; go_simp; try with_reducible rfl)
  try simp only [Act.put, List.setIfInBounds_toArray, List.set_cons_zero, List.set_cons_succ]
  refine wpAnyH_done (by kernel_rfl) ?_ _
  refine NoPanic.normal ?_
  refine hQ.out _ _ _ _ _ _ _ _ _ _ _ _ _ _ _ _ _ _ _ _ ?_ (Box.over17 qd.out _ _ _ _ _ _ _ _ _ _ _ _ _ _ _ _ _)
  exact Aft.set (Aft.set (Aft.set (Aft.set (Aft.set (Aft.set (Aft.set (Aft.set (Aft.set (Aft.set (Aft.set (Aft.set (Aft.set (Aft.set (Aft.set (Aft.set (Aft.set ad.out 0 _) 1 _) 2 _) 3 _) 4 _) 5 _) 6 _) 7 _) 8 _) 9 _) 10 _) 11 _) 12 _) 13 _) 14 _) 15 _) 16 _
set_option maxRecDepth 100000 in
set_option maxHeartbeats 4000000 in
theorem sub_end_m {Q : Exit → Act → World → Prop} {w : World} {r b : Nat} {k0 : Int} {US PS QS NS HS : ByteArray} {nn tt rr r1 r2 r3 lm jb : Int} {an : Bool} {Ai Aa : Option Addr} {ni ci na ca : Nat} {c0 c1 c2 c3 c4 c5 c6 c7 c8 c9 c10 c11 c12 c13 c14 c15 c16 : Value} {x0 x1 x3 x5 x6 x7 x8 x9 x10 x11 x12 x13 x14 x15 x16 x17 x18 x19 x20 x21 x22 x23 x24 x25 x26 x27 x28 x29 x30 x31 x32 x33 x34 x35 x36 x37 x38 x39 x40 x41 x42 x43 x44 x45 x46 x47 x48 x49 x50 x51 x52 x53 x54 x55 x56 x57 x58 x59 x60 x61 x62 x63 x64 x65 x66 x67 x68 x69 x70 : Value} (hrb : b ≠ r) (hr : Box w r TCmd [c0, c1, c2, c3, c4, c5, c6, c7, c8, c9, c10, c11, c12, c13, c14, c15, c16]) (hb : Box w b TCmd [.int .i64 k0, .string US, .string PS, .string QS, .string NS, .int .i64 nn, .int .i64 tt, .int .i64 rr, .int .i64 r1, .int .i64 r2, .int .i64 r3, .bool an, .slice Ai ni ci, .slice Aa na ca, .int .i64 lm, .int .i64 jb, .string HS]) (u1 : ¬ US.toList = []) (u2 : US.toList.isEmpty = false) (p1 : ¬ PS.toList = []) (p2 : PS.toList.isEmpty = false) (n1 : 1 ≤ nn) (n2 : ¬ nn ≤ 256)
    (hQ : ∀ (W : World) (y52 y53 y54 y55 y56 y57 y58 y59 y60 y61 y62 y63 y64 y65 y66 y67 y68 y69 y70 : Value), Aft r w W → Box W r TCmd [.int .i64 k0, .string US, .string PS, .string QS, .string NS, .int .i64 nn, .int .i64 tt, .int .i64 rr, .int .i64 r1, .int .i64 r2, .int .i64 r3, .bool an, .slice Ai ni ci, .slice Aa na ca, .int .i64 lm, .int .i64 jb, .string HS] → Q .normal (soA r b x0 x1 (.bool false) x5 x6 x7 x8 x9 x10 x11 x12 x13 x14 x15 x16 x17 x18 x19 x20 x21 x22 x23 x24 x25 x26 x27 x28 x29 x30 x31 x32 x33 x34 x35 x36 x37 x38 x39 x40 x41 x42 x43 x44 x45 x46 x47 x48 x49 x50 x51 y52 y53 y54 y55 y56 y57 y58 y59 y60 y61 y62 y63 y64 y65 y66 y67 y68 y69 y70) W) :
    (Code.region 12 sos true).wp Tryz.prog Q (soA r b x0 x1 x3 x5 x6 x7 x8 x9 x10 x11 x12 x13 x14 x15 x16 x17 x18 x19 x20 x21 x22 x23 x24 x25 x26 x27 x28 x29 x30 x31 x32 x33 x34 x35 x36 x37 x38 x39 x40 x41 x42 x43 x44 x45 x46 x47 x48 x49 x50 x51 x52 x53 x54 x55 x56 x57 x58 x59 x60 x61 x62 x63 x64 x65 x66 x67 x68 x69 x70) w := by
  have qd := fhid (show Box w.drew r TCmd [c0, c1, c2, c3, c4, c5, c6, c7, c8, c9, c10, c11, c12, c13, c14, c15, c16] from hr)
  have qb := fhid (show Box w.drew b TCmd [.int .i64 k0, .string US, .string PS, .string QS, .string NS, .int .i64 nn, .int .i64 tt, .int .i64 rr, .int .i64 r1, .int .i64 r2, .int .i64 r3, .bool an, .slice Ai ni ci, .slice Aa na ca, .int .i64 lm, .int .i64 jb, .string HS] from hb)
  have ad := fhid (show Aft r w w.drew from Aft.of ((Below.refl _ _).drew))
  clear hr hb
  replace hQ := fhid hQ
  refine wp_region_noPanic ?_
  refine wp_region_held_drew (S := fun w' => Box w' b TCmd [.int .i64 k0, .string US, .string PS, .string QS, .string NS, .int .i64 nn, .int .i64 tt, .int .i64 rr, .int .i64 r1, .int .i64 r2, .int .i64 r3, .bool an, .slice Ai ni ci, .slice Aa na ca, .int .i64 lm, .int .i64 jb, .string HS]) (by kernel_rfl) qb.out (fun hHeld => ?_)
  generalize w.drew = wd at *
  refine wpAnyH_take (i := 0) (v := ?v0) rfl (by kernel_rfl) (by kernel_rfl) (by kernel_rfl) (fun _ _ _ h => h) (Or.inl ⟨by kernel_rfl, ?hy0⟩) (by assumption) ?_
  case hy0 => (intro w0 hSw; obtain ⟨⟨m0, m1, m2, m3, m4, m5, m6, m7, m8, m9, m10, m11, m12, m13, m14, m15, m16⟩, _, hbl0⟩ := Box.seventeen hSw; go_simp; try with_reducible rfl)
  try simp only [Act.put, List.setIfInBounds_toArray, List.set_cons_zero, List.set_cons_succ]
  refine wpAnyH_take (i := 1) (v := ?v1) rfl (by kernel_rfl) (by kernel_rfl) (by kernel_rfl) (fun _ _ _ h => h) (Or.inl ⟨by kernel_rfl, ?hy1⟩) (by assumption) ?_
  case hy1 => (intro w0 hSw; clear hSw; go_simp; try with_reducible rfl)
  try simp only [Act.put, List.setIfInBounds_toArray, List.set_cons_zero, List.set_cons_succ]
  refine wpAnyH_take (i := 2) (v := ?v2) rfl (by kernel_rfl) (by kernel_rfl) (by kernel_rfl) (fun _ _ _ h => h) (Or.inl ⟨by kernel_rfl, ?hy2⟩) (by assumption) ?_
  case hy2 => (intro w0 hSw; have mm : w0.cell? ⟨b, 1, none⟩ = some (.string US) := Box.cell hSw 1; clear hSw; go_simp; try with_reducible rfl)
  try simp only [Act.put, List.setIfInBounds_toArray, List.set_cons_zero, List.set_cons_succ]
  refine wpAnyH_take (i := 3) (v := .bool true) rfl (by kernel_rfl) (by kernel_rfl) (by kernel_rfl) (fun _ _ _ h => h) (Or.inl ⟨by kernel_rfl, ?hy3⟩) (by assumption) ?_
  case hy3 => (intro w0 hSw; clear hSw; go_simp; try with_reducible rfl)
  try simp only [Act.put, List.setIfInBounds_toArray, List.set_cons_zero, List.set_cons_succ]
  refine wpAnyH_take (i := 4) (v := ?v4) rfl (by kernel_rfl) (by kernel_rfl) (by kernel_rfl) (fun _ _ _ h => h) (Or.inl ⟨by kernel_rfl, ?hy4⟩) (by assumption) ?_
  case hy4 => (intro w0 hSw; clear hSw; go_simp; try with_reducible rfl)
  try simp only [Act.put, List.setIfInBounds_toArray, List.set_cons_zero, List.set_cons_succ]
  refine wpAnyH_take (i := 5) (v := ?v5) rfl (by kernel_rfl) (by kernel_rfl) (by kernel_rfl) (fun _ _ _ h => h) (Or.inl ⟨by kernel_rfl, ?hy5⟩) (by assumption) ?_
  case hy5 => (intro w0 hSw; clear hSw; go_simp; try with_reducible rfl)
  try simp only [Act.put, List.setIfInBounds_toArray, List.set_cons_zero, List.set_cons_succ]
  refine wpAnyH_take (i := 6) (v := ?v6) rfl (by kernel_rfl) (by kernel_rfl) (by kernel_rfl) (fun _ _ _ h => h) (Or.inl ⟨by kernel_rfl, ?hy6⟩) (by assumption) ?_
  case hy6 => (intro w0 hSw; have mm : w0.cell? ⟨b, 2, none⟩ = some (.string PS) := Box.cell hSw 2; clear hSw; go_simp; try with_reducible rfl)
  try simp only [Act.put, List.setIfInBounds_toArray, List.set_cons_zero, List.set_cons_succ]
  refine wpAnyH_take (i := 7) (v := .bool true) rfl (by kernel_rfl) (by kernel_rfl) (by kernel_rfl) (fun _ _ _ h => h) (Or.inl ⟨by kernel_rfl, ?hy7⟩) (by assumption) ?_
  case hy7 => (intro w0 hSw; clear hSw; go_simp; try with_reducible rfl)
  try simp only [Act.put, List.setIfInBounds_toArray, List.set_cons_zero, List.set_cons_succ]
  refine wpAnyH_take (i := 8) (v := ?v8) rfl (by kernel_rfl) (by kernel_rfl) (by kernel_rfl) (fun _ _ _ h => h) (Or.inl ⟨by kernel_rfl, ?hy8⟩) (by assumption) ?_
  case hy8 => (intro w0 hSw; clear hSw; go_simp; try with_reducible rfl)
  try simp only [Act.put, List.setIfInBounds_toArray, List.set_cons_zero, List.set_cons_succ]
  refine wpAnyH_take (i := 9) (v := ?v9) rfl (by kernel_rfl) (by kernel_rfl) (by kernel_rfl) (fun _ _ _ h => h) (Or.inl ⟨by kernel_rfl, ?hy9⟩) (by assumption) ?_
  case hy9 => (intro w0 hSw; clear hSw; go_simp; try with_reducible rfl)
  try simp only [Act.put, List.setIfInBounds_toArray, List.set_cons_zero, List.set_cons_succ]
  refine wpAnyH_take (i := 10) (v := ?v10) rfl (by kernel_rfl) (by kernel_rfl) (by kernel_rfl) (fun _ _ _ h => h) (Or.inl ⟨by kernel_rfl, ?hy10⟩) (by assumption) ?_
  case hy10 => (intro w0 hSw; clear hSw; go_simp; try with_reducible rfl)
  try simp only [Act.put, List.setIfInBounds_toArray, List.set_cons_zero, List.set_cons_succ]
  refine wpAnyH_take (i := 11) (v := ?v11) rfl (by kernel_rfl) (by kernel_rfl) (by kernel_rfl) (fun _ _ _ h => h) (Or.inl ⟨by kernel_rfl, ?hy11⟩) (by assumption) ?_
  case hy11 => (intro w0 hSw; have mm : w0.cell? ⟨b, 5, none⟩ = some (.int .i64 nn) := Box.cell hSw 5; clear hSw; go_simp; try with_reducible rfl)
  try simp only [Act.put, List.setIfInBounds_toArray, List.set_cons_zero, List.set_cons_succ]
  refine wpAnyH_take (i := 12) (v := .bool true) rfl (by kernel_rfl) (by kernel_rfl) (by kernel_rfl) (fun _ _ _ h => h) (Or.inl ⟨by kernel_rfl, ?hy12⟩) (by assumption) ?_
  case hy12 => (intro w0 hSw; clear hSw; go_simp; try with_reducible rfl)
  try simp only [Act.put, List.setIfInBounds_toArray, List.set_cons_zero, List.set_cons_succ]
  refine wpAnyH_take (i := 13) (v := ?v13) rfl (by kernel_rfl) (by kernel_rfl) (by kernel_rfl) (fun _ _ _ h => h) (Or.inl ⟨by kernel_rfl, ?hy13⟩) (by assumption) ?_
  case hy13 => (intro w0 hSw; clear hSw; go_simp; try with_reducible rfl)
  try simp only [Act.put, List.setIfInBounds_toArray, List.set_cons_zero, List.set_cons_succ]
  refine wpAnyH_take (i := 14) (v := ?v14) rfl (by kernel_rfl) (by kernel_rfl) (by kernel_rfl) (fun _ _ _ h => h) (Or.inl ⟨by kernel_rfl, ?hy14⟩) (by assumption) ?_
  case hy14 => (intro w0 hSw; clear hSw; go_simp; try with_reducible rfl)
  try simp only [Act.put, List.setIfInBounds_toArray, List.set_cons_zero, List.set_cons_succ]
  refine wpAnyH_take (i := 15) (v := ?v15) rfl (by kernel_rfl) (by kernel_rfl) (by kernel_rfl) (fun _ _ _ h => h) (Or.inl ⟨by kernel_rfl, ?hy15⟩) (by assumption) ?_
  case hy15 => (intro w0 hSw; clear hSw; go_simp; try with_reducible rfl)
  try simp only [Act.put, List.setIfInBounds_toArray, List.set_cons_zero, List.set_cons_succ]
  refine wpAnyH_take (i := 16) (v := ?v16) rfl (by kernel_rfl) (by kernel_rfl) (by kernel_rfl) (fun _ _ _ h => h) (Or.inl ⟨by kernel_rfl, ?hy16⟩) (by assumption) ?_
  case hy16 => (intro w0 hSw; have mm : w0.cell? ⟨b, 5, none⟩ = some (.int .i64 nn) := Box.cell hSw 5; clear hSw; go_simp; try with_reducible rfl)
  try simp only [Act.put, List.setIfInBounds_toArray, List.set_cons_zero, List.set_cons_succ]
  refine wpAnyH_take (i := 17) (v := .bool false) rfl (by kernel_rfl) (by kernel_rfl) (by kernel_rfl) (fun _ _ _ h => h) (Or.inl ⟨by kernel_rfl, ?hy17⟩) (by assumption) ?_
  case hy17 => (intro w0 hSw; clear hSw; go_simp; try with_reducible rfl)
  try simp only [Act.put, List.setIfInBounds_toArray, List.set_cons_zero, List.set_cons_succ]
  refine wpAnyH_take (i := 18) (v := ?v18) rfl (by kernel_rfl) (by kernel_rfl) (by kernel_rfl) (fun _ _ _ h => h) (Or.inl ⟨by kernel_rfl, ?hy18⟩) (by assumption) ?_
  case hy18 => (intro w0 hSw; clear hSw; go_simp; try with_reducible rfl)
  try simp only [Act.put, List.setIfInBounds_toArray, List.set_cons_zero, List.set_cons_succ]
  have hk17 := Box.seventeen qd.out
  have d0 := hk17.1.1
  have f0 := hk17.2.1.1
  have d1 := hk17.1.2.1
  have f1 := hk17.2.1.2.1
  have d2 := hk17.1.2.2.1
  have f2 := hk17.2.1.2.2.1
  have d3 := hk17.1.2.2.2.1
  have f3 := hk17.2.1.2.2.2.1
  have d4 := hk17.1.2.2.2.2.1
  have f4 := hk17.2.1.2.2.2.2.1
  have d5 := hk17.1.2.2.2.2.2.1
  have f5 := hk17.2.1.2.2.2.2.2.1
  have d6 := hk17.1.2.2.2.2.2.2.1
  have f6 := hk17.2.1.2.2.2.2.2.2.1
  have d7 := hk17.1.2.2.2.2.2.2.2.1
  have f7 := hk17.2.1.2.2.2.2.2.2.2.1
  have d8 := hk17.1.2.2.2.2.2.2.2.2.1
  have f8 := hk17.2.1.2.2.2.2.2.2.2.2.1
  have d9 := hk17.1.2.2.2.2.2.2.2.2.2.1
  have f9 := hk17.2.1.2.2.2.2.2.2.2.2.2.1
  have d10 := hk17.1.2.2.2.2.2.2.2.2.2.2.1
  have f10 := hk17.2.1.2.2.2.2.2.2.2.2.2.2.1
  have d11 := hk17.1.2.2.2.2.2.2.2.2.2.2.2.1
  have f11 := hk17.2.1.2.2.2.2.2.2.2.2.2.2.2.1
  have d12 := hk17.1.2.2.2.2.2.2.2.2.2.2.2.2.1
  have f12 := hk17.2.1.2.2.2.2.2.2.2.2.2.2.2.2.1
  have d13 := hk17.1.2.2.2.2.2.2.2.2.2.2.2.2.2.1
  have f13 := hk17.2.1.2.2.2.2.2.2.2.2.2.2.2.2.2.1
  have d14 := hk17.1.2.2.2.2.2.2.2.2.2.2.2.2.2.2.1
  have f14 := hk17.2.1.2.2.2.2.2.2.2.2.2.2.2.2.2.2.1
  have d15 := hk17.1.2.2.2.2.2.2.2.2.2.2.2.2.2.2.2.1
  have f15 := hk17.2.1.2.2.2.2.2.2.2.2.2.2.2.2.2.2.2.1
  have d16 := hk17.1.2.2.2.2.2.2.2.2.2.2.2.2.2.2.2.2
  have f16 := hk17.2.1.2.2.2.2.2.2.2.2.2.2.2.2.2.2.2.2
  have hrl := hk17.2.2
  clear hk17
  refine wpAnyH_ready (rs := [19]) (by kernel_rfl) (by simp) ?_
  refine AllReadyH.cons (o := so19) rfl (fun K hK => ?_) AllReadyH.nil
  replace hK := fhid hK
  go_simp
  refine hK.out _ _ (Box.other17 qb.out hrb _ _ _ _ _ _ _ _ _ _ _ _ _ _ _ _ _) (fun hHeld => ?_)
  clear hK K
  try simp only [Act.put, List.setIfInBounds_toArray, List.set_cons_zero, List.set_cons_succ]
  refine wpAnyH_take (i := 20) (v := ?v20) rfl (by kernel_rfl) (by kernel_rfl) (by kernel_rfl) (fun _ _ _ h => h) (Or.inl ⟨by kernel_rfl, ?hy20⟩) (by assumption) ?_
  case hy20 => (intro w0 hSw; clear hSw; go_simp; try with_reducible rfl)
  try simp only [Act.put, List.setIfInBounds_toArray, List.set_cons_zero, List.set_cons_succ]
  refine wpAnyH_done (by kernel_rfl) ?_ _
  refine NoPanic.normal ?_
  refine hQ.out _ _ _ _ _ _ _ _ _ _ _ _ _ _ _ _ _ _ _ _ ?_ (Box.over17 qd.out _ _ _ _ _ _ _ _ _ _ _ _ _ _ _ _ _)
  exact Aft.set (Aft.set (Aft.set (Aft.set (Aft.set (Aft.set (Aft.set (Aft.set (Aft.set (Aft.set (Aft.set (Aft.set (Aft.set (Aft.set (Aft.set (Aft.set (Aft.set ad.out 0 _) 1 _) 2 _) 3 _) 4 _) 5 _) 6 _) 7 _) 8 _) 9 _) 10 _) 11 _) 12 _) 13 _) 14 _) 15 _) 16 _
set_option maxRecDepth 100000 in
set_option maxHeartbeats 4000000 in
theorem sub_end_a {Q : Exit → Act → World → Prop} {w : World} {r b : Nat} {k0 : Int} {US PS QS NS HS : ByteArray} {nn tt rr r1 r2 r3 lm jb : Int} {an : Bool} {Ai Aa : Option Addr} {ni ci na ca : Nat} {c0 c1 c2 c3 c4 c5 c6 c7 c8 c9 c10 c11 c12 c13 c14 c15 c16 : Value} {x0 x1 x3 x5 x6 x7 x8 x9 x10 x11 x12 x13 x14 x15 x16 x17 x18 x19 x20 x21 x22 x23 x24 x25 x26 x27 x28 x29 x30 x31 x32 x33 x34 x35 x36 x37 x38 x39 x40 x41 x42 x43 x44 x45 x46 x47 x48 x49 x50 x51 x52 x53 x54 x55 x56 x57 x58 x59 x60 x61 x62 x63 x64 x65 x66 x67 x68 x69 x70 : Value} (hrb : b ≠ r) (hr : Box w r TCmd [c0, c1, c2, c3, c4, c5, c6, c7, c8, c9, c10, c11, c12, c13, c14, c15, c16]) (hb : Box w b TCmd [.int .i64 k0, .string US, .string PS, .string QS, .string NS, .int .i64 nn, .int .i64 tt, .int .i64 rr, .int .i64 r1, .int .i64 r2, .int .i64 r3, .bool an, .slice Ai ni ci, .slice Aa na ca, .int .i64 lm, .int .i64 jb, .string HS]) (u1 : ¬ US.toList = []) (u2 : US.toList.isEmpty = false) (p1 : ¬ PS.toList = []) (p2 : PS.toList.isEmpty = false) (n1 : 1 ≤ nn) (n2 : nn ≤ 256)
    (hQ : ∀ (W : World) (y52 y53 y54 y55 y56 y57 y58 y59 y60 y61 y62 y63 y64 y65 y66 y67 y68 y69 y70 : Value), Aft r w W → Box W r TCmd [.int .i64 k0, .string US, .string PS, .string QS, .string NS, .int .i64 nn, .int .i64 tt, .int .i64 rr, .int .i64 r1, .int .i64 r2, .int .i64 r3, .bool an, .slice Ai ni ci, .slice Aa na ca, .int .i64 lm, .int .i64 jb, .string HS] → Q .normal (soA r b x0 x1 (.bool true) x5 x6 x7 x8 x9 x10 x11 x12 x13 x14 x15 x16 x17 x18 x19 x20 x21 x22 x23 x24 x25 x26 x27 x28 x29 x30 x31 x32 x33 x34 x35 x36 x37 x38 x39 x40 x41 x42 x43 x44 x45 x46 x47 x48 x49 x50 x51 y52 y53 y54 y55 y56 y57 y58 y59 y60 y61 y62 y63 y64 y65 y66 y67 y68 y69 y70) W) :
    (Code.region 12 sos true).wp Tryz.prog Q (soA r b x0 x1 x3 x5 x6 x7 x8 x9 x10 x11 x12 x13 x14 x15 x16 x17 x18 x19 x20 x21 x22 x23 x24 x25 x26 x27 x28 x29 x30 x31 x32 x33 x34 x35 x36 x37 x38 x39 x40 x41 x42 x43 x44 x45 x46 x47 x48 x49 x50 x51 x52 x53 x54 x55 x56 x57 x58 x59 x60 x61 x62 x63 x64 x65 x66 x67 x68 x69 x70) w := by
  have qd := fhid (show Box w.drew r TCmd [c0, c1, c2, c3, c4, c5, c6, c7, c8, c9, c10, c11, c12, c13, c14, c15, c16] from hr)
  have qb := fhid (show Box w.drew b TCmd [.int .i64 k0, .string US, .string PS, .string QS, .string NS, .int .i64 nn, .int .i64 tt, .int .i64 rr, .int .i64 r1, .int .i64 r2, .int .i64 r3, .bool an, .slice Ai ni ci, .slice Aa na ca, .int .i64 lm, .int .i64 jb, .string HS] from hb)
  have ad := fhid (show Aft r w w.drew from Aft.of ((Below.refl _ _).drew))
  clear hr hb
  replace hQ := fhid hQ
  refine wp_region_noPanic ?_
  refine wp_region_held_drew (S := fun w' => Box w' b TCmd [.int .i64 k0, .string US, .string PS, .string QS, .string NS, .int .i64 nn, .int .i64 tt, .int .i64 rr, .int .i64 r1, .int .i64 r2, .int .i64 r3, .bool an, .slice Ai ni ci, .slice Aa na ca, .int .i64 lm, .int .i64 jb, .string HS]) (by kernel_rfl) qb.out (fun hHeld => ?_)
  generalize w.drew = wd at *
  refine wpAnyH_take (i := 0) (v := ?v0) rfl (by kernel_rfl) (by kernel_rfl) (by kernel_rfl) (fun _ _ _ h => h) (Or.inl ⟨by kernel_rfl, ?hy0⟩) (by assumption) ?_
  case hy0 => (intro w0 hSw; obtain ⟨⟨m0, m1, m2, m3, m4, m5, m6, m7, m8, m9, m10, m11, m12, m13, m14, m15, m16⟩, _, hbl0⟩ := Box.seventeen hSw; go_simp; try with_reducible rfl)
  try simp only [Act.put, List.setIfInBounds_toArray, List.set_cons_zero, List.set_cons_succ]
  refine wpAnyH_take (i := 1) (v := ?v1) rfl (by kernel_rfl) (by kernel_rfl) (by kernel_rfl) (fun _ _ _ h => h) (Or.inl ⟨by kernel_rfl, ?hy1⟩) (by assumption) ?_
  case hy1 => (intro w0 hSw; clear hSw; go_simp; try with_reducible rfl)
  try simp only [Act.put, List.setIfInBounds_toArray, List.set_cons_zero, List.set_cons_succ]
  refine wpAnyH_take (i := 2) (v := ?v2) rfl (by kernel_rfl) (by kernel_rfl) (by kernel_rfl) (fun _ _ _ h => h) (Or.inl ⟨by kernel_rfl, ?hy2⟩) (by assumption) ?_
  case hy2 => (intro w0 hSw; have mm : w0.cell? ⟨b, 1, none⟩ = some (.string US) := Box.cell hSw 1; clear hSw; go_simp; try with_reducible rfl)
  try simp only [Act.put, List.setIfInBounds_toArray, List.set_cons_zero, List.set_cons_succ]
  refine wpAnyH_take (i := 3) (v := .bool true) rfl (by kernel_rfl) (by kernel_rfl) (by kernel_rfl) (fun _ _ _ h => h) (Or.inl ⟨by kernel_rfl, ?hy3⟩) (by assumption) ?_
  case hy3 => (intro w0 hSw; clear hSw; go_simp; try with_reducible rfl)
  try simp only [Act.put, List.setIfInBounds_toArray, List.set_cons_zero, List.set_cons_succ]
  refine wpAnyH_take (i := 4) (v := ?v4) rfl (by kernel_rfl) (by kernel_rfl) (by kernel_rfl) (fun _ _ _ h => h) (Or.inl ⟨by kernel_rfl, ?hy4⟩) (by assumption) ?_
  case hy4 => (intro w0 hSw; clear hSw; go_simp; try with_reducible rfl)
  try simp only [Act.put, List.setIfInBounds_toArray, List.set_cons_zero, List.set_cons_succ]
  refine wpAnyH_take (i := 5) (v := ?v5) rfl (by kernel_rfl) (by kernel_rfl) (by kernel_rfl) (fun _ _ _ h => h) (Or.inl ⟨by kernel_rfl, ?hy5⟩) (by assumption) ?_
  case hy5 => (intro w0 hSw; clear hSw; go_simp; try with_reducible rfl)
  try simp only [Act.put, List.setIfInBounds_toArray, List.set_cons_zero, List.set_cons_succ]
  refine wpAnyH_take (i := 6) (v := ?v6) rfl (by kernel_rfl) (by kernel_rfl) (by kernel_rfl) (fun _ _ _ h => h) (Or.inl ⟨by kernel_rfl, ?hy6⟩) (by assumption) ?_
  case hy6 => (intro w0 hSw; have mm : w0.cell? ⟨b, 2, none⟩ = some (.string PS) := Box.cell hSw 2; clear hSw; go_simp; try with_reducible rfl)
  try simp only [Act.put, List.setIfInBounds_toArray, List.set_cons_zero, List.set_cons_succ]
  refine wpAnyH_take (i := 7) (v := .bool true) rfl (by kernel_rfl) (by kernel_rfl) (by kernel_rfl) (fun _ _ _ h => h) (Or.inl ⟨by kernel_rfl, ?hy7⟩) (by assumption) ?_
  case hy7 => (intro w0 hSw; clear hSw; go_simp; try with_reducible rfl)
  try simp only [Act.put, List.setIfInBounds_toArray, List.set_cons_zero, List.set_cons_succ]
  refine wpAnyH_take (i := 8) (v := ?v8) rfl (by kernel_rfl) (by kernel_rfl) (by kernel_rfl) (fun _ _ _ h => h) (Or.inl ⟨by kernel_rfl, ?hy8⟩) (by assumption) ?_
  case hy8 => (intro w0 hSw; clear hSw; go_simp; try with_reducible rfl)
  try simp only [Act.put, List.setIfInBounds_toArray, List.set_cons_zero, List.set_cons_succ]
  refine wpAnyH_take (i := 9) (v := ?v9) rfl (by kernel_rfl) (by kernel_rfl) (by kernel_rfl) (fun _ _ _ h => h) (Or.inl ⟨by kernel_rfl, ?hy9⟩) (by assumption) ?_
  case hy9 => (intro w0 hSw; clear hSw; go_simp; try with_reducible rfl)
  try simp only [Act.put, List.setIfInBounds_toArray, List.set_cons_zero, List.set_cons_succ]
  refine wpAnyH_take (i := 10) (v := ?v10) rfl (by kernel_rfl) (by kernel_rfl) (by kernel_rfl) (fun _ _ _ h => h) (Or.inl ⟨by kernel_rfl, ?hy10⟩) (by assumption) ?_
  case hy10 => (intro w0 hSw; clear hSw; go_simp; try with_reducible rfl)
  try simp only [Act.put, List.setIfInBounds_toArray, List.set_cons_zero, List.set_cons_succ]
  refine wpAnyH_take (i := 11) (v := ?v11) rfl (by kernel_rfl) (by kernel_rfl) (by kernel_rfl) (fun _ _ _ h => h) (Or.inl ⟨by kernel_rfl, ?hy11⟩) (by assumption) ?_
  case hy11 => (intro w0 hSw; have mm : w0.cell? ⟨b, 5, none⟩ = some (.int .i64 nn) := Box.cell hSw 5; clear hSw; go_simp; try with_reducible rfl)
  try simp only [Act.put, List.setIfInBounds_toArray, List.set_cons_zero, List.set_cons_succ]
  refine wpAnyH_take (i := 12) (v := .bool true) rfl (by kernel_rfl) (by kernel_rfl) (by kernel_rfl) (fun _ _ _ h => h) (Or.inl ⟨by kernel_rfl, ?hy12⟩) (by assumption) ?_
  case hy12 => (intro w0 hSw; clear hSw; go_simp; try with_reducible rfl)
  try simp only [Act.put, List.setIfInBounds_toArray, List.set_cons_zero, List.set_cons_succ]
  refine wpAnyH_take (i := 13) (v := ?v13) rfl (by kernel_rfl) (by kernel_rfl) (by kernel_rfl) (fun _ _ _ h => h) (Or.inl ⟨by kernel_rfl, ?hy13⟩) (by assumption) ?_
  case hy13 => (intro w0 hSw; clear hSw; go_simp; try with_reducible rfl)
  try simp only [Act.put, List.setIfInBounds_toArray, List.set_cons_zero, List.set_cons_succ]
  refine wpAnyH_take (i := 14) (v := ?v14) rfl (by kernel_rfl) (by kernel_rfl) (by kernel_rfl) (fun _ _ _ h => h) (Or.inl ⟨by kernel_rfl, ?hy14⟩) (by assumption) ?_
  case hy14 => (intro w0 hSw; clear hSw; go_simp; try with_reducible rfl)
  try simp only [Act.put, List.setIfInBounds_toArray, List.set_cons_zero, List.set_cons_succ]
  refine wpAnyH_take (i := 15) (v := ?v15) rfl (by kernel_rfl) (by kernel_rfl) (by kernel_rfl) (fun _ _ _ h => h) (Or.inl ⟨by kernel_rfl, ?hy15⟩) (by assumption) ?_
  case hy15 => (intro w0 hSw; clear hSw; go_simp; try with_reducible rfl)
  try simp only [Act.put, List.setIfInBounds_toArray, List.set_cons_zero, List.set_cons_succ]
  refine wpAnyH_take (i := 16) (v := ?v16) rfl (by kernel_rfl) (by kernel_rfl) (by kernel_rfl) (fun _ _ _ h => h) (Or.inl ⟨by kernel_rfl, ?hy16⟩) (by assumption) ?_
  case hy16 => (intro w0 hSw; have mm : w0.cell? ⟨b, 5, none⟩ = some (.int .i64 nn) := Box.cell hSw 5; clear hSw; go_simp; try with_reducible rfl)
  try simp only [Act.put, List.setIfInBounds_toArray, List.set_cons_zero, List.set_cons_succ]
  refine wpAnyH_take (i := 17) (v := .bool true) rfl (by kernel_rfl) (by kernel_rfl) (by kernel_rfl) (fun _ _ _ h => h) (Or.inl ⟨by kernel_rfl, ?hy17⟩) (by assumption) ?_
  case hy17 => (intro w0 hSw; clear hSw; go_simp; try with_reducible rfl)
  try simp only [Act.put, List.setIfInBounds_toArray, List.set_cons_zero, List.set_cons_succ]
  refine wpAnyH_take (i := 18) (v := ?v18) rfl (by kernel_rfl) (by kernel_rfl) (by kernel_rfl) (fun _ _ _ h => h) (Or.inl ⟨by kernel_rfl, ?hy18⟩) (by assumption) ?_
  case hy18 => (intro w0 hSw; clear hSw; go_simp; try with_reducible rfl)
  try simp only [Act.put, List.setIfInBounds_toArray, List.set_cons_zero, List.set_cons_succ]
  have hk17 := Box.seventeen qd.out
  have d0 := hk17.1.1
  have f0 := hk17.2.1.1
  have d1 := hk17.1.2.1
  have f1 := hk17.2.1.2.1
  have d2 := hk17.1.2.2.1
  have f2 := hk17.2.1.2.2.1
  have d3 := hk17.1.2.2.2.1
  have f3 := hk17.2.1.2.2.2.1
  have d4 := hk17.1.2.2.2.2.1
  have f4 := hk17.2.1.2.2.2.2.1
  have d5 := hk17.1.2.2.2.2.2.1
  have f5 := hk17.2.1.2.2.2.2.2.1
  have d6 := hk17.1.2.2.2.2.2.2.1
  have f6 := hk17.2.1.2.2.2.2.2.2.1
  have d7 := hk17.1.2.2.2.2.2.2.2.1
  have f7 := hk17.2.1.2.2.2.2.2.2.2.1
  have d8 := hk17.1.2.2.2.2.2.2.2.2.1
  have f8 := hk17.2.1.2.2.2.2.2.2.2.2.1
  have d9 := hk17.1.2.2.2.2.2.2.2.2.2.1
  have f9 := hk17.2.1.2.2.2.2.2.2.2.2.2.1
  have d10 := hk17.1.2.2.2.2.2.2.2.2.2.2.1
  have f10 := hk17.2.1.2.2.2.2.2.2.2.2.2.2.1
  have d11 := hk17.1.2.2.2.2.2.2.2.2.2.2.2.1
  have f11 := hk17.2.1.2.2.2.2.2.2.2.2.2.2.2.1
  have d12 := hk17.1.2.2.2.2.2.2.2.2.2.2.2.2.1
  have f12 := hk17.2.1.2.2.2.2.2.2.2.2.2.2.2.2.1
  have d13 := hk17.1.2.2.2.2.2.2.2.2.2.2.2.2.2.1
  have f13 := hk17.2.1.2.2.2.2.2.2.2.2.2.2.2.2.2.1
  have d14 := hk17.1.2.2.2.2.2.2.2.2.2.2.2.2.2.2.1
  have f14 := hk17.2.1.2.2.2.2.2.2.2.2.2.2.2.2.2.2.1
  have d15 := hk17.1.2.2.2.2.2.2.2.2.2.2.2.2.2.2.2.1
  have f15 := hk17.2.1.2.2.2.2.2.2.2.2.2.2.2.2.2.2.2.1
  have d16 := hk17.1.2.2.2.2.2.2.2.2.2.2.2.2.2.2.2.2
  have f16 := hk17.2.1.2.2.2.2.2.2.2.2.2.2.2.2.2.2.2.2
  have hrl := hk17.2.2
  clear hk17
  refine wpAnyH_ready (rs := [19]) (by kernel_rfl) (by simp) ?_
  refine AllReadyH.cons (o := so19) rfl (fun K hK => ?_) AllReadyH.nil
  replace hK := fhid hK
  go_simp
  refine hK.out _ _ (Box.other17 qb.out hrb _ _ _ _ _ _ _ _ _ _ _ _ _ _ _ _ _) (fun hHeld => ?_)
  clear hK K
  try simp only [Act.put, List.setIfInBounds_toArray, List.set_cons_zero, List.set_cons_succ]
  refine wpAnyH_take (i := 20) (v := ?v20) rfl (by kernel_rfl) (by kernel_rfl) (by kernel_rfl) (fun _ _ _ h => h) (Or.inl ⟨by kernel_rfl, ?hy20⟩) (by assumption) ?_
  case hy20 => (intro w0 hSw; clear hSw; go_simp; try with_reducible rfl)
  try simp only [Act.put, List.setIfInBounds_toArray, List.set_cons_zero, List.set_cons_succ]
  refine wpAnyH_done (by kernel_rfl) ?_ _
  refine NoPanic.normal ?_
  refine hQ.out _ _ _ _ _ _ _ _ _ _ _ _ _ _ _ _ _ _ _ _ ?_ (Box.over17 qd.out _ _ _ _ _ _ _ _ _ _ _ _ _ _ _ _ _)
  exact Aft.set (Aft.set (Aft.set (Aft.set (Aft.set (Aft.set (Aft.set (Aft.set (Aft.set (Aft.set (Aft.set (Aft.set (Aft.set (Aft.set (Aft.set (Aft.set (Aft.set ad.out 0 _) 1 _) 2 _) 3 _) 4 _) 5 _) 6 _) 7 _) 8 _) 9 _) 10 _) 11 _) 12 _) 13 _) 14 _) 15 _) 16 _
end Go.Proofs.YtjpihophigjbpaaGreatDoor
