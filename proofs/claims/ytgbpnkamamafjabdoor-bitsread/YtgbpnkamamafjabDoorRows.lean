/-
  NARROWER THAN 'FOR EVERY INPUT', by the rows' own cells (each row's printed sentence says how): BitsWrite: laid · BitsRead: laid · BitsBack: laid · BitsForms: laid · BitsFull: laid.
  DERIVED. THE GIVEN ROWS OF THIS SEAT. 5 by the template 'for every input the law returns true; each argument reads behind the call as it read before'; 0 by the template 'total and deterministic' (their statements: YtgbpnkamamafjabDoorTotals.lean).
  GIVEN WITH THE SEED: the statements are not yours to turn. If you find one false, say at which input.
  Laid BY PROGRAM, IN A SANDBOX (cutbox-rows.mjs): the forced cells as the released guide's own fill.sh prints them over the translation 9d8d24b84aad737b… (all of the seat's roots in one cut). By AI agents, Wed Nov 11 2026. No macro, syntax, notation, axiom, sorry.
-/
import Derived.Test.YtgbpnkamamafjabDoorChecked
import GoSem.Claim
import GoSem.ClaimJoined
import GoSem.ClaimMapViews
import Derived.JoinedTies
import Derived.KernelRfl
namespace Go.Proofs.YtgbpnkamamafjabDoor
/- THE CELL 'sum', in the pinned program and in every row, IS THE sha256 OF THE DUMP (.gsa) THAT YtgbpnkamamafjabDoorProg.lean LOADS. Nothing in Lean hashes anything: it is a label: what it is worth is what the hold of that sum in a sandbox is worth. -/
noncomputable def Tryd.pinned : Pinned := { name := "ytgbpnkamamafjabdoor", sum := "9d8d24b84aad737b92dd72a4a24abe3d05f463ca9a4b228b531eaf07d17177f3", checked := Tryd.checked }
namespace Rows
def none {H : Type} : Left H := { results := [], args := [] }

/- WHAT THE LISTED PACKAGE-LEVEL VARIABLES READ AS WHEN THE CALL BEGINS. Each datum BY PROGRAM (the guide's laid-datum.mjs) off the statement by which the dump's own 'gosem.cut.vars' lays the variable. In a bare row this is a premise. The card (YtgbpnkamamafjabDoorCards.lean) ties it to the program's text. -/
def laid_tocsin_bits_widths {H : Type} : DataW H := .agg [.lit (.int .i64 0), .lit (.int .i64 3), .lit (.int .i64 6), .lit (.int .i64 9), .lit (.int .i64 12), .lit (.int .i64 18), .lit (.int .i64 25), .lit (.int .i64 56), .lit (.int .i64 64)]

/-- 'tocsinlaw02.BitsWrite': WHATEVER THE INPUT: true; the input reads as it did. -/
def bitsWriteSpec : ChangeSpec := { name := "bitsWrite", fn := fun _ => fun
  | [d] => { results := [.lit (.bool true)], args := [d] }
  | _ => none }
def bitsWriteRow : OpenClaim := { program := "ytgbpnkamamafjabdoor", sum := "9d8d24b84aad737b92dd72a4a24abe3d05f463ca9a4b228b531eaf07d17177f3", func := "tocsin/tocsinlaw02.BitsWrite", spec := "bitsWrite", named := ["tocsin/bits.widths"], apart := false, laid := [("tocsin/bits.widths", laid_tocsin_bits_widths)] }
def BitsWriteSaid : Prop := bitsWriteRow.holds Tryd.pinned (OpenSpec.ofChange bitsWriteSpec)

/-- ITS FALSE NEIGHBOUR: 'it returns false'. Refute it at one input. -/
def bitsWriteWrong : ChangeSpec := { name := "bitsWrite", fn := fun _ => fun
  | [d] => { results := [.lit (.bool false)], args := [d] }
  | _ => none }
def BitsWriteWrongFalsely : Prop := bitsWriteRow.holds Tryd.pinned (OpenSpec.ofChange bitsWriteWrong)

/-- 'tocsinlaw02.BitsRead': WHATEVER THE INPUT: true; the input reads as it did. -/
def bitsReadSpec : ChangeSpec := { name := "bitsRead", fn := fun _ => fun
  | [d1, d2, d3] => { results := [.lit (.bool true)], args := [d1, d2, d3] }
  | _ => none }
def bitsReadRow : OpenClaim := { program := "ytgbpnkamamafjabdoor", sum := "9d8d24b84aad737b92dd72a4a24abe3d05f463ca9a4b228b531eaf07d17177f3", func := "tocsin/tocsinlaw02.BitsRead", spec := "bitsRead", named := ["tocsin/bits.widths"], apart := false, laid := [("tocsin/bits.widths", laid_tocsin_bits_widths)] }
def BitsReadSaid : Prop := bitsReadRow.holds Tryd.pinned (OpenSpec.ofChange bitsReadSpec)

/-- ITS FALSE NEIGHBOUR: 'it returns false'. Refute it at one input. -/
def bitsReadWrong : ChangeSpec := { name := "bitsRead", fn := fun _ => fun
  | [d1, d2, d3] => { results := [.lit (.bool false)], args := [d1, d2, d3] }
  | _ => none }
def BitsReadWrongFalsely : Prop := bitsReadRow.holds Tryd.pinned (OpenSpec.ofChange bitsReadWrong)

/-- 'tocsinlaw02.BitsBack': WHATEVER THE INPUT: true; the input reads as it did. -/
def bitsBackSpec : ChangeSpec := { name := "bitsBack", fn := fun _ => fun
  | [d] => { results := [.lit (.bool true)], args := [d] }
  | _ => none }
def bitsBackRow : OpenClaim := { program := "ytgbpnkamamafjabdoor", sum := "9d8d24b84aad737b92dd72a4a24abe3d05f463ca9a4b228b531eaf07d17177f3", func := "tocsin/tocsinlaw02.BitsBack", spec := "bitsBack", named := ["tocsin/bits.widths"], apart := false, laid := [("tocsin/bits.widths", laid_tocsin_bits_widths)] }
def BitsBackSaid : Prop := bitsBackRow.holds Tryd.pinned (OpenSpec.ofChange bitsBackSpec)

/-- ITS FALSE NEIGHBOUR: 'it returns false'. Refute it at one input. -/
def bitsBackWrong : ChangeSpec := { name := "bitsBack", fn := fun _ => fun
  | [d] => { results := [.lit (.bool false)], args := [d] }
  | _ => none }
def BitsBackWrongFalsely : Prop := bitsBackRow.holds Tryd.pinned (OpenSpec.ofChange bitsBackWrong)

/-- 'tocsinlaw02.BitsForms': WHATEVER THE INPUT: true; the input reads as it did. -/
def bitsFormsSpec : ChangeSpec := { name := "bitsForms", fn := fun _ => fun
  | [d1, d2, d3] => { results := [.lit (.bool true)], args := [d1, d2, d3] }
  | _ => none }
def bitsFormsRow : OpenClaim := { program := "ytgbpnkamamafjabdoor", sum := "9d8d24b84aad737b92dd72a4a24abe3d05f463ca9a4b228b531eaf07d17177f3", func := "tocsin/tocsinlaw02.BitsForms", spec := "bitsForms", named := ["tocsin/bits.widths"], apart := false, laid := [("tocsin/bits.widths", laid_tocsin_bits_widths)] }
def BitsFormsSaid : Prop := bitsFormsRow.holds Tryd.pinned (OpenSpec.ofChange bitsFormsSpec)

/-- ITS FALSE NEIGHBOUR: 'it returns false'. Refute it at one input. -/
def bitsFormsWrong : ChangeSpec := { name := "bitsForms", fn := fun _ => fun
  | [d1, d2, d3] => { results := [.lit (.bool false)], args := [d1, d2, d3] }
  | _ => none }
def BitsFormsWrongFalsely : Prop := bitsFormsRow.holds Tryd.pinned (OpenSpec.ofChange bitsFormsWrong)

/-- 'tocsinlaw02.BitsFull': WHATEVER THE INPUT: true; the input reads as it did. -/
def bitsFullSpec : ChangeSpec := { name := "bitsFull", fn := fun _ => fun
  | [d1, d2, d3, d4] => { results := [.lit (.bool true)], args := [d1, d2, d3, d4] }
  | _ => none }
def bitsFullRow : OpenClaim := { program := "ytgbpnkamamafjabdoor", sum := "9d8d24b84aad737b92dd72a4a24abe3d05f463ca9a4b228b531eaf07d17177f3", func := "tocsin/tocsinlaw02.BitsFull", spec := "bitsFull", named := ["tocsin/bits.widths"], apart := false, laid := [("tocsin/bits.widths", laid_tocsin_bits_widths)] }
def BitsFullSaid : Prop := bitsFullRow.holds Tryd.pinned (OpenSpec.ofChange bitsFullSpec)

/-- ITS FALSE NEIGHBOUR: 'it returns false'. Refute it at one input. -/
def bitsFullWrong : ChangeSpec := { name := "bitsFull", fn := fun _ => fun
  | [d1, d2, d3, d4] => { results := [.lit (.bool false)], args := [d1, d2, d3, d4] }
  | _ => none }
def BitsFullWrongFalsely : Prop := bitsFullRow.holds Tryd.pinned (OpenSpec.ofChange bitsFullWrong)

/- THE SECOND FORM. 'bulk': how many values and letters a reading holds, each counted each time it is reached (what is shared counts as often as it is met; a slice's spare places count too). A statement '..UptoSaid' is the law's where the arguments, and the package variables that the reading takes, are together of bulk at most 1048576: NARROWER than '..Said'. Prove '..Said' where nothing that the law and all that it calls make is longer than what came in: it says more and counts as full. Else prove '..UptoSaid'. A law counts once. -/
mutual
def uptoBulk {H : Type} : DataW H → Nat
  | .lit (.string bytes) => bytes.length + 1
  | .lit _ => 1
  | .nil => 1
  | .ptr d => uptoBulk d + 1
  | .slice elems spare => uptoBulkAll elems + uptoBulkAll spare + 1
  | .agg parts => uptoBulkAll parts + 1
  | .iface _ d => uptoBulk d + 1
  | .map entries => uptoBulkEntries entries + 1
  | .held _ => 1
def uptoBulkAll {H : Type} : List (DataW H) → Nat
  | [] => 0
  | d :: r => uptoBulk d + uptoBulkAll r
def uptoBulkEntries {H : Type} : List (Lit × DataW H) → Nat
  | [] => 0
  | x :: r => uptoBulkEntry x + uptoBulkEntries r
def uptoBulkEntry {H : Type} : Lit × DataW H → Nat
  | (.string bytes, d) => bytes.length + uptoBulk d + 1
  | (_, d) => uptoBulk d + 1
 end
def uptoSmall : (H : Type) → List (DataW H) → Bool := fun _ ds => decide (uptoBulkAll ds ≤ 1048576)
def OpenSpec.upto (s : _root_.Go.ChangeSpec) : _root_.Go.OpenSpec := { _root_.Go.OpenSpec.ofChange s with cond := some uptoSmall }

/-- 'tocsinlaw02.BitsWrite', WHERE WHAT IT READS IS OF BULK AT MOST 1048576: true; the input reads as it did. -/
def bitsWriteUptoRow : OpenClaim := { program := "ytgbpnkamamafjabdoor", sum := "9d8d24b84aad737b92dd72a4a24abe3d05f463ca9a4b228b531eaf07d17177f3", func := "tocsin/tocsinlaw02.BitsWrite", spec := "bitsWrite", named := ["tocsin/bits.widths"], apart := false, laid := [("tocsin/bits.widths", laid_tocsin_bits_widths)], narrowed := true }
def BitsWriteUptoSaid : Prop := bitsWriteUptoRow.holds Tryd.pinned (OpenSpec.upto bitsWriteSpec)

/-- 'tocsinlaw02.BitsRead', WHERE WHAT IT READS IS OF BULK AT MOST 1048576: true; the input reads as it did. -/
def bitsReadUptoRow : OpenClaim := { program := "ytgbpnkamamafjabdoor", sum := "9d8d24b84aad737b92dd72a4a24abe3d05f463ca9a4b228b531eaf07d17177f3", func := "tocsin/tocsinlaw02.BitsRead", spec := "bitsRead", named := ["tocsin/bits.widths"], apart := false, laid := [("tocsin/bits.widths", laid_tocsin_bits_widths)], narrowed := true }
def BitsReadUptoSaid : Prop := bitsReadUptoRow.holds Tryd.pinned (OpenSpec.upto bitsReadSpec)

/-- 'tocsinlaw02.BitsBack', WHERE WHAT IT READS IS OF BULK AT MOST 1048576: true; the input reads as it did. -/
def bitsBackUptoRow : OpenClaim := { program := "ytgbpnkamamafjabdoor", sum := "9d8d24b84aad737b92dd72a4a24abe3d05f463ca9a4b228b531eaf07d17177f3", func := "tocsin/tocsinlaw02.BitsBack", spec := "bitsBack", named := ["tocsin/bits.widths"], apart := false, laid := [("tocsin/bits.widths", laid_tocsin_bits_widths)], narrowed := true }
def BitsBackUptoSaid : Prop := bitsBackUptoRow.holds Tryd.pinned (OpenSpec.upto bitsBackSpec)

/-- 'tocsinlaw02.BitsForms', WHERE WHAT IT READS IS OF BULK AT MOST 1048576: true; the input reads as it did. -/
def bitsFormsUptoRow : OpenClaim := { program := "ytgbpnkamamafjabdoor", sum := "9d8d24b84aad737b92dd72a4a24abe3d05f463ca9a4b228b531eaf07d17177f3", func := "tocsin/tocsinlaw02.BitsForms", spec := "bitsForms", named := ["tocsin/bits.widths"], apart := false, laid := [("tocsin/bits.widths", laid_tocsin_bits_widths)], narrowed := true }
def BitsFormsUptoSaid : Prop := bitsFormsUptoRow.holds Tryd.pinned (OpenSpec.upto bitsFormsSpec)

/-- 'tocsinlaw02.BitsFull', WHERE WHAT IT READS IS OF BULK AT MOST 1048576: true; the input reads as it did. -/
def bitsFullUptoRow : OpenClaim := { program := "ytgbpnkamamafjabdoor", sum := "9d8d24b84aad737b92dd72a4a24abe3d05f463ca9a4b228b531eaf07d17177f3", func := "tocsin/tocsinlaw02.BitsFull", spec := "bitsFull", named := ["tocsin/bits.widths"], apart := false, laid := [("tocsin/bits.widths", laid_tocsin_bits_widths)], narrowed := true }
def BitsFullUptoSaid : Prop := bitsFullUptoRow.holds Tryd.pinned (OpenSpec.upto bitsFullSpec)

end Rows
end Go.Proofs.YtgbpnkamamafjabDoor
