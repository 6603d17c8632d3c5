/-
  NARROWER THAN 'FOR EVERY INPUT', by the rows' own cells (each row's printed sentence says how): TermNames: laid · TermChecks: loops, laid · TermReaches: loops, laid · TermRings: loops, laid.
  DERIVED. THE GIVEN ROWS OF THIS SEAT. 4 by the template 'for every input the law returns true; each argument reads behind the call as it read before'; 0 by the template 'total and deterministic' (their statements: YtkdcpnfbpplhdaaDoorTotals.lean).
  GIVEN WITH THE SEED: the statements are not yours to turn. If you find one false, say at which input.
  Laid BY PROGRAM, IN A SANDBOX (cutbox-rows.mjs): the forced cells as the released guide's own fill.sh prints them over the translation 406ec11ea2a212ee… (all of the seat's roots in one cut). By AI agents, Wed Nov 11 2026. No macro, syntax, notation, axiom, sorry.
-/
import Derived.Test.YtkdcpnfbpplhdaaDoorChecked
import GoSem.Claim
import GoSem.ClaimJoined
import GoSem.ClaimMapViews
import Derived.JoinedTies
import Derived.KernelRfl
namespace Go.Proofs.YtkdcpnfbpplhdaaDoor
/- THE CELL 'sum', in the pinned program and in every row, IS THE sha256 OF THE DUMP (.gsa) THAT YtkdcpnfbpplhdaaDoorProg.lean LOADS. Nothing in Lean hashes anything: it is a label: what it is worth is what the hold of that sum in a sandbox is worth. -/
noncomputable def Tryd.pinned : Pinned := { name := "ytkdcpnfbpplhdaadoor", sum := "406ec11ea2a212eeb9fb23d26188b10eed8a16c5b5269328aeefb38d048442da", checked := Tryd.checked }
namespace Rows
def none {H : Type} : Left H := { results := [], args := [] }

/- WHAT THE LISTED PACKAGE-LEVEL VARIABLES READ AS WHEN THE CALL BEGINS. Each datum BY PROGRAM (the guide's laid-datum.mjs) off the statement by which the dump's own 'gosem.cut.vars' lays the variable. In a bare row this is a premise. The card (YtkdcpnfbpplhdaaDoorCards.lean) ties it to the program's text. -/
def laid_afterword_term_keywords {H : Type} : DataW H := .agg [.lit (.string [97, 102, 116, 101, 114]), .lit (.string [97, 110, 100]), .lit (.string [97, 115]), .lit (.string [97, 116]), .lit (.string [98, 111, 116, 104]), .lit (.string [98, 121]), .lit (.string [99, 111, 117, 110, 116]), .lit (.string [101, 97, 99, 104]), .lit (.string [101, 108, 115, 101]), .lit (.string [103, 114, 101, 97, 116]), .lit (.string [103, 114, 111, 117, 112]), .lit (.string [105, 110]), .lit (.string [105, 115]), .lit (.string [107, 101, 121]), .lit (.string [108, 97, 99, 107]), .lit (.string [108, 101, 97, 115, 116]), .lit (.string [108, 101, 115, 115]), .lit (.string [108, 101, 116]), .lit (.string [111, 102]), .lit (.string [111, 110, 99, 101]), .lit (.string [111, 114]), .lit (.string [111, 116, 104, 101, 114]), .lit (.string [112, 97, 105, 114]), .lit (.string [112, 114, 101, 118]), .lit (.string [114, 101, 115, 116]), .lit (.string [115, 97, 109, 101]), .lit (.string [115, 104, 105, 102, 116]), .lit (.string [115, 108, 105, 100, 101]), .lit (.string [115, 111, 117, 114, 99, 101]), .lit (.string [115, 117, 109]), .lit (.string [116, 111, 116, 97, 108]), .lit (.string [118, 97, 108]), .lit (.string [119, 104, 101, 114, 101]), .lit (.string [119, 105, 116, 104, 105, 110])]

/-- 'afterwordlaw02.TermNames': WHATEVER THE INPUT: true; the input reads as it did. -/
def termNamesSpec : ChangeSpec := { name := "termNames", fn := fun _ => fun
  | [d1, d2] => { results := [.lit (.bool true)], args := [d1, d2] }
  | _ => none }
def termNamesRow : OpenClaim := { program := "ytkdcpnfbpplhdaadoor", sum := "406ec11ea2a212eeb9fb23d26188b10eed8a16c5b5269328aeefb38d048442da", func := "afterword/afterwordlaw02.TermNames", spec := "termNames", unfollowed := true, recurses := true, named := ["afterword/term.keywords"], apart := false, laid := [("afterword/term.keywords", laid_afterword_term_keywords)] }
def TermNamesSaid : Prop := termNamesRow.holds Tryd.pinned (OpenSpec.ofChange termNamesSpec)

/-- ITS FALSE NEIGHBOUR: 'it returns false'. Refute it at one input. -/
def termNamesWrong : ChangeSpec := { name := "termNames", fn := fun _ => fun
  | [d1, d2] => { results := [.lit (.bool false)], args := [d1, d2] }
  | _ => none }
def TermNamesWrongFalsely : Prop := termNamesRow.holds Tryd.pinned (OpenSpec.ofChange termNamesWrong)

/-- 'afterwordlaw02.TermChecks': WHATEVER THE INPUT: true; the input reads as it did. -/
def termChecksSpec : ChangeSpec := { name := "termChecks", fn := fun _ => fun
  | [d] => { results := [.lit (.bool true)], args := [d] }
  | _ => none }
def termChecksRow : OpenClaim := { program := "ytkdcpnfbpplhdaadoor", sum := "406ec11ea2a212eeb9fb23d26188b10eed8a16c5b5269328aeefb38d048442da", func := "afterword/afterwordlaw02.TermChecks", spec := "termChecks", unfollowed := true, recurses := true, named := ["afterword/term.keywords"], loops := true, apart := false, laid := [("afterword/term.keywords", laid_afterword_term_keywords)] }
def TermChecksSaid : Prop := termChecksRow.holds Tryd.pinned (OpenSpec.ofChange termChecksSpec)

/-- ITS FALSE NEIGHBOUR: 'it returns false'. Refute it at one input. -/
def termChecksWrong : ChangeSpec := { name := "termChecks", fn := fun _ => fun
  | [d] => { results := [.lit (.bool false)], args := [d] }
  | _ => none }
def TermChecksWrongFalsely : Prop := termChecksRow.holds Tryd.pinned (OpenSpec.ofChange termChecksWrong)

/-- 'afterwordlaw02.TermReaches': WHATEVER THE INPUT: true; the input reads as it did. -/
def termReachesSpec : ChangeSpec := { name := "termReaches", fn := fun _ => fun
  | [d1, d2] => { results := [.lit (.bool true)], args := [d1, d2] }
  | _ => none }
def termReachesRow : OpenClaim := { program := "ytkdcpnfbpplhdaadoor", sum := "406ec11ea2a212eeb9fb23d26188b10eed8a16c5b5269328aeefb38d048442da", func := "afterword/afterwordlaw02.TermReaches", spec := "termReaches", unfollowed := true, recurses := true, named := ["afterword/term.keywords"], loops := true, apart := false, laid := [("afterword/term.keywords", laid_afterword_term_keywords)] }
def TermReachesSaid : Prop := termReachesRow.holds Tryd.pinned (OpenSpec.ofChange termReachesSpec)

/-- ITS FALSE NEIGHBOUR: 'it returns false'. Refute it at one input. -/
def termReachesWrong : ChangeSpec := { name := "termReaches", fn := fun _ => fun
  | [d1, d2] => { results := [.lit (.bool false)], args := [d1, d2] }
  | _ => none }
def TermReachesWrongFalsely : Prop := termReachesRow.holds Tryd.pinned (OpenSpec.ofChange termReachesWrong)

/-- 'afterwordlaw02.TermRings': WHATEVER THE INPUT: true; the input reads as it did. -/
def termRingsSpec : ChangeSpec := { name := "termRings", fn := fun _ => fun
  | [d1, d2] => { results := [.lit (.bool true)], args := [d1, d2] }
  | _ => none }
def termRingsRow : OpenClaim := { program := "ytkdcpnfbpplhdaadoor", sum := "406ec11ea2a212eeb9fb23d26188b10eed8a16c5b5269328aeefb38d048442da", func := "afterword/afterwordlaw02.TermRings", spec := "termRings", unfollowed := true, recurses := true, named := ["afterword/term.keywords"], loops := true, apart := false, laid := [("afterword/term.keywords", laid_afterword_term_keywords)] }
def TermRingsSaid : Prop := termRingsRow.holds Tryd.pinned (OpenSpec.ofChange termRingsSpec)

/-- ITS FALSE NEIGHBOUR: 'it returns false'. Refute it at one input. -/
def termRingsWrong : ChangeSpec := { name := "termRings", fn := fun _ => fun
  | [d1, d2] => { results := [.lit (.bool false)], args := [d1, d2] }
  | _ => none }
def TermRingsWrongFalsely : Prop := termRingsRow.holds Tryd.pinned (OpenSpec.ofChange termRingsWrong)

/- THE SECOND FORM. 'bulk': how many values and letters a reading holds, each counted each time it is reached (what is shared counts as often as it is met; a slice's spare places count too). A statement '..UptoSaid' is the law's where the arguments, and the package variables that the reading takes, are together of bulk at most 1048576: NARROWER than '..Said'. Prove '..Said' where nothing that the law and all that it calls make is longer than what came in: it says more and counts as full. Else prove '..UptoSaid'. A law counts once. -/
mutual
def uptoBulk {H : Type} : DataW H → Nat
  | .lit (.string bytes) => bytes.length + 1
  | .lit _ => 1
  | .nil => 1
  | .ptr d => uptoBulk d + 1
  | .slice elems spare => uptoBulkAll elems + uptoBulkAll spare + 1
  | .agg parts => uptoBulkAll parts + 1
  | .iface _ d => uptoBulk d + 1
  | .map entries => uptoBulkEntries entries + 1
  | .held _ => 1
def uptoBulkAll {H : Type} : List (DataW H) → Nat
  | [] => 0
  | d :: r => uptoBulk d + uptoBulkAll r
def uptoBulkEntries {H : Type} : List (Lit × DataW H) → Nat
  | [] => 0
  | x :: r => uptoBulkEntry x + uptoBulkEntries r
def uptoBulkEntry {H : Type} : Lit × DataW H → Nat
  | (.string bytes, d) => bytes.length + uptoBulk d + 1
  | (_, d) => uptoBulk d + 1
 end
def uptoSmall : (H : Type) → List (DataW H) → Bool := fun _ ds => decide (uptoBulkAll ds ≤ 1048576)
def OpenSpec.upto (s : _root_.Go.ChangeSpec) : _root_.Go.OpenSpec := { _root_.Go.OpenSpec.ofChange s with cond := some uptoSmall }

/-- 'afterwordlaw02.TermNames', WHERE WHAT IT READS IS OF BULK AT MOST 1048576: true; the input reads as it did. -/
def termNamesUptoRow : OpenClaim := { program := "ytkdcpnfbpplhdaadoor", sum := "406ec11ea2a212eeb9fb23d26188b10eed8a16c5b5269328aeefb38d048442da", func := "afterword/afterwordlaw02.TermNames", spec := "termNames", unfollowed := true, recurses := true, named := ["afterword/term.keywords"], apart := false, laid := [("afterword/term.keywords", laid_afterword_term_keywords)], narrowed := true }
def TermNamesUptoSaid : Prop := termNamesUptoRow.holds Tryd.pinned (OpenSpec.upto termNamesSpec)

/-- 'afterwordlaw02.TermChecks', WHERE WHAT IT READS IS OF BULK AT MOST 1048576: true; the input reads as it did. -/
def termChecksUptoRow : OpenClaim := { program := "ytkdcpnfbpplhdaadoor", sum := "406ec11ea2a212eeb9fb23d26188b10eed8a16c5b5269328aeefb38d048442da", func := "afterword/afterwordlaw02.TermChecks", spec := "termChecks", unfollowed := true, recurses := true, named := ["afterword/term.keywords"], loops := true, apart := false, laid := [("afterword/term.keywords", laid_afterword_term_keywords)], narrowed := true }
def TermChecksUptoSaid : Prop := termChecksUptoRow.holds Tryd.pinned (OpenSpec.upto termChecksSpec)

/-- 'afterwordlaw02.TermReaches', WHERE WHAT IT READS IS OF BULK AT MOST 1048576: true; the input reads as it did. -/
def termReachesUptoRow : OpenClaim := { program := "ytkdcpnfbpplhdaadoor", sum := "406ec11ea2a212eeb9fb23d26188b10eed8a16c5b5269328aeefb38d048442da", func := "afterword/afterwordlaw02.TermReaches", spec := "termReaches", unfollowed := true, recurses := true, named := ["afterword/term.keywords"], loops := true, apart := false, laid := [("afterword/term.keywords", laid_afterword_term_keywords)], narrowed := true }
def TermReachesUptoSaid : Prop := termReachesUptoRow.holds Tryd.pinned (OpenSpec.upto termReachesSpec)

/-- 'afterwordlaw02.TermRings', WHERE WHAT IT READS IS OF BULK AT MOST 1048576: true; the input reads as it did. -/
def termRingsUptoRow : OpenClaim := { program := "ytkdcpnfbpplhdaadoor", sum := "406ec11ea2a212eeb9fb23d26188b10eed8a16c5b5269328aeefb38d048442da", func := "afterword/afterwordlaw02.TermRings", spec := "termRings", unfollowed := true, recurses := true, named := ["afterword/term.keywords"], loops := true, apart := false, laid := [("afterword/term.keywords", laid_afterword_term_keywords)], narrowed := true }
def TermRingsUptoSaid : Prop := termRingsUptoRow.holds Tryd.pinned (OpenSpec.upto termRingsSpec)

end Rows
end Go.Proofs.YtkdcpnfbpplhdaaDoor
