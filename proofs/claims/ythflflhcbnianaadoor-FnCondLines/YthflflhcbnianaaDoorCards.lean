/-
  DERIVED. GIVEN WITH THE SEED: THE CARDS: each row of YthflflhcbnianaaDoorRows.lean that lists a variable, with what it lists TIED to the program's text (the seventh form; the later family's looks); each row that meets fmt, with fmt's text TOLD by the authors' own Lean function (tested against real Go, not proved from fmt's source: count such statements apart). THE CARD IS WHAT COUNTS. Prove the row's statement (the work); the ties are given (YthflflhcbnianaaDoorTie.lean); close each card by the builder's one call (the guide's Derived/Test/ToyasCard.lean, 'card_holds'). Laid BY PROGRAM, IN A SANDBOX (cutbox-door.mjs). By AI agents, Wed Nov 11 2026. No macro, syntax, notation, axiom, sorry.
-/
import Derived.Test.YthflflhcbnianaaDoorRows
import GoSem.ClaimSeven
namespace Go.Proofs.YthflflhcbnianaaDoor
namespace Rows

/-- THE TIED CARD OF 'laws.FnCondLines'. -/
def fnCondLinesCard : Claim7 := { stood := { row := fnCondLinesRow, standIns := [], harness := (true, "d3e6aef28c780b9ed3632b5e91679d2e343f931ab99917fffc2c7212236280e3"), looks := false }, kinds := [], alts := [], laidByText := true, laidKinds := [.data, .data, .data], laidTests := true, laidLooks := .later }
def FnCondLinesCardSaid : Prop := Claim7.holds Tryd.pinned (.plain (OpenSpec.ofChange fnCondLinesSpec)) fnCondLinesCard

/-- THE TIED CARD OF 'laws.FnCondLinesTold'. -/
def fnCondLinesToldCard : Claim7 := { stood := { row := fnCondLinesToldRow, standIns := [], harness := (true, "d3e6aef28c780b9ed3632b5e91679d2e343f931ab99917fffc2c7212236280e3"), looks := false }, kinds := [], alts := [], laidByText := true, laidKinds := [.data, .data, .data], laidTests := true, laidLooks := .later }
def FnCondLinesToldCardSaid : Prop := Claim7.holds Tryd.pinned (.plain (OpenSpec.ofChange fnCondLinesToldSpec)) fnCondLinesToldCard

/-- THE TIED CARD OF 'laws.FnExactRuleLines'. -/
def fnExactRuleLinesCard : Claim7 := { stood := { row := fnExactRuleLinesRow, standIns := [], harness := (true, "d3e6aef28c780b9ed3632b5e91679d2e343f931ab99917fffc2c7212236280e3"), looks := false }, kinds := [], alts := [], laidByText := true, laidKinds := [.data, .data, .data], laidTests := true, laidLooks := .later }
def FnExactRuleLinesCardSaid : Prop := Claim7.holds Tryd.pinned (.plain (OpenSpec.ofChange fnExactRuleLinesSpec)) fnExactRuleLinesCard

/-- THE SECOND FORM's CARD OF 'laws.FnCondLines'. -/
def fnCondLinesUptoCard : Claim7 := { stood := { row := fnCondLinesUptoRow, standIns := [], harness := (true, "d3e6aef28c780b9ed3632b5e91679d2e343f931ab99917fffc2c7212236280e3"), looks := false }, kinds := [], alts := [], laidByText := true, laidKinds := [.data, .data, .data], laidTests := true, laidLooks := .later }
def FnCondLinesUptoCardSaid : Prop := Claim7.holds Tryd.pinned (.plain (OpenSpec.upto fnCondLinesSpec)) fnCondLinesUptoCard

/-- THE SECOND FORM's CARD OF 'laws.FnCondLinesTold'. -/
def fnCondLinesToldUptoCard : Claim7 := { stood := { row := fnCondLinesToldUptoRow, standIns := [], harness := (true, "d3e6aef28c780b9ed3632b5e91679d2e343f931ab99917fffc2c7212236280e3"), looks := false }, kinds := [], alts := [], laidByText := true, laidKinds := [.data, .data, .data], laidTests := true, laidLooks := .later }
def FnCondLinesToldUptoCardSaid : Prop := Claim7.holds Tryd.pinned (.plain (OpenSpec.upto fnCondLinesToldSpec)) fnCondLinesToldUptoCard

/-- THE SECOND FORM's CARD OF 'laws.FnExactRuleLines'. -/
def fnExactRuleLinesUptoCard : Claim7 := { stood := { row := fnExactRuleLinesUptoRow, standIns := [], harness := (true, "d3e6aef28c780b9ed3632b5e91679d2e343f931ab99917fffc2c7212236280e3"), looks := false }, kinds := [], alts := [], laidByText := true, laidKinds := [.data, .data, .data], laidTests := true, laidLooks := .later }
def FnExactRuleLinesUptoCardSaid : Prop := Claim7.holds Tryd.pinned (.plain (OpenSpec.upto fnExactRuleLinesSpec)) fnExactRuleLinesUptoCard
end Rows
end Go.Proofs.YthflflhcbnianaaDoor
