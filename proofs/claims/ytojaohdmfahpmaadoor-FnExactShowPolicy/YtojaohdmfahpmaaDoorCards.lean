/-
  DERIVED. GIVEN WITH THE SEED: THE CARDS: each row of YtojaohdmfahpmaaDoorRows.lean that lists a variable, with what it lists TIED to the program's text (the seventh form; the later family's looks); each row that meets fmt, with fmt's text TOLD by the authors' own Lean function (tested against real Go, not proved from fmt's source: count such statements apart). THE CARD IS WHAT COUNTS. Prove the row's statement (the work); the ties are given (YtojaohdmfahpmaaDoorTie.lean); close each card by the builder's one call (the guide's Derived/Test/ToyasCard.lean, 'card_holds'). Laid BY PROGRAM, IN A SANDBOX (cutbox-door.mjs). By AI agents, Wed Nov 11 2026. No macro, syntax, notation, axiom, sorry.
-/
import Derived.Test.YtojaohdmfahpmaaDoorRows
import GoSem.ClaimSeven
namespace Go.Proofs.YtojaohdmfahpmaaDoor
namespace Rows

/-- THE TIED CARD OF 'laws.FnExactShowPolicy'. -/
def fnExactShowPolicyCard : Claim7 := { stood := { row := fnExactShowPolicyRow, standIns := [], harness := (true, "17ade262cd4e773b63d88a84b741d3115b455fd6d51a5247bdf8099e211b70ec"), looks := false }, kinds := [], alts := [], laidByText := true, laidKinds := [.data, .data, .data, .data], laidTests := true, laidLooks := .later }
def FnExactShowPolicyCardSaid : Prop := Claim7.holds Tryd.pinned (.plain (OpenSpec.ofChange fnExactShowPolicySpec)) fnExactShowPolicyCard

/-- THE SECOND FORM's CARD OF 'laws.FnExactShowPolicy'. -/
def fnExactShowPolicyUptoCard : Claim7 := { stood := { row := fnExactShowPolicyUptoRow, standIns := [], harness := (true, "17ade262cd4e773b63d88a84b741d3115b455fd6d51a5247bdf8099e211b70ec"), looks := false }, kinds := [], alts := [], laidByText := true, laidKinds := [.data, .data, .data, .data], laidTests := true, laidLooks := .later }
def FnExactShowPolicyUptoCardSaid : Prop := Claim7.holds Tryd.pinned (.plain (OpenSpec.upto fnExactShowPolicySpec)) fnExactShowPolicyUptoCard
end Rows
end Go.Proofs.YtojaohdmfahpmaaDoor
