/-
  DERIVED. GIVEN WITH THE SEED: THE CARDS: each row of YtlapmjligdjniaaGreatDoorRows.lean that lists a variable, with what it lists TIED to the program's text (the seventh form; the later family's looks); each row that meets fmt, with fmt's text TOLD by the authors' own Lean function (tested against real Go, not proved from fmt's source: count such statements apart). THE CARD IS WHAT COUNTS. Prove the row's statement (the work); the ties are given (YtlapmjligdjniaaGreatDoorTie.lean); close each card by the builder's one call (the guide's Derived/Test/ToyasCard.lean, 'card_holds'). Laid BY PROGRAM, IN A SANDBOX (cutbox-door.mjs). By AI agents, Wed Nov 11 2026. No macro, syntax, notation, axiom, sorry.
-/
import Derived.Test.YtlapmjligdjniaaGreatDoorRows
import GoSem.ClaimSeven
namespace Go.Proofs.YtlapmjligdjniaaGreatDoor
namespace Rows

/-- THE TIED CARD OF 'laws.FnExactShortestStepWord'. -/
def fnExactShortestStepWordCard : Claim7 := { stood := { row := fnExactShortestStepWordRow, standIns := [], harness := (true, "d35f71ecfafdce06312dc2e8028ad6b1b23a66c254c3edaf8ae46e43f9ae91c8"), looks := true }, kinds := [], alts := [], laidByText := true, laidKinds := [.data, .pinned], laidTests := true, laidLooks := .later }
def FnExactShortestStepWordCardSaid : Prop := Claim7.holds Tryz.pinned (.plain (OpenSpec.ofChange fnExactShortestStepWordSpec)) fnExactShortestStepWordCard

/-- THE TIED CARD OF 'laws.FnExactMeetingWord'. -/
def fnExactMeetingWordCard : Claim7 := { stood := { row := fnExactMeetingWordRow, standIns := [], harness := (true, "d35f71ecfafdce06312dc2e8028ad6b1b23a66c254c3edaf8ae46e43f9ae91c8"), looks := true }, kinds := [], alts := [], laidByText := true, laidKinds := [.data, .pinned], laidTests := true, laidLooks := .later }
def FnExactMeetingWordCardSaid : Prop := Claim7.holds Tryz.pinned (.plain (OpenSpec.ofChange fnExactMeetingWordSpec)) fnExactMeetingWordCard

/-- THE TIED CARD OF 'laws.FnExactCanBeInStep'. -/
def fnExactCanBeInStepCard : Claim7 := { stood := { row := fnExactCanBeInStepRow, standIns := [], harness := (true, "d35f71ecfafdce06312dc2e8028ad6b1b23a66c254c3edaf8ae46e43f9ae91c8"), looks := true }, kinds := [], alts := [], laidByText := true, laidKinds := [.data, .pinned], laidTests := true, laidLooks := .later }
def FnExactCanBeInStepCardSaid : Prop := Claim7.holds Tryz.pinned (.plain (OpenSpec.ofChange fnExactCanBeInStepSpec)) fnExactCanBeInStepCard

/-- THE SECOND FORM's CARD OF 'laws.FnExactShortestStepWord'. -/
def fnExactShortestStepWordUptoCard : Claim7 := { stood := { row := fnExactShortestStepWordUptoRow, standIns := [], harness := (true, "d35f71ecfafdce06312dc2e8028ad6b1b23a66c254c3edaf8ae46e43f9ae91c8"), looks := true }, kinds := [], alts := [], laidByText := true, laidKinds := [.data, .pinned], laidTests := true, laidLooks := .later }
def FnExactShortestStepWordUptoCardSaid : Prop := Claim7.holds Tryz.pinned (.plain (OpenSpec.upto fnExactShortestStepWordSpec)) fnExactShortestStepWordUptoCard

/-- THE SECOND FORM's CARD OF 'laws.FnExactMeetingWord'. -/
def fnExactMeetingWordUptoCard : Claim7 := { stood := { row := fnExactMeetingWordUptoRow, standIns := [], harness := (true, "d35f71ecfafdce06312dc2e8028ad6b1b23a66c254c3edaf8ae46e43f9ae91c8"), looks := true }, kinds := [], alts := [], laidByText := true, laidKinds := [.data, .pinned], laidTests := true, laidLooks := .later }
def FnExactMeetingWordUptoCardSaid : Prop := Claim7.holds Tryz.pinned (.plain (OpenSpec.upto fnExactMeetingWordSpec)) fnExactMeetingWordUptoCard

/-- THE SECOND FORM's CARD OF 'laws.FnExactCanBeInStep'. -/
def fnExactCanBeInStepUptoCard : Claim7 := { stood := { row := fnExactCanBeInStepUptoRow, standIns := [], harness := (true, "d35f71ecfafdce06312dc2e8028ad6b1b23a66c254c3edaf8ae46e43f9ae91c8"), looks := true }, kinds := [], alts := [], laidByText := true, laidKinds := [.data, .pinned], laidTests := true, laidLooks := .later }
def FnExactCanBeInStepUptoCardSaid : Prop := Claim7.holds Tryz.pinned (.plain (OpenSpec.upto fnExactCanBeInStepSpec)) fnExactCanBeInStepUptoCard
end Rows
end Go.Proofs.YtlapmjligdjniaaGreatDoor
