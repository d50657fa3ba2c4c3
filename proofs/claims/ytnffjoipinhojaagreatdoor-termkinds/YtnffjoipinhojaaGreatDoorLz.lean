import Derived.Lib.LaidCaseMet
import Derived.Lib.LaidU8T
namespace Go.Proofs.YtnffjoipinhojaaGreatDoor

theorem laidVars_split {P : Program} {w : World} : ∀ {l l' : List (String × DataW Unit)} {ps : List MemPlace}, DataW.LaidVars P w (l ++ l') ps → ∃ a b, DataW.LaidVars P w l a ∧ DataW.LaidVars P w l' b ∧ ps = a ++ b
  | [], _, ps, h => ⟨[], ps, rfl, h, rfl⟩
  | (n, d) :: r, l', ps, h => by
    obtain ⟨g, t, cs, fuel, p, q, h1, h2, h3, h4, h5, rfl⟩ := h
    obtain ⟨a, b, ha, hb, rfl⟩ := laidVars_split h5
    exact ⟨MemPlace.row ⟨g, 0, none⟩ cs.size ++ p ++ a, b, ⟨g, t, cs, fuel, p, a, h1, h2, h3, h4, ha, rfl⟩, hb, by simp [List.append_assoc]⟩

/-- what is laid is laid in whatever order it is listed -/
theorem laidMet_rot {P : Program} {w : World} {l l' : List (String × DataW Unit)} (h : laidMet P (l ++ l') w) : laidMet P (l' ++ l) w := by
  obtain ⟨ps, hv, hn, hc⟩ := h
  obtain ⟨a, b, ha, hb, rfl⟩ := laidVars_split hv
  refine ⟨b ++ a, LaidVars_append hb ha, ?_, fun x off hx => hc x off (List.mem_append.2 (Or.symm (List.mem_append.1 hx)))⟩
  exact (List.perm_append_comm.nodup_iff).1 hn
end Go.Proofs.YtnffjoipinhojaaGreatDoor
