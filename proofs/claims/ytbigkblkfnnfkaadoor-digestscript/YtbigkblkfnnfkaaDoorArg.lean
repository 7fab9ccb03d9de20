/- What a slice of bytes that came in is known by. -/
import Derived.Test.YtbigkblkfnnfkaaDoorKept
import Derived.ProofKit
import Derived.OpenShut
namespace Go.Proofs.YtbigkblkfnnfkaaDoor
open Go.ChangeShapes Go.WideShapes Go.ChangeAt Go.RowKit
set_option linter.unusedVariables false

/-- WHAT THE WALK IS TOLD OF A SLICE OF INTEGERS THAT CAME IN: it is nil; or it leads to a row of 'cap' cells, the numbers 'zs' (the first 'len' are its elements, the rest its spare room), each fitting its kind. -/
def IsRow (k : IntKind) (w : World) (a : Option Addr) (len cap : Nat) (zs : List Int) : Prop :=
  (a = none ∧ len = 0 ∧ cap = 0 ∧ zs = []) ∨
  ∃ x, a = some x ∧ len ≤ cap ∧ cap ≤ maxLen ∧ zs.length = cap ∧ (∀ i, i < zs.length → w.cell? (x.add i) = some (.int k (zs.getD i 0))) ∧ ∀ n ∈ zs, (Lit.int k n).wf = true

theorem isRow_bytes {w : World} {a : Option Addr} {len cap : Nat} {zs : List Int} (h : IsRow .u8 w a len cap zs) : ∃ bs : List UInt8, bs.length = len ∧ bs.length ≤ cap ∧ Row w a bs := by
  rcases h with ⟨rfl, rfl, rfl, rfl⟩ | ⟨x, rfl, hl, _, hz, hc, hw⟩
  · exact ⟨[], rfl, Nat.le_refl _, .inl rfl⟩
  · have hlen : ((zs.take len).map fun z => ub z.toNat).length = len := by simp; omega
    refine ⟨_, hlen, by rw [hlen]; exact hl, ?_⟩
    by_cases h0 : zs.length = 0
    · left
      have : zs = [] := List.eq_nil_of_length_eq_zero h0
      subst this
      simp
    · obtain ⟨b, off, rfl, hcell⟩ := ints_at hc (by omega)
      right
      refine ⟨b, off, rfl, fun j hj => ?_⟩
      rw [hlen] at hj
      have hjz : j < zs.length := by omega
      rw [hcell j hjz]
      have hb := hw zs[j] (List.getElem_mem hjz)
      have hb2 : 0 ≤ zs[j] ∧ zs[j] ≤ 255 := by simpa [Lit.wf, IntKind.min, IntKind.max, IntKind.signed, IntKind.bits] using hb
      have e1 : zs.getD j 0 = zs[j] := by simp [List.getD, List.getElem?_eq_getElem hjz]
      have e2 : ((zs.take len).map fun z => ub z.toNat).getD j 0 = ub zs[j].toNat := by
        simp [List.getD, List.getElem?_map, List.getElem?_take_of_lt hj, List.getElem?_eq_getElem hjz]
      rw [e1, e2, ub_toNat _ (by omega)]
      congr 2
      omega

theorem isRow_nil {k : IntKind} {w : World} {a : Option Addr} {len cap : Nat} {zs : List Int} (h : IsRow k w a len cap zs) : a = none → cap = 0 := by
  rintro rfl
  rcases h with ⟨_, _, rfl, _⟩ | ⟨x, e, _⟩
  · rfl
  · cases e
end Go.Proofs.YtbigkblkfnnfkaaDoor
