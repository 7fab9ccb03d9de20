/- The document's own ReadFields: the fields of a text. -/
import Derived.Test.YtjjojlfhliecnabRefFields
namespace Go.Proofs.Ytjjojlfhliecnab
open Go.RowKit
set_option linter.unusedVariables false

/-- 'b[l:h]'. -/
theorem run_slice_part (w : World) (b off len cap l h : Nat) (x y : Int) (hx : x = (l : Int)) (hy : y = (h : Int)) (hl : l ≤ h) (hh : h ≤ cap) :
    (Instr.slice 22 (.slice (some ⟨b, off, none⟩) len cap) (some (.int .i64 x)) (some (.int .i64 y)) none).run Try.prog w = .ok (.slice (some ⟨b, if cap = l then off else off + l, none⟩) (h - l) (cap - l)) w := by
  have he : Try.prog.elem 22 = 5 := by simp [Program.elem, Try.underlying22]
  rw [Go.run_slice_lh w 22 _ len cap (by rw [he]; exact Try.underlying22) .i64 .i64 x y (by omega) (by omega) (by omega), he, size5]
  simp only [Result.andThen, sliced, Nat.mul_one]
  rw [show x.toNat = l by omega, show y.toNat = h by omega]
  by_cases h : cap = l
  · simp [h]
  · have ha : (⟨b, off, none⟩ : Addr).add l = ⟨b, off + l, none⟩ := by unfold Addr.add; split <;> simp_all
    simp [h, ha]

theorem not_reads_nil (fs : List (List UInt8)) : ¬ ReadsF [] fs := fun h => by
  have := short_pos 9 fs.length
  have h1 := congrArg List.length h.1
  simp [fieldsText] at h1
  rw [h1.1] at this
  simp at this

end Go.Proofs.Ytjjojlfhliecnab
