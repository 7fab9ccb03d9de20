/- What the landed frame tells is what the laws want. -/
import Derived.Test.YtbehmclligkbhaaFsE
import Derived.Test.YtbehmclligkbhaaFsF
namespace Go.Proofs.Ytbehmclligkbhaa
open Go.RowKit
set_option linter.unusedVariables false

/-- There is one record and nothing behind it just where the first frame is all. -/
theorem one_iff (bs : List UInt8) : (how bs = 3 ∧ num4 bs 0 + 12 = bs.length) ↔ ((scanL bs).1.length = 1 ∧ (scanL bs).2.2 = 0) := by
  constructor
  · rintro ⟨h, e⟩
    rw [scan_go h, show bs.drop (num4 bs 0 + 12) = [] from List.drop_eq_nil_iff.2 (by omega), scan_nil]
    exact ⟨rfl, rfl⟩
  · rintro ⟨h1, h2⟩
    by_cases h : how bs = 3
    · obtain ⟨q1, q2, q3, q4, q5⟩ := how_go h
      rw [scan_go h] at h1 h2
      simp only [List.length_cons] at h1 h2
      have hlen : (bs.drop (num4 bs 0 + 12)).length = bs.length - (num4 bs 0 + 12) := List.length_drop
      generalize bs.drop (num4 bs 0 + 12) = rest at h1 h2 hlen
      by_cases hr : how rest = 3
      · rw [scan_go hr] at h1
        simp at h1
      · rw [scan_stop hr] at h2
        simp only at h2
        have : rest.length = 0 := by
          unfold how at h2
          split at h2
          · assumption
          split at h2
          · omega
          split at h2
          · omega
          split at h2
          · omega
          split at h2
          · omega
          · omega
        exact ⟨h, by omega⟩
    · rw [scan_stop h] at h1
      simp at h1
theorem face : Face where
  check := fun hr hn hl hc => (check_any _ _ _ _ _ hr hn hl hc).mono fun r w' h => ⟨h.1, by rw [h.2]; exact Below.refl _ _⟩
  size := (size_any _ _).mono fun r w' h => ⟨h.1, by rw [h.2]; exact Below.refl _ _⟩
  frame := fun hr hn hc hz hl => frame_any _ _ _ _ _ hr hn hc hz hl
  long := fun h hc => frame_long _ _ _ _ h hc
  scan := fun hr hn hc _ hl => scan_any _ _ _ _ _ hr hn hc hl
  oneYes := fun {a n c bs r w} hr hn hc _ hl h1 h2 => by
    have hi := (one_iff bs).2 ⟨by rw [h1]; rfl, h2⟩
    refine (one_any a n c bs w hr hn hc hl).mono ?_
    rintro e w' ⟨hy, _, hb⟩
    obtain ⟨v, rfl, ho⟩ := hy hi.1 (by rw [hn]; exact hi.2)
    have hrec : (bs.drop 8).take (num4 bs 0) = r := by
      rw [scan_go hi.1] at h1
      exact (List.cons.inj h1).1
    rw [hrec] at ho
    obtain ⟨a2, c2, rfl, hr2, hc2, _⟩ := ho.rowB
    exact ⟨a2, c2, rfl, hr2, hc2, hb⟩
  oneNo := fun {a n c bs w} hr hn hc _ hl h => by
    refine (one_any a n c bs w hr hn hc hl).mono ?_
    rintro e w' ⟨_, hno, hb⟩
    refine ⟨hno ?_, hb⟩
    intro q
    have := (one_iff bs).1 ⟨q.1, by rw [← hn]; exact q.2⟩
    omega
end Go.Proofs.Ytbehmclligkbhaa
