/- What DigestTexts' walk leans on. -/
import Derived.Test.YtbigkblkfnnfkaaDoorKeptLists
namespace Go.Proofs.YtbigkblkfnnfkaaDoor
open Go.RowKit
set_option linter.unusedVariables false

/-- Lists that were lent are read as the lists. -/
theorem LRow.rowL {w : World} {a : Option Addr} {L : List (Nat × List UInt8)} {ps : List (List UInt8)} (h : LRow w a L) (hin : LentIn w L) (hps : L.map (fun x => x.2) = ps) : RowL w a ps := by
  subst hps
  rcases h with h | ⟨g, e, h⟩
  · subst h; exact .inl rfl
  · refine .inr ⟨g, 0, e, fun j hj => ?_⟩
    rw [List.length_map] at hj
    have hc := h j hj
    have hx : (L.map (fun x => x.2)).getD j [] = (L.getD j (0, [])).2 := by simp [List.getD, List.getElem?_eq_getElem hj]
    have hm : L.getD j (0, []) ∈ L := by rw [List.getD_eq_getElem?_getD, List.getElem?_eq_getElem hj]; exact List.getElem_mem hj
    have hb := hin _ hm
    obtain ⟨⟨xg, xl⟩, hxe⟩ : ∃ x, x = L.getD j (0, []) := ⟨_, rfl⟩
    rw [hx, ← hxe]
    rw [← hxe] at hc hb
    refine ⟨some ⟨xg, 0, none⟩, xl.length + 3, by rw [Nat.zero_add]; exact hc, ?_, by simp, by simp⟩
    have hb' : Blk w xg ((lent xl).map B8) := hb
    have hr := hb'.row xl.length (by rw [lent_length]; omega)
    have ht : (lent xl).take xl.length = xl := by simp [lent]
    rw [ht] at hr
    exact hr

/-- How many bytes the lists have. -/
def sumLen : List (List UInt8) → Nat
  | [] => 0
  | p :: ps => p.length + sumLen ps
theorem sumLen_append (a b : List (List UInt8)) : sumLen (a ++ b) = sumLen a + sumLen b := by
  induction a with
  | nil => simp [sumLen]
  | cons x a ih => simp [sumLen, ih]; omega
theorem sumLen_step (l : List (List UInt8)) (k : Nat) (h : k < l.length) : sumLen (l.take (k + 1)) = sumLen (l.take k) + (l.getD k []).length := by
  rw [take_snocL l k h, sumLen_append]; simp [sumLen]
theorem sumLen_at (l : List (List UInt8)) (k : Nat) (h : k < l.length) : (l.getD k []).length ≤ sumLen l := by
  have h1 := sumLen_step l k h
  have h2 := sumLen_append (l.take (k + 1)) (l.drop (k + 1))
  rw [List.take_append_drop] at h2
  omega
theorem joined_sumLen (l : List (List UInt8)) : (joined l).length = 8 * l.length + sumLen l := by
  induction l with
  | nil => simp [joined, sumLen]
  | cons x l ih => simp [joined, sumLen, ih, eight_length]; omega
end Go.Proofs.YtbigkblkfnnfkaaDoor
