/- strings.Cut at a point. -/
import Derived.Test.YtinofdmdfhklpaaDoorRefDec
import Derived.Lib.Strings
import Derived.Deep.RegionHeld3
namespace Go.Proofs.YtinofdmdfhklpaaDoor
open Go.RowKit
set_option linter.unusedVariables false

theorem size_mk (l : List UInt8) : (⟨l.toArray⟩ : ByteArray).size = l.length := by rw [← bytes_length]; rfl

/-- What stands ahead of the first point of a text, and behind it. -/
def aheadOf (l : List UInt8) : List UInt8 := l.takeWhile (· != 46)
def behindOf (l : List UInt8) : List UInt8 := (l.dropWhile (· != 46)).drop 1

theorem cut_none : ∀ l : List UInt8, Lib.indexByte l 46 = -1 → aheadOf l = l ∧ behindOf l = []
  | [], _ => ⟨rfl, rfl⟩
  | b :: l, h => by
    simp only [Lib.indexByte] at h
    by_cases hb : (b == 46) = true
    · rw [if_pos hb] at h; omega
    · rw [if_neg hb] at h
      have hb' : (b != 46) = true := by simpa using hb
      have ge := Lib.indexByte_ge l 46
      have h2 : Lib.indexByte l 46 = -1 := by
        by_cases h3 : (Lib.indexByte l 46 == -1) = true
        · simpa using h3
        · rw [if_neg h3] at h; omega
      obtain ⟨i1, i2⟩ := cut_none l h2
      refine ⟨?_, ?_⟩
      · simp only [aheadOf, List.takeWhile_cons, hb', if_true]; exact congrArg _ i1
      · simp only [behindOf, List.dropWhile_cons, hb', if_true]; exact i2

theorem cut_some : ∀ l : List UInt8, 0 ≤ Lib.indexByte l 46 → Lib.indexByte l 46 = ((aheadOf l).length : Int) ∧ l = aheadOf l ++ 46 :: behindOf l
  | [], h => by simp [Lib.indexByte] at h
  | b :: l, h => by
    simp only [Lib.indexByte] at h ⊢
    by_cases hb : (b == 46) = true
    · have hb2 : b = 46 := by simpa using hb
      subst hb2
      refine ⟨rfl, rfl⟩
    · rw [if_neg hb] at h ⊢
      have hb' : (b != 46) = true := by simpa using hb
      by_cases h3 : (Lib.indexByte l 46 == -1) = true
      · rw [if_pos h3] at h; omega
      · rw [if_neg h3] at h ⊢
        have ge := Lib.indexByte_ge l 46
        have h4 : Lib.indexByte l 46 ≠ -1 := by simpa using h3
        obtain ⟨i1, i2⟩ := cut_some l (by omega)
        have e1 : aheadOf (b :: l) = b :: aheadOf l := by simp [aheadOf, hb']
        have e2 : behindOf (b :: l) = behindOf l := by simp [behindOf, hb']
        rw [e1, e2, i1]
        exact ⟨by simp, by rw [List.cons_append, ← i2]⟩

theorem extract_list (l : List UInt8) (a b : Nat) : (⟨l.toArray⟩ : ByteArray).extract a b = ⟨((l.drop a).take (b - a)).toArray⟩ := by
  have h := Lib.extract_data (⟨l.toArray⟩ : ByteArray) a b
  generalize (⟨l.toArray⟩ : ByteArray).extract a b = x at h ⊢
  obtain ⟨⟨y⟩⟩ := x
  simp at h
  rw [h]

set_option maxRecDepth 100000 in
set_option maxHeartbeats 400000 in
theorem indexByte_lite (s : ByteArray) (c : Int) (w : World) :
    Calls Tryd.prog 39 #[.string s, .int .u8 c] w fun e w' => e = .returned (.int .i64 (Lib.indexByte s.data.toList c.toNat.toUInt8)) ∧ w' = w := by
  have hcf : ∀ w, Sem.run Tryd.prog (callFunc 48 #[.string s, .int .u8 c]) w = .ok (.value (.int .i64 (Lib.indexByte s.data.toList c.toNat.toUInt8))) w := fun w => by
    rw [run_callFunc_extern Tryd.func48 (by kernel_rfl) (by kernel_rfl) (by kernel_rfl) (e := Extern.BytealgIndexByte.indexByte) (by kernel_rfl), Lib.run_indexByteString]
    rfl
  go_enter Tryd.func39, Tryd.ntmps39
  go_wp2
  go_ret
  exact ⟨rfl, rfl⟩

set_option maxRecDepth 100000 in
set_option maxHeartbeats 800000 in
theorem index_dot (l : List UInt8) (w : World) :
    Calls Tryd.prog 62 #[.string ⟨l.toArray⟩, .string { data := #[46] }] w fun e w' => e = .returned (.int .i64 (Lib.indexByte l 46)) ∧ w' = w := by
  by_cases hl : l = [46]
  · subst hl
    go_enter Tryd.func62, Tryd.ntmps62
    go_wp2_with fail
    go_ret
    exact ⟨rfl, rfl⟩
  · have hne : (([46] : List UInt8) == l) = false := by
      rw [beq_eq_false_iff_ne]
      exact fun h => hl h.symm
    go_enter Tryd.func62, Tryd.ntmps62
    go_wp2_with fail
    refine (indexByte_lite _ 46 _).mono ?_
    rintro e w1 ⟨rfl, rfl⟩
    go_wp2
    go_ret
    exact ⟨rfl, rfl⟩

set_option maxRecDepth 100000 in
set_option maxHeartbeats 800000 in
theorem cutLite_any (l : List UInt8) (w : World) (hmax : l.length ≤ 9223372036854775807) :
    Calls Tryd.prog 54 #[.string ⟨l.toArray⟩, .string { data := #[46] }] w fun e w' => (∃ b, e = .returned (.tuple #[.string ⟨(aheadOf l).toArray⟩, .string ⟨(behindOf l).toArray⟩, .bool b])) ∧ ∃ q, w' = w.drewN q := by
  have ge := Lib.indexByte_ge l 46
  by_cases h : 0 ≤ Lib.indexByte l 46
  · obtain ⟨h1, h2⟩ := cut_some l h
    have hlen : l.length = (aheadOf l).length + ((behindOf l).length + 1) := by conv => lhs; rw [h2]; simp
    obtain ⟨k, hk⟩ : ∃ k, k = (aheadOf l).length := ⟨_, rfl⟩
    have t1 : l.take (aheadOf l).length = aheadOf l := by
      generalize aheadOf l = A at h2
      generalize behindOf l = B at h2
      subst h2; simp
    have t2 : l.drop ((aheadOf l).length + 1) = behindOf l := by
      generalize aheadOf l = A at h2
      generalize behindOf l = B at h2
      subst h2; simp [List.drop_append]
    have e1 : (⟨l.toArray⟩ : ByteArray).extract 0 k = ⟨(aheadOf l).toArray⟩ := by
      rw [extract_list, hk, Nat.sub_zero, List.drop_zero, t1]
    have e2 : (⟨l.toArray⟩ : ByteArray).extract (k + 1) l.length = ⟨(behindOf l).toArray⟩ := by
      rw [extract_list, hk, t2, List.take_of_length_le (by omega)]
    have hkl : k + 1 ≤ l.length := by omega
    have hsz : (⟨l.toArray⟩ : ByteArray).size = l.length := size_mk l
    rw [← hk] at h1
    clear h2 hlen hk t1 t2
    go_enter Tryd.func54, Tryd.ntmps54
    go_wp2_with fail
    refine (index_dot l _).mono ?_
    rintro e w1 ⟨rfl, rfl⟩
    rw [h1]
    go_wp2_with fail
    go_region
    go_wp2
    go_ret3
    exact ⟨⟨_, rfl⟩, 1, rfl⟩
  · have h1 : Lib.indexByte l 46 = -1 := by omega
    obtain ⟨h2, h3⟩ := cut_none l h1
    rw [h2, h3]
    go_enter Tryd.func54, Tryd.ntmps54
    go_wp2_with fail
    refine (index_dot l _).mono ?_
    rintro e w1 ⟨rfl, rfl⟩
    rw [h1]
    go_wp2
    go_ret3
    exact ⟨⟨_, rfl⟩, 0, rfl⟩

set_option maxRecDepth 100000 in
set_option maxHeartbeats 800000 in
theorem cut_any (l : List UInt8) (w : World) (hmax : l.length ≤ 9223372036854775807) :
    Calls Tryd.prog 42 #[.string ⟨l.toArray⟩, .string { data := #[46] }] w fun e w' => (∃ b, e = .returned (.tuple #[.string ⟨(aheadOf l).toArray⟩, .string ⟨(behindOf l).toArray⟩, .bool b])) ∧ ∃ q, w' = w.drewN q := by
  go_enter Tryd.func42, Tryd.ntmps42
  go_wp2_with fail
  refine (cutLite_any l _ hmax).mono ?_
  rintro e w1 ⟨⟨b, rfl⟩, q, rfl⟩
  go_wp2
  go_ret3
  exact ⟨⟨_, rfl⟩, _, rfl⟩

end Go.Proofs.YtinofdmdfhklpaaDoor
