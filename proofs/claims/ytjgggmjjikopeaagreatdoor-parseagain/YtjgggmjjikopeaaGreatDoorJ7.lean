/- Joined texts of the proof. -/
import Derived.Test.YtjgggmjjikopeaaGreatDoorJ4

/- What stage 4 knew besides. -/
namespace Go.Proofs.YtjgggmjjikopeaaGreatDoor
open Go.RowKit
set_option linter.unusedVariables false

set_option maxRecDepth 100000 in
set_option maxHeartbeats 400000 in
theorem indexByte_any (s : ByteArray) (c : Int) (w : World) :
    Calls Tryz.prog 119 #[.string s, .int .u8 c] w fun e w' => e = .returned (.int .i64 (Lib.indexByte s.data.toList c.toNat.toUInt8)) ∧ w' = w := by
  have hcf : ∀ w, Sem.run Tryz.prog (callFunc 181 #[.string s, .int .u8 c]) w = .ok (.value (.int .i64 (Lib.indexByte s.data.toList c.toNat.toUInt8))) w := fun w => by
    rw [run_callFunc_extern Tryz.func181 (by kernel_rfl) (by kernel_rfl) (by kernel_rfl) (e := Extern.BytealgIndexByte.indexByte) (by kernel_rfl), Lib.run_indexByteString]
    rfl
  go_enter Tryz.func119, Tryz.ntmps119
  go_wp2
  go_ret
  exact ⟨rfl, rfl⟩
theorem idx10_yes (c : Nat) (h1 : 48 ≤ c) (h2 : c ≤ 57) (w : World) :
    Calls Tryz.prog 119 #[.string (({ data := #[48, 49, 50, 51, 52, 53, 54, 55, 56, 57, 97, 98, 99, 100, 101, 102] } : ByteArray).extract 0 10), .int .u8 (c : Int)] w fun e w' => e = .returned (.int .i64 ((c : Int) - 48)) ∧ w' = w := by
  have h := indexByte_any (({ data := #[48, 49, 50, 51, 52, 53, 54, 55, 56, 57, 97, 98, 99, 100, 101, 102] } : ByteArray).extract 0 10) (c : Int) w
  rw [idx10_nat c (by omega), if_pos ⟨h1, h2⟩] at h
  exact h

theorem idx10_no (c : Nat) (hc : c < 256) (h : c < 48 ∨ 57 < c) (w : World) :
    Calls Tryz.prog 119 #[.string (({ data := #[48, 49, 50, 51, 52, 53, 54, 55, 56, 57, 97, 98, 99, 100, 101, 102] } : ByteArray).extract 0 10), .int .u8 (c : Int)] w fun e w' => e = .returned (.int .i64 (-1)) ∧ w' = w := by
  have h' := indexByte_any (({ data := #[48, 49, 50, 51, 52, 53, 54, 55, 56, 57, 97, 98, 99, 100, 101, 102] } : ByteArray).extract 0 10) (c : Int) w
  rw [idx10_nat c hc, if_neg (by omega)] at h'
  exact h'

set_option maxRecDepth 100000 in
set_option maxHeartbeats 800000 in
theorem readDigits_any (s : ByteArray) (w : World) (hs : s.size ≤ 1099511627776) :
    Calls Tryz.prog 188 #[.string s] w fun e w' => DigPost (bytes s) e ∧ ∃ q, w' = w.drewN q := by
  by_cases hl1 : s.size = 0
  · have hem := is_empty hl1
    go_enter Tryz.func188, Tryz.ntmps188
    go_wp2
    go_ret2
    exact ⟨.inr ⟨none_bad _ (by rw [bytes_length]; omega), rfl⟩, 0, rfl⟩
  have hpos : 0 < s.size := by omega
  obtain ⟨c0, hc0⟩ : ∃ c0 : Nat, s[0].toNat = c0 := ⟨_, rfl⟩
  have HC0 : Hid (((bytes s).getD 0 0).toNat = c0) := by show _ = _; rw [bytes_at s 0 hpos]; exact hc0
  have hc0l : c0 < 256 := by rw [← hc0]; exact UInt8.toNat_lt _
  have hne : s.toList.isEmpty = false := not_empty hpos
  by_cases hz : c0 = 48 ∧ 1 < s.size
  · obtain ⟨hz, h1⟩ := hz
    have hz' : ((c0 : Int) == 48) = true := by rw [beq_iff_eq]; omega
    have HZ : Hid (c0 = 48) := hz
    clear hz
    go_enter Tryz.func188, Tryz.ntmps188
    go_wp2
    go_ret2
    exact ⟨.inr ⟨nought_bad _ (by rw [HC0.out]; exact HZ.out) (by rw [bytes_length]; exact h1), rfl⟩, 0, rfl⟩
  have hz' : ((c0 : Int) == 48) = true ∧ decide (1 < (s.size : Int)) = false ∨ ((c0 : Int) == 48) = false := by
    by_cases h : c0 = 48
    · exact .inl ⟨by rw [beq_iff_eq]; omega, by simp; omega⟩
    · exact .inr (by rw [beq_eq_false_iff_ne]; omega)
  have HZ : Hid (((bytes s).getD 0 0).toNat = 48 → (bytes s).length = 1) := by
    show _ → _
    rw [HC0.out, bytes_length]
    intro h
    omega
  clear hz
  rcases hz' with ⟨g1, g2⟩ | g1
  all_goals
    go_enter Tryz.func188, Tryz.ntmps188
    go_wp2
    go_loopw [4, 5] (fun t v wr => ∃ (k m : Nat) (r : ByteArray), k ≤ s.size ∧ v = .string r ∧ Hid (bytes r = (bytes s).drop k) ∧ r.size + k = s.size ∧ t = .int .u64 m ∧ m ≤ 9223372036854775807 ∧ Hid (m = decVal ((bytes s).take k)) ∧ Hid (∀ j, j < k → 48 ≤ ((bytes s).getD j 0).toNat ∧ ((bytes s).getD j 0).toNat ≤ 57) ∧ Hid (∃ q, wr = w.drewN q)) (fun _ v _ => strLen v)
    case atStart => exact ⟨0, 0, s, Nat.zero_le _, rfl, rfl, rfl, rfl, by omega, rfl, fun j hj => by omega, ⟨0, rfl⟩⟩
    case round =>
      obtain ⟨k, m, r, hk, rfl, hr, hrk, rfl, hm, hv, hdig, hq⟩ := hrel
      by_cases hr0 : r.size = 0
      · have hrem := is_empty hr0
        have HG : Hid (GoodDec (bytes s)) := by
          have e : (bytes s).take k = bytes s := List.take_of_length_le (by rw [bytes_length]; omega)
          have hv' := hv.out
          rw [e] at hv'
          exact ⟨by rw [bytes_length]; omega, HZ.out, fun j hj => hdig.out j (by rw [bytes_length] at hj; omega), by rw [← hv']; exact hm⟩
        have HV : Hid (decVal (bytes s) = m) := by
          have e : (bytes s).take k = bytes s := List.take_of_length_le (by rw [bytes_length]; omega)
          have hv' := hv.out
          rw [e] at hv'
          exact hv'.symm
        clear hr0 hv hdig
        go_wp2
        go_ret2
        exact ⟨.inl ⟨HG.out, by rw [HV.out]; rfl⟩, hq.out⟩
      · have hrp : 0 < r.size := by omega
        have hrne := not_empty hrp
        have hrp' : (0 : Int) < (r.size : Int) := by omega
        have hlt : k < s.size := by omega
        obtain ⟨c, hc⟩ : ∃ c : Nat, r[0].toNat = c := ⟨_, rfl⟩
        have hcl : c < 256 := by rw [← hc]; exact UInt8.toNat_lt _
        have HC : Hid (((bytes s).getD k 0).toNat = c) := by
          show _ = _
          rw [← hc, ← bytes_at r 0 hrp, hr.out]
          simp [List.getD]
        by_cases hdg : 48 ≤ c ∧ c ≤ 57
        · obtain ⟨h48, h57⟩ := hdg
          go_wp2
          go_quiet ((go_at_call 119; exact Calls.quiet_of_same (idx10_yes c h48 h57 _)))
          by_cases hgr : m * 10 + (c - 48) ≤ 9223372036854775807
          · have HV : Hid (m * 10 + (c - 48) = decVal ((bytes s).take (k + 1))) := by show _ = _; rw [val_take _ k (by rw [bytes_length]; exact hlt), HC.out, hv.out]
            have HDG : Hid (∀ j, j < k + 1 → 48 ≤ ((bytes s).getD j 0).toNat ∧ ((bytes s).getD j 0).toNat ≤ 57) := by
              intro j hj
              rcases Nat.lt_or_ge j k with h | h
              · exact hdig.out j h
              · have : j = k := by omega
                subst this
                rw [HC.out]; omega
            have HR : Hid (bytes (r.extract 1 r.size) = (bytes s).drop (k + 1)) := by show _ = _; rw [extract_one, hr.out, List.drop_drop]
            have hxs : (r.extract 1 r.size).size = r.size - 1 := by rw [← bytes_length, extract_one, List.length_drop, bytes_length]
            clear hv hdig hr
            go_wp2
            go_roundw
            case rel => exact ⟨k + 1, m * 10 + (c - 48), r.extract 1 r.size, by omega, rfl, HR, by rw [hxs]; omega, by go_num, hgr, HV, HDG, drewN_again hq.out nq⟩
            case measure => simp only [strLen]; rw [hxs]; omega
          · have HB : Hid (¬ GoodDec (bytes s)) := great_bad _ (k + 1) (by rw [val_take _ k (by rw [bytes_length]; exact hlt), HC.out, ← hv.out]; omega)
            go_wp2
            go_ret2
            exact ⟨.inr ⟨HB.out, rfl⟩, drewN_again hq.out nq⟩
        · go_wp2
          go_quiet ((go_at_call 119; exact Calls.quiet_of_same (idx10_no c hcl (by omega) _)))
          go_wp2
          go_ret2
          exact ⟨.inr ⟨digit_bad _ k (by rw [bytes_length]; exact hlt) (by rw [HC.out]; omega), rfl⟩, drewN_again hq.out nq⟩
set_option maxRecDepth 100000 in
set_option maxHeartbeats 800000 in
theorem readDec_any (s : ByteArray) (most : Int) (w : World) (hs : s.size ≤ 1099511627776) (hmost : most ≤ 9223372036854775807) (hmost' : -9223372036854775808 ≤ most) :
    Calls Tryz.prog 158 #[.string s, .int .i64 most] w fun e w' => (∃ d h : Int, e = .returned (.tuple #[.int .i64 d, .int .i64 h]) ∧ DecIs (bytes s) most d h) ∧ ∃ q, w' = w.drewN q := by
  by_cases hneg : most < 0
  · go_enter Tryz.func158, Tryz.ntmps158
    go_wp2
    go_ret2
    exact ⟨⟨0, 2, rfl, .inl ⟨hneg, rfl, rfl⟩⟩, 0, rfl⟩
  go_enter Tryz.func158, Tryz.ntmps158
  go_wp2_with fail
  refine (readDigits_any s _ hs).mono ?_
  rintro e w1 ⟨⟨hg, rfl⟩ | ⟨hg, rfl⟩, q, rfl⟩
  · obtain ⟨m, hm⟩ : ∃ m, m = decVal (bytes s) := ⟨_, rfl⟩
    have hm63 : m ≤ 9223372036854775807 := by rw [hm]; exact hg.2.2.2
    rw [← hm]
    have HM : Hid (m = decVal (bytes s)) := hm
    have HG : Hid (GoodDec (bytes s)) := hg
    clear hm hg
    by_cases hmo : most < m
    · go_wp2
      go_ret2
      exact ⟨⟨0, 3, rfl, .inr (.inr (.inl ⟨by omega, HG.out, by rw [← HM.out]; exact hmo, rfl, rfl⟩))⟩, q, rfl⟩
    · go_wp2
      go_ret2
      exact ⟨⟨m, 0, rfl, .inr (.inr (.inr ⟨by omega, HG.out, by rw [← HM.out]; omega, by rw [← HM.out], rfl⟩))⟩, q, rfl⟩
  · have HG : Hid (¬ GoodDec (bytes s)) := hg
    clear hg
    go_wp2
    go_ret2
    exact ⟨⟨0, 4, rfl, .inr (.inl ⟨by omega, HG.out, rfl, rfl⟩)⟩, q, rfl⟩

set_option maxRecDepth 100000 in
set_option maxHeartbeats 400000 in
theorem indexByte_lite (s : ByteArray) (c : Int) (w : World) :
    Calls Tryz.prog 154 #[.string s, .int .u8 c] w fun e w' => e = .returned (.int .i64 (Lib.indexByte s.data.toList c.toNat.toUInt8)) ∧ w' = w := by
  have hcf : ∀ w, Sem.run Tryz.prog (callFunc 181 #[.string s, .int .u8 c]) w = .ok (.value (.int .i64 (Lib.indexByte s.data.toList c.toNat.toUInt8))) w := fun w => by
    rw [run_callFunc_extern Tryz.func181 (by kernel_rfl) (by kernel_rfl) (by kernel_rfl) (e := Extern.BytealgIndexByte.indexByte) (by kernel_rfl), Lib.run_indexByteString]
    rfl
  go_enter Tryz.func154, Tryz.ntmps154
  go_wp2
  go_ret
  exact ⟨rfl, rfl⟩

set_option maxRecDepth 100000 in
set_option maxHeartbeats 800000 in
theorem index_dot (l : List UInt8) (w : World) :
    Calls Tryz.prog 203 #[.string ⟨l.toArray⟩, .string { data := #[46] }] w fun e w' => e = .returned (.int .i64 (Lib.indexByte l 46)) ∧ w' = w := by
  by_cases hl : l = [46]
  · subst hl
    go_enter Tryz.func203, Tryz.ntmps203
    go_wp2_with fail
    go_ret
    exact ⟨rfl, rfl⟩
  · have hne : (([46] : List UInt8) == l) = false := by
      rw [beq_eq_false_iff_ne]
      exact fun h => hl h.symm
    go_enter Tryz.func203, Tryz.ntmps203
    go_wp2_with fail
    refine (indexByte_lite _ 46 _).mono ?_
    rintro e w1 ⟨rfl, rfl⟩
    go_wp2
    go_ret
    exact ⟨rfl, rfl⟩

set_option maxRecDepth 100000 in
set_option maxHeartbeats 800000 in
theorem cutLite_any (l : List UInt8) (w : World) (hmax : l.length ≤ 9223372036854775807) :
    Calls Tryz.prog 187 #[.string ⟨l.toArray⟩, .string { data := #[46] }] w fun e w' => (∃ b, e = .returned (.tuple #[.string ⟨(aheadOf l).toArray⟩, .string ⟨(behindOf l).toArray⟩, .bool b])) ∧ ∃ q, w' = w.drewN q := by
  have ge := Lib.indexByte_ge l 46
  by_cases h : 0 ≤ Lib.indexByte l 46
  · obtain ⟨h1, h2⟩ := cut_some l h
    have hlen : l.length = (aheadOf l).length + ((behindOf l).length + 1) := by conv => lhs; rw [h2]; simp
    obtain ⟨k, hk⟩ : ∃ k, k = (aheadOf l).length := ⟨_, rfl⟩
    have t1 : l.take (aheadOf l).length = aheadOf l := by
      generalize aheadOf l = A at h2
      generalize behindOf l = B at h2
      subst h2; simp
    have t2 : l.drop ((aheadOf l).length + 1) = behindOf l := by
      generalize aheadOf l = A at h2
      generalize behindOf l = B at h2
      subst h2; simp [List.drop_append]
    have e1 : (⟨l.toArray⟩ : ByteArray).extract 0 k = ⟨(aheadOf l).toArray⟩ := by
      rw [extract_list, hk, Nat.sub_zero, List.drop_zero, t1]
    have e2 : (⟨l.toArray⟩ : ByteArray).extract (k + 1) l.length = ⟨(behindOf l).toArray⟩ := by
      rw [extract_list, hk, t2, List.take_of_length_le (by omega)]
    have hkl : k + 1 ≤ l.length := by omega
    have hsz : (⟨l.toArray⟩ : ByteArray).size = l.length := size_mk l
    rw [← hk] at h1
    clear h2 hlen hk t1 t2
    go_enter Tryz.func187, Tryz.ntmps187
    go_wp2_with fail
    refine (index_dot l _).mono ?_
    rintro e w1 ⟨rfl, rfl⟩
    rw [h1]
    go_wp2_with fail
    go_region
    go_wp2
    go_ret3
    exact ⟨⟨_, rfl⟩, 1, rfl⟩
  · have h1 : Lib.indexByte l 46 = -1 := by omega
    obtain ⟨h2, h3⟩ := cut_none l h1
    rw [h2, h3]
    go_enter Tryz.func187, Tryz.ntmps187
    go_wp2_with fail
    refine (index_dot l _).mono ?_
    rintro e w1 ⟨rfl, rfl⟩
    rw [h1]
    go_wp2
    go_ret3
    exact ⟨⟨_, rfl⟩, 0, rfl⟩

set_option maxRecDepth 100000 in
set_option maxHeartbeats 800000 in
theorem cut_any (l : List UInt8) (w : World) (hmax : l.length ≤ 9223372036854775807) :
    Calls Tryz.prog 157 #[.string ⟨l.toArray⟩, .string { data := #[46] }] w fun e w' => (∃ b, e = .returned (.tuple #[.string ⟨(aheadOf l).toArray⟩, .string ⟨(behindOf l).toArray⟩, .bool b])) ∧ ∃ q, w' = w.drewN q := by
  go_enter Tryz.func157, Tryz.ntmps157
  go_wp2_with fail
  refine (cutLite_any l _ hmax).mono ?_
  rintro e w1 ⟨⟨b, rfl⟩, q, rfl⟩
  go_wp2
  go_ret3
  exact ⟨⟨_, rfl⟩, _, rfl⟩

set_option maxRecDepth 100000 in
set_option maxHeartbeats 1600000 in
theorem parse_any (l : List UInt8) (w : World) (hmax : l.length ≤ 1099511627775) :
    Calls Tryz.prog 125 #[.string ⟨l.toArray⟩] w fun e w' => ParsePost l e ∧ ∃ q, w' = w.drewN q := by
  obtain ⟨a, hA⟩ : ∃ a, a = aheadOf l := ⟨_, rfl⟩
  obtain ⟨b, hB⟩ : ∃ b, b = behindOf l := ⟨_, rfl⟩
  have hal : a.length ≤ 1099511627775 := by
    rw [hA]
    exact Nat.le_trans (List.takeWhile_sublist _).length_le hmax
  have hPP : ParsePost l = fun e => (IsLit l ∧ e = .returned (.tuple #[.int .u64 (quo (litNum l) (10 ^ b.length) : Nat), .int .i64 0])) ∨ (¬ IsLit l ∧ e = .returned (.tuple #[.int .u64 0, .int .i64 4])) := by
    rw [hB]; rfl
  have hLit : IsLit l ↔ (1 ≤ b.length ∧ b.length ≤ 6 ∧ a.length + b.length ≤ 15 ∧ GoodDec a ∧ GoodDec (49 :: b)) := by rw [hA, hB]; rfl
  have hNum : litNum l = decVal a * 10 ^ b.length + decVal (49 :: b) - 10 ^ b.length := by rw [hA, hB]; rfl
  have HPP : Hid (ParsePost l = fun e => (IsLit l ∧ e = .returned (.tuple #[.int .u64 (quo (litNum l) (10 ^ b.length) : Nat), .int .i64 0])) ∨ (¬ IsLit l ∧ e = .returned (.tuple #[.int .u64 0, .int .i64 4]))) := hPP
  have HLit : Hid (IsLit l ↔ (1 ≤ b.length ∧ b.length ≤ 6 ∧ a.length + b.length ≤ 15 ∧ GoodDec a ∧ GoodDec (49 :: b))) := hLit
  have HNum : Hid (litNum l = decVal a * 10 ^ b.length + decVal (49 :: b) - 10 ^ b.length) := hNum
  clear hPP hLit hNum
  have hsa : (⟨a.toArray⟩ : ByteArray).size = a.length := size_mk a
  have hsb : (⟨b.toArray⟩ : ByteArray).size = b.length := size_mk b
  go_enter Tryz.func125, Tryz.ntmps125
  go_wp2_with fail
  refine (cut_any l _ (by omega)).mono ?_
  rintro e w1 ⟨⟨f, rfl⟩, q1, rfl⟩
  rw [← hA, ← hB]
  clear hA hB
  by_cases c1 : 1 ≤ b.length ∧ b.length ≤ 6 ∧ a.length + b.length ≤ 15
  · obtain ⟨d1, d2, d3⟩ := c1
    go_wp2_with fail
    refine (readDec_any ⟨a.toArray⟩ 9223372036854775807 _ (by rw [hsa]; omega) (by omega) (by omega)).mono ?_
    rintro e w2 ⟨⟨x, ex, rfl, hx⟩, q2, rfl⟩
    have hx : DecIs a 9223372036854775807 x ex := hx
    go_wp2_with fail
    rw [show (({ data := #[49] } : ByteArray) ++ (⟨b.toArray⟩ : ByteArray)) = ⟨(49 :: b).toArray⟩ from cat_list [49] b]
    refine (readDec_any ⟨(49 :: b).toArray⟩ 9223372036854775807 _ (by rw [size_mk]; simp; omega) (by omega) (by omega)).mono ?_
    rintro e w3 ⟨⟨y, ey, rfl, hy⟩, q3, rfl⟩
    have hy : DecIs (49 :: b) 9223372036854775807 y ey := hy
    by_cases g1 : GoodDec a
    · obtain ⟨rfl, rfl⟩ : x = (decVal a : Int) ∧ ex = 0 := by
        have := g1.2.2.2
        rcases hx with ⟨h, _⟩ | ⟨_, h, _⟩ | ⟨_, _, h, _⟩ | ⟨_, _, _, h1, h2⟩
        · omega
        · exact absurd g1 h
        · omega
        · exact ⟨h1, h2⟩
      by_cases g2 : GoodDec (49 :: b)
      · obtain ⟨rfl, rfl⟩ : y = (decVal (49 :: b) : Int) ∧ ey = 0 := by
          have := g2.2.2.2
          rcases hy with ⟨h, _⟩ | ⟨_, h, _⟩ | ⟨_, _, h, _⟩ | ⟨_, _, _, h1, h2⟩
          · omega
          · exact absurd g2 h
          · omega
          · exact ⟨h1, h2⟩
        have hyes : Hid (IsLit l) := HLit.out.2 ⟨d1, d2, d3, g1, g2⟩
        have k1 := good_lt g1
        have k2 := good_lt g2
        have k3 := one_ge g2
        have k4 : decVal a * 10 ^ b.length < 10 ^ 15 := by
          refine Nat.lt_of_lt_of_le (Nat.mul_lt_mul_of_pos_right k1 (Nat.pow_pos (by decide))) ?_
          rw [← Nat.pow_add]
          exact Nat.pow_le_pow_right (by decide) d3
        have k5 : 10 ^ b.length ≤ 10 ^ 6 := Nat.pow_le_pow_right (by decide) d2
        rw [List.length_cons, Nat.pow_succ] at k2
        clear hx hy g1 g2 HLit
        obtain ⟨A, hA⟩ : ∃ A, A = decVal a := ⟨_, rfl⟩
        obtain ⟨B, hB⟩ : ∃ B, B = decVal (49 :: b) := ⟨_, rfl⟩
        obtain ⟨S, hS⟩ : ∃ S, Hid (S = 10 ^ b.length) := ⟨10 ^ b.length, (rfl : 10 ^ b.length = 10 ^ b.length)⟩
        have HN : Hid (litNum l = A * S + B - S) := by rw [hA, hB, hS.out]; exact HNum.out
        rw [← hA, ← hB]
        rw [← hA, ← hS.out] at k4
        rw [← hB, ← hS.out] at k2 k3
        rw [← hS.out] at k5
        clear k1 HNum hA hB
        obtain ⟨M, hM⟩ : ∃ M, M = A * S := ⟨_, rfl⟩
        have hMi : (A : Int) * (S : Int) = (M : Int) := by rw [hM]; simp
        rw [← hM] at k4
        have HN2 : Hid (litNum l = M + B - S) := by rw [hM]; exact HN.out
        clear HN hM
        go_wp2_with fail
        refine (power_any b.length d2 _).mono ?_
        rintro e w4 ⟨rfl, hw4⟩
        rw [← hS.out, hw4]
        go_wp2_with fail
        rw [show (M : Int) + (B : Int) - (S : Int) = ((M + B - S : Nat) : Int) by omega]
        refine (quotient_any (M + B - S) S _).mono ?_
        rintro e w5 ⟨rfl, q4, rfl⟩
        go_wp2
        go_ret2
        refine ⟨?_, _, rfl⟩
        rw [HPP.out]
        exact .inl ⟨hyes.out, by rw [HN2.out, ← hS.out]; rfl⟩
      · obtain ⟨rfl, rfl⟩ : y = 0 ∧ ey = 4 := by
          rcases hy with ⟨h, _⟩ | ⟨_, _, h1, h2⟩ | ⟨_, h, _, _⟩ | ⟨_, h, _, _⟩
          · omega
          · exact ⟨h1, h2⟩
          · exact absurd h g2
          · exact absurd h g2
        have hno : ¬ IsLit l := fun h => g2 (HLit.out.1 h).2.2.2.2
        go_wp2
        go_ret2
        refine ⟨?_, _, rfl⟩
        rw [HPP.out]
        exact .inr ⟨hno, rfl⟩
    · obtain ⟨rfl, rfl⟩ : x = 0 ∧ ex = 4 := by
        rcases hx with ⟨h, _⟩ | ⟨_, _, h1, h2⟩ | ⟨_, h, _, _⟩ | ⟨_, h, _, _⟩
        · omega
        · exact ⟨h1, h2⟩
        · exact absurd h g1
        · exact absurd h g1
      have hno : ¬ IsLit l := fun h => g1 (HLit.out.1 h).2.2.2.1
      go_wp2
      go_ret2
      refine ⟨?_, _, rfl⟩
      rw [HPP.out]
      exact .inr ⟨hno, rfl⟩
  · have hno : ¬ IsLit l := fun h => c1 ⟨(HLit.out.1 h).1, (HLit.out.1 h).2.1, (HLit.out.1 h).2.2.1⟩
    go_wp2_with fail
    all_goals
      go_ret2
      refine ⟨?_, _, rfl⟩
      rw [HPP.out]
      exact .inr ⟨hno, rfl⟩

end Go.Proofs.YtjgggmjjikopeaaGreatDoor
