/- J -/
import Derived.Test.YtjgggmjjikopeaaGreatDoorJ6
set_option linter.unusedVariables false
set_option maxRecDepth 100000
set_option maxHeartbeats 6400000
open Go.RowKit
namespace Go.Proofs.YtjgggmjjikopeaaGreatDoor
theorem Xc (s : ByteArray) (c : Int) (w : World) :
  Calls Tryz.prog 119 #[.string s, .int .u8 c] w fun e w' => e = .returned (.int .i64 (Lib.indexByte s.data.toList c.toNat.toUInt8)) /\ w' = w := by
 have hcf : ∀ w, Sem.run Tryz.prog (callFunc 181 #[.string s, .int .u8 c]) w = .ok (.value (.int .i64 (Lib.indexByte s.data.toList c.toNat.toUInt8))) w := fun w => by
  rw [run_callFunc_extern Tryz.func181 (by kernel_rfl) (by kernel_rfl) (by kernel_rfl) (e := Extern.BytealgIndexByte.indexByte) (by kernel_rfl), Lib.run_indexByteString]
  rfl
 go_enter Tryz.func119, Tryz.ntmps119
 go_wp2
 go_ret
 exact ⟨rfl, rfl⟩
theorem zc4 (c : Nat) (h1 : 48 <= c) (h2 : c <= 57) (w : World) :
  Calls Tryz.prog 119 #[.string (({ data := #[48, 49, 50, 51, 52, 53, 54, 55, 56, 57, 97, 98, 99, 100, 101, 102] } : ByteArray).extract 0 10), .int .u8 (c : Int)] w fun e w' => e = .returned (.int .i64 ((c : Int) - 48)) /\ w' = w := by
 have h := Xc (({ data := #[48, 49, 50, 51, 52, 53, 54, 55, 56, 57, 97, 98, 99, 100, 101, 102] } : ByteArray).extract 0 10) (c : Int) w
 rw [jB c (by omega), zi ⟨h1, h2⟩] at h
 exact h
theorem zev (c : Nat) (hc : c < 256) (h : c < 48 \/ 57 < c) (w : World) :
  Calls Tryz.prog 119 #[.string (({ data := #[48, 49, 50, 51, 52, 53, 54, 55, 56, 57, 97, 98, 99, 100, 101, 102] } : ByteArray).extract 0 10), .int .u8 (c : Int)] w fun e w' => e = .returned (.int .i64 (-1)) /\ w' = w := by
 have h' := Xc (({ data := #[48, 49, 50, 51, 52, 53, 54, 55, 56, 57, 97, 98, 99, 100, 101, 102] } : ByteArray).extract 0 10) (c : Int) w
 rw [jB c hc, ze (by omega)] at h'
 exact h'
theorem Kg (s : ByteArray) (w : World) (hs : s.size <= 1099511627776) :
  Calls Tryz.prog 188 #[.string s] w fun e w' => zf3 (bytes s) e /\ ∃ q, w' = w.drewN q := by
 by_cases hl1 : s.size = 0
 ·have hem := VY hl1
  go_enter Tryz.func188, Tryz.ntmps188
  go_wp2
  go_ret2
  exact ⟨.inr ⟨zd9 _ (by rw [zc]; omega), rfl⟩, 0, rfl⟩
 have hpos : 0 < s.size := by omega
 obtain ⟨c0, hc0⟩ : ∃ c0 : Nat, s[0].toNat = c0 := ⟨_, rfl⟩
 have HC0 : Hid (((bytes s).getD 0 0).toNat = c0) := by show _ = _; rw [yH s 0 hpos]; exact hc0
 have hc0l : c0 < 256 := by rw [<- hc0]; exact UInt8.toNat_lt _
 have hne : s.toList.isEmpty = false := Xi hpos
 by_cases hz : c0 = 48 /\ 1 < s.size
 ·obtain ⟨hz, h1⟩ := hz
  have hz' : ((c0 : Int) == 48) = true := by rw [beq_iff_eq]; omega
  have HZ : Hid (c0 = 48) := hz
  clear hz
  go_enter Tryz.func188, Tryz.ntmps188
  go_wp2
  go_ret2
  exact ⟨.inr ⟨zbt _ (by rw [HC0.out]; exact HZ.out) (by rw [zc]; exact h1), rfl⟩, 0, rfl⟩
 have hz' : ((c0 : Int) == 48) = true /\ decide (1 < (s.size : Int)) = false \/ ((c0 : Int) == 48) = false := by
  by_cases h : c0 = 48
  ·exact .inl ⟨by rw [beq_iff_eq]; omega, by simp; omega⟩
  ·exact .inr (by rw [zt]; omega)
 have HZ : Hid (((bytes s).getD 0 0).toNat = 48 -> (bytes s).length = 1) := by
  show _ -> _
  rw [HC0.out, zc]
  intro h
  omega
 clear hz
 rcases hz' with ⟨g1, g2⟩ | g1
 all_goals
  go_enter Tryz.func188, Tryz.ntmps188
  go_wp2
  go_loopw [4, 5] (fun t v wr => ∃ (k m : Nat) (r : ByteArray), k <= s.size /\ v = .string r /\ Hid (bytes r = (bytes s).drop k) /\ r.size + k = s.size /\ t = .int .u64 m /\ m <= 9223372036854775807 /\ Hid (m = zn ((bytes s).take k)) /\ Hid (∀ j, j < k -> 48 <= ((bytes s).getD j 0).toNat /\ ((bytes s).getD j 0).toNat <= 57) /\ Hid (∃ q, wr = w.drewN q)) (fun _ v _ => zdV v)
  case atStart => exact ⟨0, 0, s, Vm _, rfl, rfl, rfl, rfl, by omega, rfl, fun j hj => by omega, ⟨0, rfl⟩⟩
  case round =>
   obtain ⟨k, m, r, hk, rfl, hr, hrk, rfl, hm, hv, hdig, hq⟩ := hrel
   by_cases hr0 : r.size = 0
   ·have hrem := VY hr0
    have HG : Hid (zO (bytes s)) := by
     have e : (bytes s).take k = bytes s := List.take_of_length_le (by rw [zc]; omega)
     have hv' := hv.out
     rw [e] at hv'
     exact ⟨by rw [zc]; omega, HZ.out, fun j hj => hdig.out j (by rw [zc] at hj; omega), by rw [<- hv']; exact hm⟩
    have HV : Hid (zn (bytes s) = m) := by
     have e : (bytes s).take k = bytes s := List.take_of_length_le (by rw [zc]; omega)
     have hv' := hv.out
     rw [e] at hv'
     exact hv'.symm
    clear hr0 hv hdig
    go_wp2
    go_ret2
    exact ⟨.inl ⟨HG.out, by rw [HV.out]; rfl⟩, hq.out⟩
   ·have hrp : 0 < r.size := by omega
    have hrne := Xi hrp
    have hrp' : (0 : Int) < (r.size : Int) := by omega
    have hlt : k < s.size := by omega
    obtain ⟨c, hc⟩ : ∃ c : Nat, r[0].toNat = c := ⟨_, rfl⟩
    have hcl : c < 256 := by rw [<- hc]; exact UInt8.toNat_lt _
    have HC : Hid (((bytes s).getD k 0).toNat = c) := by
     show _ = _
     rw [<- hc, <- yH r 0 hrp, hr.out]
     simp [List.getD]
    by_cases hdg : 48 <= c /\ c <= 57
    ·obtain ⟨h48, h57⟩ := hdg
     go_wp2
     go_quiet ((go_at_call 119; exact Calls.quiet_of_same (zc4 c h48 h57 _)))
     by_cases hgr : m * 10 + (c - 48) <= 9223372036854775807
     ·have HV : Hid (m * 10 + (c - 48) = zn ((bytes s).take (k + 1))) := by show _ = _; rw [ZS _ k (by rw [zc]; exact hlt), HC.out, hv.out]
      have HDG : Hid (∀ j, j < k + 1 -> 48 <= ((bytes s).getD j 0).toNat /\ ((bytes s).getD j 0).toNat <= 57) := by
       intro j hj
       rcases Nat.lt_or_ge j k with h | h
       ·exact hdig.out j h
       ·have : j = k := by omega
        subst this
        rw [HC.out]; omega
      have HR : Hid (bytes (r.extract 1 r.size) = (bytes s).drop (k + 1)) := by show _ = _; rw [JL, hr.out, List.drop_drop]
      have hxs : (r.extract 1 r.size).size = r.size - 1 := by rw [<- zc, JL, yC, zc]
      clear hv hdig hr
      go_wp2
      go_roundw
      case rel => exact ⟨k + 1, m * 10 + (c - 48), r.extract 1 r.size, by omega, rfl, HR, by rw [hxs]; omega, by go_num, hgr, HV, HDG, XY hq.out nq⟩
      case measure => simp only [zdV]; rw [hxs]; omega
     ·have HB : Hid (¬ zO (bytes s)) := zc9 _ (k + 1) (by rw [ZS _ k (by rw [zc]; exact hlt), HC.out, <- hv.out]; omega)
      go_wp2
      go_ret2
      exact ⟨.inr ⟨HB.out, rfl⟩, XY hq.out nq⟩
    ·go_wp2
     go_quiet ((go_at_call 119; exact Calls.quiet_of_same (zev c hcl (by omega) _)))
     go_wp2
     go_ret2
     exact ⟨.inr ⟨zdi _ k (by rw [zc]; exact hlt) (by rw [HC.out]; omega), rfl⟩, XY hq.out nq⟩
theorem JA (s : ByteArray) (most : Int) (w : World) (hs : s.size <= 1099511627776) (hmost : most <= 9223372036854775807) (hmost' : -9223372036854775808 <= most) :
  Calls Tryz.prog 158 #[.string s, .int .i64 most] w fun e w' => (∃ d h : Int, e = .returned (.tuple #[.int .i64 d, .int .i64 h]) /\ DecIs (bytes s) most d h) /\ ∃ q, w' = w.drewN q := by
 by_cases hneg : most < 0
 ·go_enter Tryz.func158, Tryz.ntmps158
  go_wp2
  go_ret2
  exact ⟨⟨0, 2, rfl, .inl ⟨hneg, rfl, rfl⟩⟩, 0, rfl⟩
 go_enter Tryz.func158, Tryz.ntmps158
 go_wp2_with fail
 refine (Kg s _ hs).mono ?_
 rintro e w1 ⟨⟨hg, rfl⟩ | ⟨hg, rfl⟩, q, rfl⟩
 ·obtain ⟨m, hm⟩ : ∃ m, m = zn (bytes s) := ⟨_, rfl⟩
  have hm63 : m <= 9223372036854775807 := by rw [hm]; exact hg.2.2.2
  rw [<- hm]
  have HM : Hid (m = zn (bytes s)) := hm
  have HG : Hid (zO (bytes s)) := hg
  clear hm hg
  by_cases hmo : most < m
  ·go_wp2
   go_ret2
   exact ⟨⟨0, 3, rfl, .inr (.inr (.inl ⟨by omega, HG.out, by rw [<- HM.out]; exact hmo, rfl, rfl⟩))⟩, q, rfl⟩
  ·go_wp2
   go_ret2
   exact ⟨⟨m, 0, rfl, .inr (.inr (.inr ⟨by omega, HG.out, by rw [<- HM.out]; omega, by rw [<- HM.out], rfl⟩))⟩, q, rfl⟩
 ·have HG : Hid (¬ zO (bytes s)) := hg
  clear hg
  go_wp2
  go_ret2
  exact ⟨⟨0, 4, rfl, .inr (.inl ⟨by omega, HG.out, rfl, rfl⟩)⟩, q, rfl⟩
theorem Vo (n : Nat) (w : World) : Calls Tryz.prog 99 #[.int .u8 (n : Int)] w fun e w' => e = .returned (.bool (z7 n)) /\ w' = w := by
 go_enter Tryz.func99, Tryz.ntmps99
 go_wp2
 all_goals
  go_ret
  refine ⟨?_, rfl⟩
  simp [z7]
  try (rw [Bool.eq_iff_iff]; simp)
  try omega
theorem zbH (n : Nat) (w : World) : Calls Tryz.prog 97 #[.int .u8 (n : Int)] w fun e w' => e = .returned (.bool (zY n)) /\ w' = w := by
 go_enter Tryz.func97, Tryz.ntmps97
 go_wp2
 all_goals
  go_ret
  refine ⟨?_, rfl⟩
  simp [zY]
  try (rw [Bool.eq_iff_iff]; simp)
  try omega
theorem Kw (s : ByteArray) (c : Int) (w : World) :
  Calls Tryz.prog 154 #[.string s, .int .u8 c] w fun e w' => e = .returned (.int .i64 (Lib.indexByte s.data.toList c.toNat.toUInt8)) /\ w' = w := by
 have hcf : ∀ w, Sem.run Tryz.prog (callFunc 181 #[.string s, .int .u8 c]) w = .ok (.value (.int .i64 (Lib.indexByte s.data.toList c.toNat.toUInt8))) w := fun w => by
  rw [run_callFunc_extern Tryz.func181 (by kernel_rfl) (by kernel_rfl) (by kernel_rfl) (e := Extern.BytealgIndexByte.indexByte) (by kernel_rfl), Lib.run_indexByteString]
  rfl
 go_enter Tryz.func154, Tryz.ntmps154
 go_wp2
 go_ret
 exact ⟨rfl, rfl⟩
theorem jA (l : List UInt8) (w : World) :
  Calls Tryz.prog 203 #[.string ⟨l.toArray⟩, .string { data := #[46] }] w fun e w' => e = .returned (.int .i64 (Lib.indexByte l 46)) /\ w' = w := by
 by_cases hl : l = [46]
 ·subst hl
  go_enter Tryz.func203, Tryz.ntmps203
  go_wp2_with fail
  go_ret
  exact ⟨rfl, rfl⟩
 ·have hne : (([46] : List UInt8) == l) = false := by
   rw [zt]
   exact fun h => hl h.symm
  go_enter Tryz.func203, Tryz.ntmps203
  go_wp2_with fail
  refine (Kw _ 46 _).mono ?_
  rintro e w1 ⟨rfl, rfl⟩
  go_wp2
  go_ret
  exact ⟨rfl, rfl⟩
theorem zaU (l : List UInt8) (w : World) (hmax : l.length <= 9223372036854775807) :
  Calls Tryz.prog 187 #[.string ⟨l.toArray⟩, .string { data := #[46] }] w fun e w' => (∃ b, e = .returned (.tuple #[.string ⟨(zw l).toArray⟩, .string ⟨(zu l).toArray⟩, .bool b])) /\ ∃ q, w' = w.drewN q := by
 have ge := Lib.indexByte_ge l 46
 by_cases h : 0 <= Lib.indexByte l 46
 ·obtain ⟨h1, h2⟩ := KF l h
  have hlen : l.length = (zw l).length + ((zu l).length + 1) := by conv => lhs; rw [h2]; simp
  obtain ⟨k, hk⟩ : ∃ k, k = (zw l).length := ⟨_, rfl⟩
  have t1 : l.take (zw l).length = zw l := by
   generalize zw l = A at h2
   generalize zu l = B at h2
   subst h2; simp
  have t2 : l.drop ((zw l).length + 1) = zu l := by
   generalize zw l = A at h2
   generalize zu l = B at h2
   subst h2; simp [List.drop_append]
  have e1 : (⟨l.toArray⟩ : ByteArray).extract 0 k = ⟨(zw l).toArray⟩ := by
   rw [Xt, hk, Nat.sub_zero, List.drop_zero, t1]
  have e2 : (⟨l.toArray⟩ : ByteArray).extract (k + 1) l.length = ⟨(zu l).toArray⟩ := by
   rw [Xt, hk, t2, List.take_of_length_le (by omega)]
  have hkl : k + 1 <= l.length := by omega
  have hsz : (⟨l.toArray⟩ : ByteArray).size = l.length := Xo l
  rw [<- hk] at h1
  clear h2 hlen hk t1 t2
  go_enter Tryz.func187, Tryz.ntmps187
  go_wp2_with fail
  refine (jA l _).mono ?_
  rintro e w1 ⟨rfl, rfl⟩
  rw [h1]
  go_wp2_with fail
  go_region
  go_wp2
  go_ret3
  exact ⟨⟨_, rfl⟩, 1, rfl⟩
 ·have h1 : Lib.indexByte l 46 = -1 := by omega
  obtain ⟨h2, h3⟩ := KG l h1
  rw [h2, h3]
  go_enter Tryz.func187, Tryz.ntmps187
  go_wp2_with fail
  refine (jA l _).mono ?_
  rintro e w1 ⟨rfl, rfl⟩
  rw [h1]
  go_wp2
  go_ret3
  exact ⟨⟨_, rfl⟩, 0, rfl⟩
theorem zfP (l : List UInt8) (w : World) (hmax : l.length <= 9223372036854775807) :
  Calls Tryz.prog 157 #[.string ⟨l.toArray⟩, .string { data := #[46] }] w fun e w' => (∃ b, e = .returned (.tuple #[.string ⟨(zw l).toArray⟩, .string ⟨(zu l).toArray⟩, .bool b])) /\ ∃ q, w' = w.drewN q := by
 go_enter Tryz.func157, Tryz.ntmps157
 go_wp2_with fail
 refine (zaU l _ hmax).mono ?_
 rintro e w1 ⟨⟨b, rfl⟩, q, rfl⟩
 go_wp2
 go_ret3
 exact ⟨⟨_, rfl⟩, _, rfl⟩
theorem zcV (l : List UInt8) (w : World) (hmax : l.length <= 1099511627775) :
  Calls Tryz.prog 125 #[.string ⟨l.toArray⟩] w fun e w' => YO l e /\ ∃ q, w' = w.drewN q := by
 obtain ⟨a, hA⟩ : ∃ a, a = zw l := ⟨_, rfl⟩
 obtain ⟨b, hB⟩ : ∃ b, b = zu l := ⟨_, rfl⟩
 have hal : a.length <= 1099511627775 := by
  rw [hA]
  exact zQ (List.takeWhile_sublist _).length_le hmax
 have hPP : YO l = fun e => (yO l /\ e = .returned (.tuple #[.int .u64 (quo (yE l) (10 ^ b.length) : Nat), .int .i64 0])) \/ (¬ yO l /\ e = .returned (.tuple #[.int .u64 0, .int .i64 4])) := by
  rw [hB]; rfl
 have hLit : yO l ↔ (1 <= b.length /\ b.length <= 6 /\ a.length + b.length <= 15 /\ zO a /\ zO (49 :: b)) := by rw [hA, hB]; rfl
 have hNum : yE l = zn a * 10 ^ b.length + zn (49 :: b) - 10 ^ b.length := by rw [hA, hB]; rfl
 have HPP : Hid (YO l = fun e => (yO l /\ e = .returned (.tuple #[.int .u64 (quo (yE l) (10 ^ b.length) : Nat), .int .i64 0])) \/ (¬ yO l /\ e = .returned (.tuple #[.int .u64 0, .int .i64 4]))) := hPP
 have HLit : Hid (yO l ↔ (1 <= b.length /\ b.length <= 6 /\ a.length + b.length <= 15 /\ zO a /\ zO (49 :: b))) := hLit
 have HNum : Hid (yE l = zn a * 10 ^ b.length + zn (49 :: b) - 10 ^ b.length) := hNum
 clear hPP hLit hNum
 have hsa : (⟨a.toArray⟩ : ByteArray).size = a.length := Xo a
 have hsb : (⟨b.toArray⟩ : ByteArray).size = b.length := Xo b
 go_enter Tryz.func125, Tryz.ntmps125
 go_wp2_with fail
 refine (zfP l _ (by omega)).mono ?_
 rintro e w1 ⟨⟨f, rfl⟩, q1, rfl⟩
 rw [<- hA, <- hB]
 clear hA hB
 by_cases c1 : 1 <= b.length /\ b.length <= 6 /\ a.length + b.length <= 15
 ·obtain ⟨d1, d2, d3⟩ := c1
  go_wp2_with fail
  refine (JA ⟨a.toArray⟩ 9223372036854775807 _ (by rw [hsa]; omega) (by omega) (by omega)).mono ?_
  rintro e w2 ⟨⟨x, ex, rfl, hx⟩, q2, rfl⟩
  have hx : DecIs a 9223372036854775807 x ex := hx
  go_wp2_with fail
  rw [show (({ data := #[49] } : ByteArray) ++ (⟨b.toArray⟩ : ByteArray)) = ⟨(49 :: b).toArray⟩ from X0 [49] b]
  refine (JA ⟨(49 :: b).toArray⟩ 9223372036854775807 _ (by rw [Xo]; simp; omega) (by omega) (by omega)).mono ?_
  rintro e w3 ⟨⟨y, ey, rfl, hy⟩, q3, rfl⟩
  have hy : DecIs (49 :: b) 9223372036854775807 y ey := hy
  by_cases g1 : zO a
  ·obtain ⟨rfl, rfl⟩ : x = (zn a : Int) /\ ex = 0 := by
    have := g1.2.2.2
    rcases hx with ⟨h, _⟩ | ⟨_, h, _⟩ | ⟨_, _, h, _⟩ | ⟨_, _, _, h1, h2⟩
    ·omega
    ·exact absurd g1 h
    ·omega
    ·exact ⟨h1, h2⟩
   by_cases g2 : zO (49 :: b)
   ·obtain ⟨rfl, rfl⟩ : y = (zn (49 :: b) : Int) /\ ey = 0 := by
     have := g2.2.2.2
     rcases hy with ⟨h, _⟩ | ⟨_, h, _⟩ | ⟨_, _, h, _⟩ | ⟨_, _, _, h1, h2⟩
     ·omega
     ·exact absurd g2 h
     ·omega
     ·exact ⟨h1, h2⟩
    have hyes : Hid (yO l) := HLit.out.2 ⟨d1, d2, d3, g1, g2⟩
    have k1 := qt g1
    have k2 := qt g2
    have k3 := zgs g2
    have k4 : zn a * 10 ^ b.length < 10 ^ 15 := by
     refine Zy (Nat.mul_lt_mul_of_pos_right k1 (Nat.pow_pos (by decide))) ?_
     rw [<- Nat.pow_add]
     exact Nat.pow_le_pow_right (by decide) d3
    have k5 : 10 ^ b.length <= 10 ^ 6 := Nat.pow_le_pow_right (by decide) d2
    rw [VX, Nat.pow_succ] at k2
    clear hx hy g1 g2 HLit
    obtain ⟨A, hA⟩ : ∃ A, A = zn a := ⟨_, rfl⟩
    obtain ⟨B, hB⟩ : ∃ B, B = zn (49 :: b) := ⟨_, rfl⟩
    obtain ⟨S, hS⟩ : ∃ S, Hid (S = 10 ^ b.length) := ⟨10 ^ b.length, (rfl : 10 ^ b.length = 10 ^ b.length)⟩
    have HN : Hid (yE l = A * S + B - S) := by rw [hA, hB, hS.out]; exact HNum.out
    rw [<- hA, <- hB]
    rw [<- hA, <- hS.out] at k4
    rw [<- hB, <- hS.out] at k2 k3
    rw [<- hS.out] at k5
    clear k1 HNum hA hB
    obtain ⟨M, hM⟩ : ∃ M, M = A * S := ⟨_, rfl⟩
    have hMi : (A : Int) * (S : Int) = (M : Int) := by rw [hM]; simp
    rw [<- hM] at k4
    have HN2 : Hid (yE l = M + B - S) := by rw [hM]; exact HN.out
    clear HN hM
    go_wp2_with fail
    refine (jr b.length d2 _).mono ?_
    rintro e w4 ⟨rfl, hw4⟩
    rw [<- hS.out, hw4]
    go_wp2_with fail
    rw [show (M : Int) + (B : Int) - (S : Int) = ((M + B - S : Nat) : Int) by omega]
    refine (VR (M + B - S) S _).mono ?_
    rintro e w5 ⟨rfl, q4, rfl⟩
    go_wp2
    go_ret2
    refine ⟨?_, _, rfl⟩
    rw [HPP.out]
    exact .inl ⟨hyes.out, by rw [HN2.out, <- hS.out]; rfl⟩
   ·obtain ⟨rfl, rfl⟩ : y = 0 /\ ey = 4 := by
     rcases hy with ⟨h, _⟩ | ⟨_, _, h1, h2⟩ | ⟨_, h, _, _⟩ | ⟨_, h, _, _⟩
     ·omega
     ·exact ⟨h1, h2⟩
     ·exact absurd h g2
     ·exact absurd h g2
    have hno : ¬ yO l := fun h => g2 (HLit.out.1 h).2.2.2.2
    go_wp2
    go_ret2
    refine ⟨?_, _, rfl⟩
    rw [HPP.out]
    exact .inr ⟨hno, rfl⟩
  ·obtain ⟨rfl, rfl⟩ : x = 0 /\ ex = 4 := by
    rcases hx with ⟨h, _⟩ | ⟨_, _, h1, h2⟩ | ⟨_, h, _, _⟩ | ⟨_, h, _, _⟩
    ·omega
    ·exact ⟨h1, h2⟩
    ·exact absurd h g1
    ·exact absurd h g1
   have hno : ¬ yO l := fun h => g1 (HLit.out.1 h).2.2.2.1
   go_wp2
   go_ret2
   refine ⟨?_, _, rfl⟩
   rw [HPP.out]
   exact .inr ⟨hno, rfl⟩
 ·have hno : ¬ yO l := fun h => c1 ⟨(HLit.out.1 h).1, (HLit.out.1 h).2.1, (HLit.out.1 h).2.2.1⟩
  go_wp2_with fail
  all_goals
   go_ret2
   refine ⟨?_, _, rfl⟩
   rw [HPP.out]
   exact .inr ⟨hno, rfl⟩
theorem zge (b : Nat) (w : World) : Calls Tryz.prog 166 #[.float .f64 b] w fun e w' => e = .returned (.int .u64 (yT b : Nat)) /\ w' = w := by
 have hcf := zcp b
 have hneq : (FloatKind.f64.format.order b b != some .eq) = zX b := zav b
 cases h : zX b
 ·rw [Z4 h]
  rw [h] at hneq
  go_enter Tryz.func166, Tryz.ntmps166
  go_wp2
  go_ret
  exact ⟨rfl, rfl⟩
 ·rw [Xl h]
  rw [h] at hneq
  go_enter Tryz.func166, Tryz.ntmps166
  go_wp2
  go_ret
  exact ⟨rfl, rfl⟩
def Jh (n : Nat) : Bool := decide (n = 9) || decide (n = 10) || decide (n = 13) || decide (n = 32)
def skF : Bool -> List UInt8 -> Nat
 | _, [] => 0
 | true, c :: r => if c.toNat = 10 then skF false r + 1 else skF true r + 1
 | false, c :: r => if Jh c.toNat then skF false r + 1 else if c.toNat = 35 then skF true r + 1 else 0
def skN (l : List UInt8) : Nat := skF false l
def zG (K : Nat) (x : List UInt8) : Nat :=
 if K = 1 then (if 24 < x.length then 5 else 0)
 else if K = 2 then (if zO x then 0 else 4)
 else if K = 3 then (if yO x then 0 else 4)
 else (if YX x then 0 else 4)
def yh (K : Nat) : Nat := if K = 2 then 1 else if K = 3 then 3 else 0
def ZT (K : Nat) (x : List UInt8) : Nat := if K = 2 then zn x else if K = 3 then quo (yE x) (10 ^ (zu x).length) else 0
def clB (K : Nat) (r : List UInt8) : Bool :=
 (decide (K = 2) || decide (K = 3)) && (match r with | [] => false | c :: _ => z7 c.toNat || decide (c.toNat = 46))
structure Tk where
 kind : Nat
 text : List UInt8
 place : Nat
 bits : Nat
 deriving DecidableEq
def Tk.cells (t : Tk) : List Value := [.int .i64 (t.kind : Int), .string ⟨t.text.toArray⟩, .int .i64 (t.place : Int), .int .u8 (yh t.kind : Nat), .int .u64 (t.bits : Nat)]
def Xn (K : Nat) (x : List UInt8) (p : Nat) : Tk := ⟨K, x, p, ZT K x⟩
structure Out where
 toks : List Tk
 err : Nat
 place : Nat
 deriving DecidableEq
def Out.ahead (acc : List Tk) (r : Out) : Out := if r.err = 0 then ⟨acc ++ r.toks, 0, 0⟩ else r
def ZR (l : List UInt8) : Nat -> Nat -> Out
 | 0, _ => ⟨[], 0, 0⟩
 | f + 1, p =>
  if l.length <= p then ⟨[], 0, 0⟩
  else
   let K := (zI (l.drop p)).1
   let n := (zI (l.drop p)).2
   let x := (l.drop p).take n
   if zG K x ≠ 0 then ⟨[], zG K x, p⟩
   else if clB K (l.drop (p + n)) = true then ⟨[], 4, p + n⟩
   else (ZR l f (p + n + skN (l.drop (p + n)))).ahead [Xn K x p]
def y9 (l : List UInt8) : Out := if 16384 < l.length then ⟨[], 3, 16384⟩ else ZR l (l.length + 1) (skN l)
theorem Out.ahead_nil (r : Out) (h : r.err = 0 -> r.place = 0) : r.ahead [] = r := by
 unfold Out.ahead
 split
 ·next h0 => cases r; simp at h0 h ⊢; exact ⟨h0.symm, (h h0).symm⟩
 ·rfl
theorem Out.ahead_ahead (a b : List Tk) (r : Out) : (r.ahead b).ahead a = r.ahead (a ++ b) := by
 unfold Out.ahead
 split
 ·simp
 ·rfl
theorem zd0 (b : Bool) (l : List UInt8) : skF b l <= l.length := by
 induction l generalizing b with
 | nil => cases b <;> simp [skF]
 | cons c r ih =>
  have h1 := ih true
  have h2 := ih false
  cases b <;> simp only [skF, VX] <;> split <;> (try split) <;> omega
theorem zaE (l : List UInt8) (f p : Nat) (h : l.length <= p) : ZR l f p = ⟨[], 0, 0⟩ := by
 cases f <;> simp [ZR, h]
theorem zaD (l : List UInt8) (f p : Nat) (h : p < l.length) (he : zG (zI (l.drop p)).1 ((l.drop p).take (zI (l.drop p)).2) ≠ 0) :
  ZR l (f + 1) p = ⟨[], zG (zI (l.drop p)).1 ((l.drop p).take (zI (l.drop p)).2), p⟩ := by
 simp only [ZR, show ¬ l.length <= p by omega, if_false, he, ne_eq, not_false_eq_true, if_true]
theorem JF (l : List UInt8) (f p : Nat) (h : p < l.length) (he : zG (zI (l.drop p)).1 ((l.drop p).take (zI (l.drop p)).2) = 0) (hc : clB (zI (l.drop p)).1 (l.drop (p + (zI (l.drop p)).2)) = true) :
  ZR l (f + 1) p = ⟨[], 4, p + (zI (l.drop p)).2⟩ := by
 simp only [ZR, show ¬ l.length <= p by omega, if_false, he, ne_eq, not_true_eq_false, hc, if_true]
theorem jw (l : List UInt8) (f p : Nat) (h : p < l.length) (he : zG (zI (l.drop p)).1 ((l.drop p).take (zI (l.drop p)).2) = 0) (hc : clB (zI (l.drop p)).1 (l.drop (p + (zI (l.drop p)).2)) = false) :
  ZR l (f + 1) p = (ZR l f (p + (zI (l.drop p)).2 + skN (l.drop (p + (zI (l.drop p)).2)))).ahead [Xn (zI (l.drop p)).1 ((l.drop p).take (zI (l.drop p)).2) p] := by
 simp only [ZR, show ¬ l.length <= p by omega, if_false, he, ne_eq, not_true_eq_false, hc]
 rfl
theorem zcs (l : List UInt8) : alN l <= l.length := by
 induction l with
 | nil => simp [alN]
 | cons c r ih => simp only [alN]; split <;> simp; omega
theorem KD (l : List UInt8) : dgN l <= l.length := by
 induction l with
 | nil => simp [dgN]
 | cons c r ih => simp only [dgN]; split <;> simp; omega
theorem zgv (l : List UInt8) : (nmN l).2 <= l.length := by
 induction l with
 | nil => simp [nmN]
 | cons c r ih => have := KD r; simp only [nmN]; split <;> (try split) <;> simp <;> omega
theorem zec (l : List UInt8) : (nmN l).1 = 2 \/ (nmN l).1 = 3 := by
 induction l with
 | nil => exact .inl rfl
 | cons d q ih => simp only [nmN]; split; exact .inr rfl; split; exact ih; exact .inl rfl
theorem Zv (l : List UInt8) (h : 0 < l.length) : 1 <= (zI l).2 /\ (zI l).2 <= l.length /\ ((zI l).1 = 1 \/ (zI l).1 = 2 \/ (zI l).1 = 3 \/ (zI l).1 = 4) := by
 match l, h with
 | c :: r, _ =>
  have h1 := zcs r
  have h2 := zgv r
  have h3 := zec r
  simp only [zI, VX]
  split
  ·simp; omega
  ·split
   ·refine ⟨by simp, by simp; omega, ?_⟩
    simp only []
    omega
   ·cases r with
    | nil => simp [sgN]
    | cons d q => simp only [sgN]; split <;> simp
