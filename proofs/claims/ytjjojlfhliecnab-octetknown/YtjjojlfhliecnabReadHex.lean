/- octet.ReadHex and the document's own ReadHex: the bytes of digits. -/
import Derived.Test.YtjjojlfhliecnabHex
namespace Go.Proofs.Ytjjojlfhliecnab
open Go.RowKit
set_option linter.unusedVariables false

/-- A digit's value; 16: it is none. -/
def dv (c : Nat) : Nat := if 48 ≤ c ∧ c ≤ 57 then c - 48 else if 97 ≤ c ∧ c ≤ 102 then c - 87 else 16

/-- The bytes whose digits these are; none: they are no digits of bytes. -/
def unhex : List UInt8 → Option (List UInt8)
  | [] => some []
  | [_] => none
  | x :: y :: l => if dv x.toNat < 16 ∧ dv y.toNat < 16 then (unhex l).map (ub (16 * dv x.toNat + dv y.toNat) :: ·) else none

theorem unhex_odd : ∀ (f : Nat) (l : List UInt8), l.length ≤ f → l.length % 2 = 1 → unhex l = none := by
  intro f
  induction f with
  | zero => intro l h h1; omega
  | succ f ih =>
    intro l h h1
    match l with
    | [] => simp at h1
    | [_] => rfl
    | x :: y :: l =>
      simp only [unhex]
      split
      · rw [ih l (by simp at h; omega) (by simp at h1; omega)]; rfl
      · rfl

theorem idx16_nat : ∀ c : Nat, c < 256 → Lib.indexByte (({ data := #[48, 49, 50, 51, 52, 53, 54, 55, 56, 57, 97, 98, 99, 100, 101, 102] } : ByteArray)).data.toList ((c : Int).toNat.toUInt8) = if dv c < 16 then (dv c : Int) else -1 := by decide +kernel

theorem idx16_yes (c : Nat) (hc : c < 256) (h : dv c < 16) (w : World) :
    Calls Try.prog 19 #[.string ({ data := #[48, 49, 50, 51, 52, 53, 54, 55, 56, 57, 97, 98, 99, 100, 101, 102] } : ByteArray), .int .u8 (c : Int)] w fun e w' => e = .returned (.int .i64 (dv c : Int)) ∧ w' = w := by
  have h' := indexByte_any ({ data := #[48, 49, 50, 51, 52, 53, 54, 55, 56, 57, 97, 98, 99, 100, 101, 102] } : ByteArray) (c : Int) w
  rw [idx16_nat c hc, if_pos h] at h'
  exact h'

theorem idx16_no (c : Nat) (hc : c < 256) (h : ¬ dv c < 16) (w : World) :
    Calls Try.prog 19 #[.string ({ data := #[48, 49, 50, 51, 52, 53, 54, 55, 56, 57, 97, 98, 99, 100, 101, 102] } : ByteArray), .int .u8 (c : Int)] w fun e w' => e = .returned (.int .i64 (-1)) ∧ w' = w := by
  have h' := indexByte_any ({ data := #[48, 49, 50, 51, 52, 53, 54, 55, 56, 57, 97, 98, 99, 100, 101, 102] } : ByteArray) (c : Int) w
  rw [idx16_nat c hc, if_neg h] at h'
  exact h'

/-- A digit's value as Go has it. -/
def dvI (c : Nat) : Int := if dv c < 16 then (dv c : Int) else -1

theorem idx16_any (c : Nat) (hc : c < 256) (d : Int) (h : Hid (d = dvI c)) (w : World) :
    Calls Try.prog 19 #[.string ({ data := #[48, 49, 50, 51, 52, 53, 54, 55, 56, 57, 97, 98, 99, 100, 101, 102] } : ByteArray), .int .u8 (c : Int)] w fun e w' => e = .returned (.int .i64 d) ∧ w' = w := by
  rw [h.out, dvI]
  split
  · exact idx16_yes c hc ‹_› w
  · exact idx16_no c hc ‹_› w

theorem or16 : ∀ x y : Nat, x < 16 → y < 16 → x * 16 ||| y = 16 * x + y := by
  intro x y hx hy
  rw [nat_join 4 (x * 16) y (by omega) hy]
  omega

theorem or16i (x y : Nat) (hx : x < 16) (hy : y < 16) : bits .or .i64 ((x : Int) * 16) (y : Int) = ((16 * x + y : Nat) : Int) := by
  have h := bits_nat .i64 63 (by decide) (fun n h0 h1 => by rw [IntKind.wrap_i64]; omega) (x * 16) y (by omega) (by omega)
  have e : (x : Int) * 16 = ((x * 16 : Nat) : Int) := by omega
  rw [e, h.2, or16 x y hx hy]

theorem drewN_below0 (w : World) (q B : Nat) : Below B w (w.drewN q) := ⟨rfl, rfl, rfl, Nat.le_refl _, fun _ _ => rfl⟩

theorem own_drewN {base : Nat} {w : World} {v : Value} {out : List UInt8} (h : Own base w v out) (n : Nat) : Own base (w.drewN n) v out := h

theorem unhex_step (r : ByteArray) (h : 1 < r.size) : unhex (bytes r) = if dv (r[0]'(by omega)).toNat < 16 ∧ dv (r[1]'h).toNat < 16 then (unhex ((bytes r).drop 2)).map (ub (16 * dv (r[0]'(by omega)).toNat + dv (r[1]'h).toNat) :: ·) else none := by
  have e0 := bytes_at r 0 (by omega)
  have e1 := bytes_at r 1 h
  have hl := bytes_length r
  match hb : bytes r with
  | [] => rw [hb] at hl; simp at hl; omega
  | [_] => rw [hb] at hl; simp at hl; omega
  | x :: y :: l =>
    rw [hb] at e0 e1
    simp [List.getD] at e0 e1
    rw [unhex, ← e0, ← e1]
    rfl

theorem extract_two (r : ByteArray) : bytes (r.extract 2 r.size) = (bytes r).drop 2 := by
  rw [bytes, Lib.extract_data, List.take_of_length_le]
  · rfl
  · simp

set_option maxRecDepth 100000 in
set_option maxHeartbeats 1600000 in
theorem readHex_any (s : ByteArray) (w : World) (hs : s.size ≤ 268435456) :
    Calls Try.prog 8 #[.string s] w fun e w' => (∃ bs v, unhex (bytes s) = some bs ∧ e = .returned (.tuple #[v, .int .i64 0]) ∧ Own w.heap.size w' v bs ∧ Below w.heap.size w w') ∨ (unhex (bytes s) = none ∧ e = .returned (.tuple #[.slice none 0 0, .int .i64 4]) ∧ Below w.heap.size w w') := by
  by_cases hodd : s.size % 2 = 1
  · have ho : ((s.size : Int) % 2 != 0) = true := by rw [bne_iff_ne]; omega
    have HU : Hid (unhex (bytes s) = none) := unhex_odd _ _ (Nat.le_refl _) (by rw [bytes_length]; exact hodd)
    clear hodd
    go_enter Try.func8, Try.ntmps8
    go_wp2
    go_ret2
    exact .inr ⟨HU.out, rfl, Below.refl _ _⟩
  have ho : ((s.size : Int) % 2 != 0) = false := by rw [bne_eq_false_iff_eq]; omega
  go_enter Try.func8, Try.ntmps8
  go_wp2
  go_loopw [4, 5] (fun v t wr => ∃ (out : List UInt8) (r : ByteArray), t = .string r ∧ r.size % 2 = 0 ∧ r.size + 2 * out.length = s.size ∧ Hid ((unhex (bytes r)).map (out ++ ·) = unhex (bytes s)) ∧ Own w.heap.size wr v out ∧ Below w.heap.size w wr) (fun _ t _ => strLen t)
  case atStart => exact ⟨[], s, rfl, by omega, by simp, (by show _ = _; cases unhex (bytes s) <;> simp), Own.nil _ _, Below.refl _ _⟩
  case round =>
    obtain ⟨out, r, rfl, hr2, hrl, hu, hown, hbel⟩ := hrel
    have hsz := hbel.size
    by_cases hr0 : r.size = 0
    · have hrem := is_empty hr0
      have HU : Hid (unhex (bytes s) = some out) := by
        show _ = _
        rw [← hu.out]
        have : bytes r = [] := List.eq_nil_of_length_eq_zero (by rw [bytes_length]; exact hr0)
        rw [this]
        simp [unhex]
      clear hr0 hu
      go_wp2
      go_ret2
      exact .inl ⟨out, _, HU.out, rfl, hown, hbel⟩
    · have hrp : 0 < r.size := by omega
      have hrp1 : 1 < r.size := by omega
      have hrne := not_empty hrp
      have i1 : (0 : Int) < (r.size : Int) := by omega
      have i2 : (1 : Int) < (r.size : Int) := by omega
      obtain ⟨c, hc⟩ : ∃ c : Nat, r[0].toNat = c := ⟨_, rfl⟩
      obtain ⟨d, hd⟩ : ∃ d : Nat, r[1].toNat = d := ⟨_, rfl⟩
      have hcl : c < 256 := by rw [← hc]; exact UInt8.toNat_lt _
      have hdl : d < 256 := by rw [← hd]; exact UInt8.toNat_lt _
      obtain ⟨x, hx⟩ : ∃ x : Int, x = dvI c := ⟨_, rfl⟩
      obtain ⟨y, hy⟩ : ∃ y : Int, y = dvI d := ⟨_, rfl⟩
      have HX : Hid (x = dvI c) := hx
      have HY : Hid (y = dvI d) := hy
      clear hx hy
      go_wp2
      go_quiet (first | (go_at_call_of 19 (Value.int IntKind.u8 (c : Int)); exact Calls.quiet_of_same (idx16_any c hcl x HX _)) | (go_at_call_of 19 (Value.int IntKind.u8 (d : Int)); exact Calls.quiet_of_same (idx16_any d hdl y HY _)))
      by_cases hx16 : dv c < 16
      · by_cases hy16 : dv d < 16
        · obtain ⟨X, hX⟩ : ∃ X, X = dv c := ⟨_, rfl⟩
          obtain ⟨Y, hY⟩ : ∃ Y, Y = dv d := ⟨_, rfl⟩
          have ex : x = (X : Int) := by rw [HX.out, hX, dvI, if_pos hx16]
          have ey : y = (Y : Int) := by rw [HY.out, hY, dvI, if_pos hy16]
          have hX16 : X < 16 := by rw [hX]; exact hx16
          have hY16 : Y < 16 := by rw [hY]; exact hy16
          have HU : Hid ((unhex (bytes (r.extract 2 r.size))).map ((out ++ [ub (16 * X + Y)]) ++ ·) = unhex (bytes s)) := by
            show _ = _
            rw [← hu.out, unhex_step r hrp1, if_pos (by rw [hc, hd]; exact ⟨hx16, hy16⟩), extract_two, hc, hd, ← hX, ← hY]
            cases unhex ((bytes r).drop 2) <;> simp
          have hxs : (r.extract 2 r.size).size = r.size - 2 := by rw [← bytes_length, extract_two, List.length_drop, bytes_length]
          have hor := or16i X Y hX16 hY16
          clear HX HY hX hY hx16 hy16 hu
          subst ex ey
          go_wp2_with (at_builtin; refine app1n (.tmp 29) (.tmp 35) _ (16 * X + Y) w.heap.size _ out rfl rfl rfl rfl (own_drewN hown nq) (by omega) (by omega) (by omega) hsz ?_)
          intro v' w1 hown' hbel'
          have hb1 := hbel.trans ((drewN_below0 wr nq w.heap.size).trans hbel')
          clear hown hbel hbel'
          go_wp2
          go_roundw
          case rel => exact ⟨_, r.extract 2 r.size, rfl, by rw [hxs]; omega, by rw [hxs]; simp; omega, HU, hown', hb1⟩
          case measure => simp only [strLen]; rw [hxs]; omega
        · obtain ⟨X, hX⟩ : ∃ X, X = dv c := ⟨_, rfl⟩
          have ex : x = (X : Int) := by rw [HX.out, hX, dvI, if_pos hx16]
          have ey : y = -1 := by rw [HY.out, dvI, if_neg hy16]
          have HU : Hid (unhex (bytes s) = none) := by
            show _ = _
            rw [← hu.out, unhex_step r hrp1, if_neg (by rw [hc, hd]; exact fun h => hy16 h.2)]
            rfl
          have hX0 : decide ((X : Int) < 0) = false := by simp
          clear HX HY hX hx16 hy16 hu
          subst ex ey
          go_wp2
          go_ret2
          exact .inr ⟨HU.out, rfl, hbel.trans (drewN_below0 wr nq w.heap.size)⟩
      · have ex : x = -1 := by rw [HX.out, dvI, if_neg hx16]
        have HU : Hid (unhex (bytes s) = none) := by
          show _ = _
          rw [← hu.out, unhex_step r hrp1, if_neg (by rw [hc, hd]; exact fun h => hx16 h.1)]
          rfl
        clear HX HY hx16 hu
        subst ex
        go_wp2
        go_ret2
        exact .inr ⟨HU.out, rfl, hbel.trans (drewN_below0 wr nq w.heap.size)⟩

theorem unhex_drop (s : ByteArray) (k : Nat) (h : k + 1 < s.size) : unhex ((bytes s).drop k) = if dv (s[k]'(by omega)).toNat < 16 ∧ dv (s[k + 1]'h).toNat < 16 then (unhex ((bytes s).drop (k + 2))).map (ub (16 * dv (s[k]'(by omega)).toNat + dv (s[k + 1]'h).toNat) :: ·) else none := by
  have hl := bytes_length s
  have e0 := bytes_at s k (by omega)
  have e1 := bytes_at s (k + 1) h
  have d1 : (bytes s).drop k = (bytes s).getD k 0 :: (bytes s).getD (k + 1) 0 :: (bytes s).drop (k + 2) := by
    rw [List.drop_eq_getElem_cons (show k < (bytes s).length by omega), List.drop_eq_getElem_cons (show k + 1 < (bytes s).length by omega)]
    simp [List.getD, List.getElem?_eq_getElem (show k < (bytes s).length by omega), List.getElem?_eq_getElem (show k + 1 < (bytes s).length by omega)]
  rw [d1, unhex, e0, e1]

end Go.Proofs.Ytjjojlfhliecnab
