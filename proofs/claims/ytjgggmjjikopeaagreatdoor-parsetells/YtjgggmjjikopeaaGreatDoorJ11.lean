/- J -/
import Derived.Test.YtjgggmjjikopeaaGreatDoorJ9
import Derived.Test.YtjgggmjjikopeaaGreatDoorJ10
set_option linter.unusedVariables false
set_option maxRecDepth 100000
set_option maxHeartbeats 6400000
open Go.RowKit
namespace Go.Proofs.YtjgggmjjikopeaaGreatDoor
def fa2 (e p : Nat) : List Value := [.int .i64 (e : Int), .int .i64 (p : Int)]
theorem z25 : (Tryz.prog.info? 29).map (fun i => (i.zero, i.size)) = some (some (.agg (fa2 0 0).toArray), 2) := by kernel_rfl
theorem i25 : (Tryz.prog.info? 29).map (·.size) = some 2 := by kernel_rfl
theorem yq (e p : Nat) : ∀ v ∈ fa2 e p, v.oneCell' = true := by intro v hv; simp [fa2] at hv; rcases hv with rfl | rfl <;> rfl
theorem Vn (l : List UInt8) (f p : Nat) : (ZR l f p).err = 0 -> (ZR l f p).place = 0 := by
 induction f generalizing p with
 | zero => intro _; rfl
 | succ f ih =>
  simp only [ZR]
  split
  ·intro _; rfl
  ·split
   ·next h => intro h0; exact absurd h0 h
   ·split
    ·intro h0; simp at h0
    ·intro h0
     simp only [Out.ahead] at h0 ⊢
     split
     ·rfl
     ·next h => rw [ze h] at h0; exact absurd h0 h
def Y6 (w : World) (O : Out) (e : Ending) (w' : World) : Prop :=
 ∃ v, e = .returned (.tuple #[v, .agg (fa2 O.err O.place).toArray]) /\ Toks w.heap.size w' v O.toks /\ Below w.heap.size w w'
theorem zdn (K : Nat) (s : ByteArray) (k : Nat) (w : World) (b : Bool) (hb : clB K ((bytes s).drop k) = b) : Calls Tryz.prog 53 #[.int .i64 (K : Int), .string (s.extract k s.size)] w fun e w' => e = .returned (.bool b) /\ w' = w := by
 have := zbI K (s.extract k s.size) w
 rw [VA, hb] at this
 exact this
theorem Vz (K : Nat) (s : ByteArray) (k n : Nat) : zm K (s.extract k (k + n)) k (yh K) (ZT K (((bytes s).drop k).take n)) = (Xn K (((bytes s).drop k).take n) k).cells := by
 have hbS : bytes (s.extract k (k + n)) = ((bytes s).drop k).take n := by rw [yp, XP]
 have := yv (s.extract k (k + n))
 rw [hbS] at this
 simp only [zm, Xn, Tk.cells, this]
theorem zfA (s : ByteArray) (w : World) (hmax : s.size <= 9223372036854775807) (hE : ErrR w) :
  Calls Tryz.prog 22 #[.string s] w fun e w' => Y6 w (y9 (bytes s)) e w' := by
 by_cases hlong : 16384 < s.size
 ·have hO : y9 (bytes s) = ⟨[], 3, 16384⟩ := by simp only [y9, zc, hlong, if_true]
  rw [hO]
  go_enter Tryz.func22, Tryz.ntmps22
  go_wp2_with (first | (refine zD rfl rfl z25 ?_; intro w1 hA1 hb1 hs1) | (refine zF rfl rfl (fa2 3 16384) ?_) | (refine zl rfl rfl hA1 (fa2 3 16384) rfl rfl i25 rfl (yq _ _) ?_; intro w9 hA9 hb9 hs9))
  refine zr (y7 rfl _ _ w.heap.size 29 (fa2 3 16384) _ rfl hA9 Tryz.underlying29 rfl i25) rfl ?_
  exact ⟨_, rfl, Toks.nil _ _, hb9.below hb1 (zj _) (by omega)⟩
 ·obtain ⟨O, hO⟩ : ∃ O, Hid (O = y9 (bytes s)) := ⟨_, (rfl : y9 (bytes s) = _)⟩
  have hO2 : Hid (O = ZR (bytes s) (s.size + 1) (skN (bytes s))) := by show _ = _; rw [hO.out, y9, zc, ze hlong]
  rw [<- hO.out]
  have hsk := zd0 false (bytes s)
  rw [zc] at hsk
  have hs16 : s.size <= 16384 := by omega
  have hskip0 := fun w => qY s 0 w (by omega) (by omega)
  rw [List.drop_zero, Nat.zero_add] at hskip0
  obtain ⟨p0, hp0⟩ : ∃ p0, Hid (p0 = skN (bytes s)) := ⟨_, (rfl : skN (bytes s) = _)⟩
  have hp0le : p0 <= s.size := by rw [hp0.out]; exact hsk
  rw [<- hp0.out] at hskip0
  have HSK0 : Hid (∀ w, Calls Tryz.prog 51 #[.string s, .int .i64 0] w fun e w' => e = .returned (.int .i64 (p0 : Int)) /\ w' = w) := hskip0
  clear hskip0 hsk
  go_enter Tryz.func22, Tryz.ntmps22
  go_wp2_with (first | (refine zD rfl rfl z25 ?_; intro w1 hA1 hb1 hs1))
  refine (HSK0.out _).mono ?_
  rintro e w1' ⟨rfl, hw1⟩
  rw [hw1]
  clear hw1
  have hE1 : ErrR w1 := hE.below hb1
  go_wp2
  go_loopw [4, 5] (fun v p wr => ∃ (i f : Nat) (acc : List Tk), p = .int .i64 (i : Int) /\ i <= s.size /\ s.size < f + i /\ acc.length <= i /\ Hid ((ZR (bytes s) f i).ahead acc = O) /\ Toks w1.heap.size wr v acc /\ Below w1.heap.size w1 wr) (fun _ p _ => s.size - (intOf p).toNat)
  case atStart => exact ⟨p0, s.size + 1, [], rfl, hp0le, by omega, by simp, by
   show _ = _
   rw [hO2.out, <- hp0.out]
   refine Out.ahead_nil _ ?_
   exact Vn _ _ _, Toks.nil _ _, Below.refl _ _⟩
  case round =>
   obtain ⟨i, f, acc, rfl, hi, hf, hal, hr, hown, hbl⟩ := hrel
   have hEr : ErrR wr := hE1.below hbl
   have hAr : At 29 wr w.heap.size (fa2 0 0) := by
    unfold At; rw [hbl.block w.heap.size (by omega)]; exact hA1
   have hbw : Below w.heap.size w wr := hb1.trans (hbl.mono (by omega))
   by_cases hc : i < s.size
   ·obtain ⟨f', rfl⟩ : ∃ f', f = f' + 1 := ⟨f - 1, by omega⟩
    obtain ⟨K, n, hKn⟩ : ∃ K n, zI ((bytes s).drop i) = (K, n) := ⟨_, _, rfl⟩
    have hbd := Zv ((bytes s).drop i) (by rw [yC, zc]; omega)
    rw [hKn, yC, zc] at hbd
    obtain ⟨hn1, hn2, hKs⟩ := hbd
    simp only [] at hn1 hn2
    clear hKs
    have hle : i + n <= s.size := by omega
    have hlA := zaD (bytes s) f' i (by rw [zc]; exact hc)
    have hlC := JF (bytes s) f' i (by rw [zc]; exact hc)
    have hlS := jw (bytes s) f' i (by rw [zc]; exact hc)
    rw [hKn] at hlA hlC hlS
    simp only [] at hlA hlC hlS
    have htok := qR s i K n wr hc (by omega) hEr hKn
    unfold J5 at htok
    rw [Vz] at htok
    have hcl := zdn K s (i + n)
    have hx5 := Vz K s i n
    obtain ⟨S, hS⟩ : ∃ S, Hid (S = s.extract i (i + n)) := ⟨_, (rfl : s.extract i (i + n) = _)⟩
    have hSz : S.size = n := by rw [hS.out, <- zc, yp, XP, Yj, yC, zc]; omega
    obtain ⟨x, hx⟩ : ∃ x, Hid (x = ((bytes s).drop i).take n) := ⟨_, (rfl : ((bytes s).drop i).take n = _)⟩
    rw [<- hx.out] at hlA hlC hlS htok hx5
    rw [<- hS.out] at hx5
    have HX5 : Hid ((Xn K x i).cells = zm K S i (yh K) (ZT K x)) := hx5.symm
    clear hx5 hKn
    by_cases he : zG K x = 0
    ·rw [zi he, he, HX5.out] at htok
     obtain ⟨T, hT⟩ : ∃ T, Hid (T = yh K) := ⟨_, (rfl : yh K = _)⟩
     obtain ⟨V, hV⟩ : ∃ V, Hid (V = ZT K x) := ⟨_, (rfl : ZT K x = _)⟩
     rw [<- hT.out, <- hV.out] at htok
     have HX6 : Hid ((Xn K x i).cells = zm K S i T V) := by show _ = _; rw [HX5.out, hT.out, hV.out]
     have HTOK : Hid (Calls Tryz.prog 52 #[.string s, .int .i64 (i : Int)] wr fun e w' => e = .returned (.tuple #[.agg (zm K S i T V).toArray, .int .i64 ((0 : Nat) : Int)]) /\ Below wr.heap.size wr w') := htok
     clear htok hlA
     cases hcb : clB K ((bytes s).drop (i + n))
     ·have HO : Hid (O = (ZR (bytes s) f' (i + n + skN ((bytes s).drop (i + n)))).ahead (acc ++ [Xn K x i])) := by
       show _ = _
       rw [<- hr.out, hlS he hcb, Out.ahead_ahead]
      have HCL : Hid (∀ w, Calls Tryz.prog 53 #[.int .i64 (K : Int), .string (s.extract (i + n) s.size)] w fun e w' => e = .returned (.bool false) /\ w' = w) := fun w => hcl w false hcb
      have hskle := zd0 false ((bytes s).drop (i + n))
      rw [yC, zc] at hskle
      have hskc := fun w => qY s (i + n) w hle (by omega)
      obtain ⟨q0, hq0⟩ : ∃ q0, Hid (q0 = skN ((bytes s).drop (i + n))) := ⟨_, (rfl : skN ((bytes s).drop (i + n)) = _)⟩
      have hq0le : q0 <= s.size - (i + n) := by rw [hq0.out]; exact hskle
      rw [<- hq0.out] at hskc
      have HSKC : Hid (∀ w, Calls Tryz.prog 51 #[.string s, .int .i64 ((i + n : Nat) : Int)] w fun e w' => e = .returned (.int .i64 ((i + n + q0 : Nat) : Int)) /\ w' = w) := hskc
      have HO2 : Hid (O = (ZR (bytes s) f' (i + n + q0)).ahead (acc ++ [Xn K x i])) := by show _ = _; rw [HO.out, hq0.out]
      clear hskc hskle hcl hlC hlS hcb HO hr he
      go_wp2_with fail
      refine (HTOK.out).mono ?_
      rintro e wA ⟨rfl, hbA⟩
      go_wp2_with (first | (refine zD rfl rfl z34 ?_; intro wB hAB hbB hsB) | (refine zl rfl rfl hAB (zm K S i T V) rfl rfl i34 rfl (yo _ _ _ _ _) ?_; intro wC hAC hbC hsC; refine zb ?_))
      refine Lib.hid ?_
      have hbCw : Below wr.heap.size wr wC := hbC.below (hbA.trans (hbB.mono hbA.size)) hbA.size (by have := hbA.size; omega)
      have hownC := hown.below hbCw
      have hcell0 : wC.cell? ⟨wA.heap.size, 0, none⟩ = some (.int .i64 (K : Int)) := by rw [hAC.cell]; rfl
      have hcell1 : wC.cell? ⟨wA.heap.size, 1, none⟩ = some (.string S) := by rw [hAC.cell]; rfl
      have hbl2 : Below w1.heap.size w1 wC := hbl.trans (hbCw.mono hbl.size)
      clear hAB hbB hbC hbA hbCw
      go_wp2_with fail
      go_quiet (first | (go_at_call 53; exact Calls.quiet_of_same (HCL.out _)))
      have hszC : w1.heap.size <= wC.heap.size := hbl2.size
      go_wp2_with (first | (refine lL rfl rfl (hAC.drewN _) rfl Tryz.underlying64 rfl i34 ?_) | (refine Y7 rfl (.tmp 46) rfl K S i T V rfl ?_; intro wD hAD hbD hsD) | (refine Jp rfl (.tmp 45) (.tmp 47) rfl w1.heap.size wC.heap.size _ acc (Xn K x i) rfl rfl ((show Toks w1.heap.size (wC.drewN _) u4 acc from hownC).below hbD) (by rw [HX6.out]; exact hAD) (by omega) (by have := hbD.size; exact zQ hszC this) ?_; intro v' wE hownE hbE; refine zb ?_))
      refine Lib.hid ?_
      have hbE2 : Below w1.heap.size w1 wE := (hbl2.trans (show Below w1.heap.size wC wD from ⟨hbD.os, hbD.tape, hbD.output, hbD.size, fun k hk => hbD.block k (Zy hk hszC)⟩)).trans hbE
      clear hAD hbD hbE hAC hbl2 hownC
      go_wp2_with (first | (go_at_call 51; refine (HSKC.out _).mono ?_; rintro e wF ⟨rfl, rfl⟩))
      go_roundw
      case rel => exact ⟨i + n + q0, f', acc ++ [Xn K x i], rfl, by omega, by omega, by simp; omega, HO2.out.symm, hownE, hbE2⟩
      case measure => simp [intOf]; omega
     ·have HO : Hid (O = ⟨[], 4, i + n⟩) := by
       show _ = _
       rw [<- hr.out, hlC he hcb]
       rfl
      have HCL : Hid (∀ w, Calls Tryz.prog 53 #[.int .i64 (K : Int), .string (s.extract (i + n) s.size)] w fun e w' => e = .returned (.bool true) /\ w' = w) := fun w => hcl w true hcb
      clear hcl hlC hlS hcb hr he
      go_wp2_with fail
      refine (HTOK.out).mono ?_
      rintro e wA ⟨rfl, hbA⟩
      go_wp2_with (first | (refine zD rfl rfl z34 ?_; intro wB hAB hbB hsB) | (refine zl rfl rfl hAB (zm K S i T V) rfl rfl i34 rfl (yo _ _ _ _ _) ?_; intro wC hAC hbC hsC; refine zb ?_))
      refine Lib.hid ?_
      have hbCw : Below wr.heap.size wr wC := hbC.below (hbA.trans (hbB.mono hbA.size)) hbA.size (by have := hbA.size; omega)
      have hcell0 : wC.cell? ⟨wA.heap.size, 0, none⟩ = some (.int .i64 (K : Int)) := by rw [hAC.cell]; rfl
      have hcell1 : wC.cell? ⟨wA.heap.size, 1, none⟩ = some (.string S) := by rw [hAC.cell]; rfl
      have hArC := hAr.below hbCw
      have hbwC := hbw.trans (hbCw.mono hbw.size)
      clear hAB hbB hbC hbA hbCw
      go_wp2_with fail
      go_quiet (first | (go_at_call 53; exact Calls.quiet_of_same (HCL.out _)))
      go_wp2_with (first | (refine zF rfl rfl (fa2 4 (i + n)) ?_) | (refine zl rfl rfl (hArC.drewN _) (fa2 4 (i + n)) rfl rfl i25 rfl (yq _ _) ?_; intro w9 hA9 hb9 hs9))
      refine zr (y7 rfl _ _ w.heap.size 29 (fa2 4 (i + n)) _ rfl hA9 Tryz.underlying29 rfl i25) rfl ?_
      exact ⟨_, by rw [HO.out], by rw [HO.out]; exact Toks.nil _ _, (show But w.heap.size wC w9 from ⟨hb9.os, hb9.tape, hb9.output, hb9.size, hb9.block⟩).below hbwC (zj _) hbwC.size⟩
    ·have HO : Hid (O = ⟨[], zG K x, i⟩) := by
      show _ = _
      rw [<- hr.out, hlA he, Out.ahead, ze he]
     obtain ⟨E, hEE⟩ : ∃ E, Hid (E = zG K x) := ⟨_, (rfl : zG K x = _)⟩
     rw [ze he] at htok
     rw [<- hEE.out] at htok he
     have HO2 : Hid (O = ⟨[], E, i⟩) := by show _ = _; rw [HO.out, hEE.out]
     have HTOK : Hid (Calls Tryz.prog 52 #[.string s, .int .i64 (i : Int)] wr fun e w' => e = .returned (.tuple #[.agg (zm 0 ⟨#[]⟩ 0 0 0).toArray, .int .i64 (E : Int)]) /\ Below wr.heap.size wr w') := htok
     have hne : ((E : Int) != 0) = true := by simp; omega
     clear htok hlA hlC hlS hcl hr HO
     go_wp2_with fail
     refine (HTOK.out).mono ?_
     rintro e wA ⟨rfl, hbA⟩
     go_wp2_with (first | (refine zD rfl rfl z34 ?_; intro wB hAB hbB hsB) | (refine zl rfl rfl hAB (zm 0 ⟨#[]⟩ 0 0 0) rfl rfl i34 rfl (yo _ _ _ _ _) ?_; intro wC hAC hbC hsC; refine zb ?_))
     refine Lib.hid ?_
     have hbCw : Below wr.heap.size wr wC := hbC.below (hbA.trans (hbB.mono hbA.size)) hbA.size (by have := hbA.size; omega)
     have hArC := hAr.below hbCw
     have hbwC := hbw.trans (hbCw.mono hbw.size)
     clear hAB hbB hbC hbA hbCw
     go_wp2_with (first | (refine zF rfl rfl (fa2 E i) ?_) | (refine zl rfl rfl hArC (fa2 E i) rfl rfl i25 rfl (yq _ _) ?_; intro w9 hA9 hb9 hs9))
     refine zr (y7 rfl _ _ w.heap.size 29 (fa2 E i) _ rfl hA9 Tryz.underlying29 rfl i25) rfl ?_
     exact ⟨_, by rw [HO2.out], by rw [HO2.out]; exact Toks.nil _ _, hb9.below hbwC (zj _) hbwC.size⟩
   ·have hend : Hid (O = ⟨acc, 0, 0⟩) := by
     show _ = _
     rw [<- hr.out, zaE _ _ _ (by rw [zc]; omega)]
     simp [Out.ahead]
    go_wp2_with (first | (refine zF rfl rfl (fa2 0 0) ?_) | (refine zl rfl rfl hAr (fa2 0 0) rfl rfl i25 rfl (yq _ _) ?_; intro w9 hA9 hb9 hs9))
    refine zr (y7 rfl _ _ w.heap.size 29 (fa2 0 0) _ rfl hA9 Tryz.underlying29 rfl i25) rfl ?_
    refine ⟨_, by rw [hend.out], by rw [hend.out]; exact Toks.low (base := w1.heap.size) (hown.keep fun g hg hlt => hb9.block g hlt (by have := hown.block g hg; omega)) (by omega), hb9.below hbw (zj _) hbw.size⟩
theorem zdp (n : Nat) (w : World) : Calls Tryz.prog 61 #[.int .u8 (n : Int)] w fun e w' => e = .returned (.bool (Jh n)) /\ w' = w := by
 go_enter Tryz.func61, Tryz.ntmps61
 go_wp2
 all_goals
  go_ret
  refine ⟨?_, rfl⟩
  simp [Jh]
  try (rw [Bool.eq_iff_iff]; simp)
  try omega
theorem KJ (n : Nat) (w : World) (b : Bool) (hb : Jh n = b) : Calls Tryz.prog 61 #[.int .u8 (n : Int)] w fun e w' => e = .returned (.bool b) /\ w' = w := by subst hb; exact zdp n w
theorem ZA (n : Nat) (w : World) (b : Bool) (hb : zY n = b) : Calls Tryz.prog 97 #[.int .u8 (n : Int)] w fun e w' => e = .returned (.bool b) /\ w' = w := by subst hb; exact zbH n w
theorem yS (n : Nat) (w : World) (b : Bool) (hb : z7 n = b) : Calls Tryz.prog 99 #[.int .u8 (n : Int)] w fun e w' => e = .returned (.bool b) /\ w' = w := by subst hb; exact Vo n w
def ruN (b : Bool) (l : List UInt8) : Nat := if b then alN l else dgN l
theorem zb5 (s : ByteArray) (b : Bool) (j : Nat) (h : j < s.size) (hc : (zY s[j].toNat || (b && z7 s[j].toNat)) = true) : ruN b ((bytes s).drop j) = ruN b ((bytes s).drop (j + 1)) + 1 := by
 cases b
 ·simp only [Bool.false_and, Bool.or_false] at hc
  exact Xv s j h hc
 ·simp only [Bool.true_and] at hc
  exact J4 s j h (by rw [Bool.or_comm]; exact hc)
theorem zd2 (s : ByteArray) (b : Bool) (j : Nat) (h : j < s.size) (hc : (zY s[j].toNat || (b && z7 s[j].toNat)) = false) : ruN b ((bytes s).drop j) = 0 := by
 cases b
 ·simp only [Bool.false_and, Bool.or_false] at hc
  exact zeK s j h hc
 ·simp only [Bool.true_and] at hc
  exact zeX s j h (by rw [Bool.or_comm]; exact hc)
theorem zfk (s : ByteArray) (b : Bool) (j : Nat) (h : ¬ j < s.size) : ruN b ((bytes s).drop j) = 0 := by
 cases b
 ·exact zcj s j h
 ·exact zct s j h
theorem X7 (s : ByteArray) (k : Nat) (b : Bool) (w : World) (hk : k <= s.size) (hs : s.size <= 1099511627776) :
  Calls Tryz.prog 100 #[.string s, .int .i64 (k : Int), .bool b] w fun e w' => e = .returned (.int .i64 ((k + ruN b ((bytes s).drop k) : Nat) : Int)) /\ w' = w := by
 obtain ⟨T, hT⟩ : ∃ T, Hid (T = k + ruN b ((bytes s).drop k)) := ⟨_, (rfl : k + ruN b ((bytes s).drop k) = _)⟩
 rw [<- hT.out]
 go_enter Tryz.func100, Tryz.ntmps100
 go_wp2
 go_loopw [1] (fun j wr => ∃ i : Nat, j = .int .i64 (i : Int) /\ i <= s.size /\ Hid (i + ruN b ((bytes s).drop i) = T) /\ wr = w) (fun j _ => s.size - (intOf j).toNat)
 case atStart => exact ⟨k, rfl, hk, hT.out.symm, rfl⟩
 case round =>
  obtain ⟨i, rfl, hi, hr, rfl⟩ := hrel
  by_cases hc : i < s.size
  ·cases a2 : zY s[i].toNat
   ·cases b with
    | false =>
     have hN := zd2 s false i hc (by rw [a2]; rfl)
     have hfin : Hid (i = T) := by show _ = _; have := hr.out; omega
     clear hN
     go_wp2_with (first | (go_at_call 97; refine (ZA _ _ false a2).mono ?_; rintro e w2 ⟨rfl, rfl⟩))
     go_ret
     exact ⟨by rw [<- hfin.out]; rfl, rfl⟩
    | true =>
     cases a1 : z7 s[i].toNat
     ·have hN := zd2 s true i hc (by rw [a1, a2]; rfl)
      have hfin : Hid (i = T) := by show _ = _; have := hr.out; omega
      clear hN
      go_wp2_with (first | (go_at_call 97; refine (ZA _ _ false a2).mono ?_; rintro e w2 ⟨rfl, rfl⟩) | (go_at_call 99; refine (yS _ _ false a1).mono ?_; rintro e w2 ⟨rfl, rfl⟩))
      go_ret
      exact ⟨by rw [<- hfin.out]; rfl, rfl⟩
     ·have hN := zb5 s true i hc (by rw [a1, a2]; rfl)
      have hr' : Hid (i + 1 + ruN true ((bytes s).drop (i + 1)) = T) := by show _ = _; have := hr.out; omega
      clear hN hr
      go_wp2_with (first | (go_at_call 97; refine (ZA _ _ false a2).mono ?_; rintro e w2 ⟨rfl, rfl⟩) | (go_at_call 99; refine (yS _ _ true a1).mono ?_; rintro e w2 ⟨rfl, rfl⟩))
      go_roundw
      case rel => exact ⟨i + 1, by go_num, by omega, hr', trivial⟩
      case measure => simp [intOf]; omega
   ·have hN := zb5 s b i hc (by rw [a2]; rfl)
    have hr' : Hid (i + 1 + ruN b ((bytes s).drop (i + 1)) = T) := by show _ = _; have := hr.out; omega
    clear hN hr
    go_wp2_with (first | (go_at_call 97; refine (ZA _ _ true a2).mono ?_; rintro e w2 ⟨rfl, rfl⟩))
    go_roundw
    case rel => exact ⟨i + 1, by go_num, by omega, hr', trivial⟩
    case measure => simp [intOf]; omega
  ·have hN := zfk s b i hc
   have hfin : Hid (i = T) := by show _ = _; have := hr.out; omega
   clear hN
   go_wp2
   go_ret
   exact ⟨by rw [<- hfin.out]; rfl, rfl⟩
theorem zfL (c : Nat) (h1 : 48 <= c) (h2 : c <= 57) : ((c : Int) - 48) % 256 = ((c - 48 : Nat) : Int) := by omega
def zdy (x : List UInt8) (e : Ending) : Prop :=
 (zO x /\ e = .returned (.tuple #[.int .u64 (zn x : Nat), .bool true])) \/ (¬ zO x /\ ∃ n : Nat, n < 18446744073709551616 /\ e = .returned (.tuple #[.int .u64 (n : Int), .bool false]))
theorem qA (x : List UInt8) (h : ZP x) (j : Nat) (hj : j < x.length) : 48 <= (x.getD j 0).toNat /\ (x.getD j 0).toNat <= 57 := by
 have : x.getD j 0 ∈ x := by simp [List.getD, yD hj]
 exact h _ this
theorem zdK (x : List UInt8) (h : ZP x) (k : Nat) (hk : k <= x.length) (h19 : x.length <= 19) : zn (x.take k) < 10 ^ 19 := by
 have := za5 x k hk (fun j hj => qA x h j (by omega))
 exact Zy this (Nat.pow_le_pow_right (by decide) (by omega))
theorem zaz (x : List UInt8) (h : ZP x) (h19 : 19 < x.length) (h0 : ¬ (x.getD 0 0).toNat = 48) : 9223372036854775807 < zn x := by
 obtain ⟨n, hn⟩ : ∃ n, x.length = n + 20 := ⟨x.length - 20, by omega⟩
 have hg : ∀ j, j < x.length -> 48 <= (x.getD j 0).toNat /\ (x.getD j 0).toNat <= 57 := fun j hj => qA x h j hj
 have := jM x (by omega) hg (fun e => absurd e h0) (n + 19) (by omega)
 rw [List.take_of_length_le (by omega)] at this
 refine Zy ?_ this
 exact Zy (show 9223372036854775807 < 10 ^ 19 by decide) (Nat.pow_le_pow_right (by decide) (by omega))
theorem V9 (S : ByteArray) (w : World) (hp : 0 < S.size) (hmax : S.size <= 1099511627776) (hd : ZP (bytes S)) :
  Calls Tryz.prog 130 #[.string S] w fun e w' => zdy (bytes S) e /\ w' = w := by
 have hgi := zaM (bytes S) hd (by rw [zc]; exact hp)
 rw [zc, yH S 0 hp] at hgi
 obtain ⟨c0, hc0⟩ : ∃ c0 : Nat, S[0].toNat = c0 := ⟨_, rfl⟩
 rw [hc0] at hgi
 by_cases h19 : 19 < S.size
 ·have hno : ¬ zO (bytes S) := by
   intro g
   have h1 := hgi.1 g
   by_cases h48 : c0 = 48
   ·have := h1.1 h48; omega
   ·have := zaz (bytes S) hd (by rw [zc]; exact h19) (by rw [yH S 0 hp, hc0]; exact h48)
    omega
  clear hgi
  go_enter Tryz.func130, Tryz.ntmps130
  go_wp2
  go_ret2
  exact ⟨.inr ⟨hno, 0, by omega, rfl⟩, rfl⟩
 ·by_cases hz : c0 = 48 /\ 1 < S.size
  ·obtain ⟨h1, h2⟩ := hz
   have hno : ¬ zO (bytes S) := by intro g; have := (hgi.1 g).1 h1; omega
   have hc' : (c0 : Int) = 48 := by omega
   clear hgi
   go_enter Tryz.func130, Tryz.ntmps130
   go_wp2
   go_ret2
   exact ⟨.inr ⟨hno, 0, by omega, rfl⟩, rfl⟩
  ·have hz' : decide (1 < (S.size : Int)) = true /\ ((c0 : Int) == 48) = false \/ decide (1 < (S.size : Int)) = false := by
    by_cases h : 1 < S.size
    ·left
     refine ⟨by simp; omega, ?_⟩
     rw [zt]
     intro h48
     exact hz ⟨by omega, h⟩
    ·right; simp; omega
   have hone : c0 = 48 -> S.size = 1 := fun h => by
    have : ¬ 1 < S.size := fun h2 => hz ⟨h, h2⟩
    omega
   have hV19 : zn (bytes S) < 10 ^ 19 := by
    have := zdK (bytes S) hd S.size (by rw [zc]; omega) (by rw [zc]; omega)
    rwa [List.take_of_length_le (by rw [zc]; omega)] at this
   have HV : ∀ k, k <= S.size -> zn ((bytes S).take k) < 10 ^ 19 := fun k hk => zdK (bytes S) hd k (by rw [zc]; exact hk) (by rw [zc]; omega)
   have HDS : ∀ k (hk : k < S.size), 48 <= S[k].toNat /\ S[k].toNat <= 57 /\ zn ((bytes S).take (k + 1)) = zn ((bytes S).take k) * 10 + (S[k].toNat - 48) := fun k hk => by
    have h1 := qA (bytes S) hd k (by rw [zc]; exact hk)
    rw [yH S k hk] at h1
    have h2 := ZS (bytes S) k (by rw [zc]; exact hk)
    rw [yH S k hk] at h2
    exact ⟨h1.1, h1.2, h2⟩
   have HV' : Hid (∀ k, k <= S.size -> zn ((bytes S).take k) < 10 ^ 19) := HV
   have HDS' : Hid (∀ k (hk : k < S.size), 48 <= S[k].toNat /\ S[k].toNat <= 57 /\ zn ((bytes S).take (k + 1)) = zn ((bytes S).take k) * 10 + (S[k].toNat - 48)) := HDS
   have HGI : Hid (zO (bytes S) ↔ zn (bytes S) <= 9223372036854775807) := hgi.trans ⟨fun h => h.2, fun h => ⟨hone, h⟩⟩
   have HV19 : Hid (zn (bytes S) < 10 ^ 19) := hV19
   have HDD : Hid (ZP (bytes S)) := hd
   clear HV HDS hgi hV19 hz hone hd
   rcases hz' with ⟨hz1, hz2⟩ | hz1
   all_goals
    go_enter Tryz.func130, Tryz.ntmps130
    go_wp2
    go_loopw [4, 5] (fun n j wr => ∃ (i N : Nat), n = .int .u64 (N : Int) /\ j = .int .i64 (i : Int) /\ i <= S.size /\ Hid (N = zn ((bytes S).take i)) /\ wr = w) (fun _ j _ => S.size - (intOf j).toNat)
    case atStart => exact ⟨0, 0, rfl, rfl, by omega, rfl, rfl⟩
    case round =>
     obtain ⟨i, N, rfl, rfl, hi, hN, rfl⟩ := hrel
     by_cases hc : i < S.size
     ·obtain ⟨h1, h2, h3⟩ := HDS'.out i hc
      have h4 := HV'.out (i + 1) (by omega)
      rw [h3, <- hN.out] at h4
      have hN' : Hid (N * 10 + (S[i].toNat - 48) = zn ((bytes S).take (i + 1))) := by show _ = _; rw [h3, hN.out]
      obtain ⟨c, hcc⟩ : ∃ c : Nat, S[i].toNat = c := ⟨_, rfl⟩
      rw [hcc] at h1 h2 h4 hN'
      have hsub := zfL c h1 h2
      clear h3 hN
      have h5 : N * 10 + (c - 48) < 18446744073709551616 := Nat.lt_trans h4 (by decide)
      go_wp2
      go_roundw
      case rel => exact ⟨i + 1, N * 10 + (c - 48), by go_num, by go_num, by omega, hN', trivial⟩
      case measure => simp [intOf]; omega
     ·have hfin : Hid (N = zn (bytes S)) := by
       show _ = _
       rw [hN.out, List.take_of_length_le (by rw [zc]; omega)]
      have h4 : N < 10 ^ 19 := by rw [hfin.out]; exact HV19.out
      by_cases hg : N <= 9223372036854775807
      ·go_wp2
       go_ret2
       refine ⟨.inl ⟨HGI.out.2 (by rw [<- hfin.out]; exact hg), ?_⟩, rfl⟩
       rw [<- hfin.out]
       simp
       omega
      ·go_wp2
       go_ret2
       refine ⟨.inr ⟨fun g => hg (by rw [hfin.out]; exact HGI.out.1 g), N, Nat.lt_trans h4 (by decide), ?_⟩, rfl⟩
       simp
       omega
def sgl : List (List UInt8) := [[61, 61], [33, 61], [60, 61], [62, 61], [38, 38], [124, 124], [59], [123], [125], [40], [41], [61], [60], [62], [43], [45], [42], [47], [37], [33]]
def Z8 (i : Nat) (d : List UInt8) : List UInt8 := ((sgl.drop i).find? (fun t => t.isPrefixOf d)).getD []
theorem zbg (i : Nat) (d : List UInt8) (hi : i < 20) (h : (sgl.getD i []).isPrefixOf d = true) : Z8 i d = sgl.getD i [] := by
 have h2 : i < sgl.length := hi
 have e : sgl.getD i [] = sgl[i] := by simp [List.getD, h2]
 rw [e] at h ⊢
 unfold Z8
 rw [List.drop_eq_getElem_cons h2]
 simp only [List.find?_cons, h]
 rfl
theorem zcM (i : Nat) (d : List UInt8) (hi : i < 20) (h : (sgl.getD i []).isPrefixOf d = false) : Z8 i d = Z8 (i + 1) d := by
 have h2 : i < sgl.length := hi
 have e : sgl.getD i [] = sgl[i] := by simp [List.getD, h2]
 rw [e] at h
 unfold Z8
 rw [List.drop_eq_getElem_cons h2]
 simp only [List.find?_cons, h]
theorem zfh : ∀ i, i < 20 -> 1 <= (sgl.getD i []).length /\ (sgl.getD i []).length <= 2 := by decide
theorem zfo (s : ByteArray) (k : Nat) (t : List UInt8) : t.isPrefixOf ((bytes s).drop k) = true ↔ k + t.length <= max k s.size /\ bytes (s.extract k (k + t.length)) = t := by
 rw [List.isPrefixOf_iff_prefix, yp, XP, List.prefix_iff_eq_take]
 constructor
 ·intro h
  have hl := congrArg List.length h
  rw [Yj, yC, zc] at hl
  exact ⟨by omega, h.symm⟩
 ·rintro ⟨_, h⟩; exact h.symm
def sg2 : List (List UInt8) := [[61, 61], [33, 61], [60, 61], [62, 61], [38, 38], [124, 124]]
def sg1 : List (List UInt8) := [[59], [123], [125], [40], [41], [61], [60], [62], [43], [45], [42], [47], [37], [33]]
theorem zbf (l : List UInt8) : l ∈ Jv ↔ l ∈ sg2 \/ l ∈ sg1 := by
 simp only [Jv, sg2, sg1, Kp, List.not_mem_nil, or_false]
 constructor
 ·rintro (h | h | h | h | h | h | h | h | h | h | h | h | h | h | h | h | h | h | h | h) <;> simp [h]
 ·rintro ((h | h | h | h | h | h) | (h | h | h | h | h | h | h | h | h | h | h | h | h | h)) <;> simp [h]
theorem jZ : ∀ t ∈ sg2, t.length = 2 := by decide
theorem zb3 : ∀ t ∈ sg1, t.length = 1 := by decide
theorem zcg (L : List (List UInt8)) (p : List UInt8 -> Bool) (x : List UInt8) (h : ∀ t ∈ L, p t = decide (t = x)) : L.find? p = if x ∈ L then some x else none := by
 induction L with
 | nil => simp
 | cons t r ih =>
  have h1 := h t List.mem_cons_self
  have h2 := ih fun u hu => h u (List.mem_cons_of_mem _ hu)
  by_cases e : t = x
  ·subst e
   rw [List.find?_cons_of_pos (by rw [h1]; simp)]
   simp
  ·rw [List.find?_cons_of_neg (by rw [h1]; simp [e]), h2]
   simp only [Kp, show ¬ x = t from fun e2 => e e2.symm, false_or]
theorem zb6 (t d : List UInt8) (n : Nat) (h : t.length = n) : t.isPrefixOf d = decide (t = d.take n) := by
 subst h
 rw [Bool.eq_iff_iff, List.isPrefixOf_iff_prefix, List.prefix_iff_eq_take, Yz]
theorem zac (c : UInt8) (r : List UInt8) : Z8 0 (c :: r) = if YX ((c :: r).take (sgN c r + 1)) then (c :: r).take (sgN c r + 1) else [] := by
 have e : Z8 0 (c :: r) = ((sg2 ++ sg1).find? (fun t => t.isPrefixOf (c :: r))).getD [] := rfl
 rw [e, List.find?_append, zcg sg2 _ ((c :: r).take 2) (fun t ht => zb6 t _ 2 (jZ t ht)), zcg sg1 _ ((c :: r).take 1) (fun t ht => zb6 t _ 1 (zb3 t ht))]
 by_cases h2 : (c :: r).take 2 ∈ sg2
 ·have hl := jZ _ h2
  cases r with
  | nil => simp at hl
  | cons d q =>
   have hsg : YX [c, d] = true := by
    simp only [YX, Yz]
    exact (zbf _).2 (.inl h2)
   simp only [sgN, hsg, if_true, zi h2]
   rw [show (c :: d :: q).take (1 + 1) = [c, d] from rfl, hsg]
   rfl
 ·have hz : sgN c r = 0 := by
   cases r with
   | nil => rfl
   | cons d q =>
    simp only [sgN]
    rw [ze]
    simp only [YX, Yz]
    intro hm
    rcases (zbf _).1 hm with h | h
    ·exact h2 h
    ·have := zb3 _ h; simp at this
  rw [hz, ze h2]
  have e1 : (c :: r).take (0 + 1) = [c] := by simp
  rw [e1]
  have hs : YX [c] = decide ([c] ∈ sg1) := by
   simp only [YX]
   congr 1
   rw [zbf, eq_iff_iff]
   constructor
   ·rintro (h | h)
    ·have := jZ _ h; simp at this
    ·exact h
   ·exact .inr
  rw [hs]
  by_cases h1 : [c] ∈ sg1
  ·simp [h1]
  ·simp [h1]
def Kb : List Value := sgl.map fun x => .string ⟨x.toArray⟩
theorem i9' : (Tryz.prog.info? 9).map (fun i => (i.zero, i.size, i.bytes)) = some (some (.string ⟨#[]⟩), 1, 16) := by kernel_rfl
theorem jK {ops : Array Oper} {rest : List Oper} {o : Oper} {a : Act} {w : World} {Q : Exit -> Act -> World -> Prop} (hgd : o.guard = none) (n : Nat) (parts : Array (Nat × Operand)) (ho : o.op = .buildSlice 23 n parts) (cs : List Value) (h0 : 0 < n) (hn : n <= 1000)
  (hf : Instr.fill (fun i => some (i * 1, 1)) ((Array.range (n * 1)).map ((Value.string ⟨#[]⟩).cells[· % (Value.string ⟨#[]⟩).cells.size]!)) (parts.map fun (i, x) => (i, a.eval x)).toList = some cs.toArray)
  (h : ∀ w', At 9 w' w.heap.size cs -> Below w.heap.size w w' -> w'.heap.size = w.heap.size + 1 -> wpList Tryz.prog ops Q rest (a.put o.dst (.slice (some ⟨w.heap.size, 0, none⟩) n n)) w') :
  wpList Tryz.prog ops Q (o :: rest) a w := by
 obtain ⟨ie, hi, hz0, hz1, hz2⟩ := info_parts i9'
 refine wpList_buildSlice hgd 23 9 n parts ho cs.toArray ie (.string ⟨#[]⟩) Tryz.underlying23 hi hz0 (by rw [hz1]; omega) (by rw [hz1]; omega) ?_ ?_
 ·rw [hz1]; exact hf
 ·exact h _ (_root_.Go.heap_alloc_new w _) ((Below.refl _ w).alloc (zj _) _) (by show (w.heap.push _).size = _; simp)
theorem zfi (w : World) (g i : Nat) (hi : i < 20) (hA : At 9 w g Kb) : w.cell? ⟨g, i, none⟩ = some (.string ⟨(sgl.getD i []).toArray⟩) := by
 have h2 : i < sgl.length := hi
 rw [hA.cell]
 simp [Kb, List.getD, h2]
theorem j6 (s : ByteArray) (k : Nat) (w : World) (hk : k < s.size) (hs : s.size <= 1099511627776) :
  Calls Tryz.prog 101 #[.string s, .int .i64 (k : Int)] w fun e w' => e = .returned (.string ⟨(Z8 0 ((bytes s).drop k)).toArray⟩) /\ Below w.heap.size w w' := by
 obtain ⟨B, hB⟩ : ∃ B, Hid (B = Z8 0 ((bytes s).drop k)) := ⟨_, (rfl : Z8 0 ((bytes s).drop k) = _)⟩
 rw [<- hB.out]
 go_enter Tryz.func101, Tryz.ntmps101
 go_wp2_with (first | (refine jK rfl 20 _ rfl Kb (by decide) (by decide) (by kernel_rfl) ?_; intro w1 hA1 hb1 hs1))
 have HC : Hid (∀ i, i < 20 -> w1.cell? ⟨w.heap.size, i, none⟩ = some (.string ⟨(sgl.getD i []).toArray⟩)) := fun i hi => zfi w1 _ i hi hA1
 clear hA1
 go_loopw [6] (fun j wr => ∃ i : Nat, j = .int .i64 (i : Int) /\ i <= 20 /\ Hid (Z8 i ((bytes s).drop k) = B) /\ ∃ q, wr = w1.drewN q) (fun j _ => 20 - (intOf j).toNat)
 case atStart => exact ⟨0, rfl, by omega, hB.out.symm, 0, rfl⟩
 case round =>
  obtain ⟨i, rfl, hi, hr, q, rfl⟩ := hrel
  by_cases hc : i < 20
  ·have hcell := HC.out i hc
   have hlen := zfh i hc
   have hpre := zfo s k (sgl.getD i [])
   have hyes := zbg i ((bytes s).drop k) hc
   have hno := zcM i ((bytes s).drop k) hc
   obtain ⟨t, ht⟩ : ∃ t, Hid (t = sgl.getD i []) := ⟨_, (rfl : sgl.getD i [] = _)⟩
   rw [<- ht.out] at hcell hlen hpre hyes hno
   obtain ⟨W, hW⟩ : ∃ W : ByteArray, Hid (W = ⟨t.toArray⟩) := ⟨_, (rfl : (⟨t.toArray⟩ : ByteArray) = _)⟩
   obtain ⟨m, hm⟩ : ∃ m, Hid (m = t.length) := ⟨_, (rfl : t.length = _)⟩
   have hWz : W.size = m := by rw [hW.out, hm.out]; simp [ByteArray.size]
   rw [<- hm.out] at hlen hpre
   have hw1 : IntKind.i64.wrap ((k : Int) + (m : Int)) = (k : Int) + (m : Int) := by rw [IntKind.wrap_i64]; omega
   rw [<- hW.out] at hcell
   by_cases hp : t.isPrefixOf ((bytes s).drop k) = true
   ·obtain ⟨h1, h2⟩ := hpre.1 hp
    have hle : k + m <= s.size := by omega
    have hdec : ((k : Int) + (m : Int) <= (s.size : Int)) := by omega
    have heq : ((s.extract k (k + m)).toList == W.toList) = true := by
     rw [zf, zf, h2, hW.out]; simp [bytes]
    have hfin : Hid (B = t) := by show _ = _; rw [<- hr.out]; exact hyes hp
    clear hp hpre hyes hno h1 h2 hlen
    go_wp2_with fail
    go_quiet (fail)
    go_wp2
    go_ret
    exact ⟨by rw [hfin.out, <- hW.out]; rfl, ⟨hb1.os, hb1.tape, hb1.output, hb1.size, hb1.block⟩⟩
   ·have hpf : t.isPrefixOf ((bytes s).drop k) = false := Bool.eq_false_iff.2 hp
    have hr' : Hid (Z8 (i + 1) ((bytes s).drop k) = B) := by show _ = _; rw [<- hr.out]; exact (hno hpf).symm
    by_cases hle : k + m <= s.size
    ·have heq : ((s.extract k (k + m)).toList == W.toList) = false := by
      rw [zf, zf, zt]
      intro h0
      refine hp (hpre.2 ⟨by omega, ?_⟩)
      rw [h0, hW.out]; simp [bytes]
     have hdec : ((k : Int) + (m : Int) <= (s.size : Int)) := by omega
     clear hp hpre hyes hno hlen hpf hr
     go_wp2_with fail
     go_quiet (fail)
     go_wp2
     go_roundw
     case rel => exact ⟨i + 1, by go_num, by omega, hr', _, rfl⟩
     case measure => simp [intOf]; omega
    ·have hdec : decide ((k : Int) + (m : Int) <= (s.size : Int)) = false := by simp; omega
     clear hp hpre hyes hno hlen hpf hr
     go_wp2_with fail
     go_quiet (fail)
     go_wp2
     go_roundw
     case rel => exact ⟨i + 1, by go_num, by omega, hr', _, rfl⟩
     case measure => simp [intOf]; omega
  ·have hfin : Hid (B = []) := by
    show _ = _
    rw [<- hr.out, show i = 20 by omega]
    rfl
   go_wp2
   go_ret
   exact ⟨by rw [hfin.out]; rfl, ⟨hb1.os, hb1.tape, hb1.output, hb1.size, hb1.block⟩⟩
theorem Y0 {P : Program} (w : World) (b o : Nat) (ty : TypeId) (v : Value) (ht : w.there b o 1) (hi : (P.info? ty).map (·.size) = some 1) (hc : v.cells = #[v]) (h1 : v.oneCell' = true) :
  (storeVar ty ⟨b, o, none⟩ v).run P w = .ok () (w.setCell ⟨b, o, none⟩ v) := by
 have := run_storeCells_cells (P := P) b o [v] 0 w (fun j hj => by simpa using (ht j (by simpa using hj)).1) (fun j hj => by simpa using (ht j (by simpa using hj)).2) (fun u hu => by simp at hu; subst hu; exact h1)
 cases hq : P.info? ty with
 | none => simp [hq] at hi
 | some i =>
  have hs : i.size = 1 := by simp [hq] at hi; omega
  simp only [Nat.add_zero] at this
  simp [storeVar, sizeOf, typeInfo, hq, hc, hs, this, World.setCells]
theorem ZQ {P : Program} {ops : Array Oper} {rest : List Oper} {o : Oper} {a : Act} {w : World} {Q : Exit -> Act -> World -> Prop} (hgd : o.guard = none) (ty : TypeId) (x y : Operand) (ho : o.op = .store ty x y)
  (g off : Nat) (v : Value) (hx : a.eval x = .pointer (some ⟨g, off, none⟩)) (hy : a.eval y = v)
  (t : TypeId) (old : List Value) (hg : At t w g old) (hold : off + 1 <= old.length) (hi : (P.info? ty).map (·.size) = some 1) (hc : v.cells = #[v]) (h1 : v.oneCell' = true)
  (h : ∀ w', At t w' g (old.set off v) -> But g w w' -> w'.heap.size = w.heap.size -> wpList P ops Q rest (a.put o.dst undef) w') : wpList P ops Q (o :: rest) a w := by
 refine wpList_plain hgd fun K hK => ?_
 have := hK _ _ (h _ (hg.set off v) ((But.refl g w).setCell off v) (by simp))
 unfold Oper.wp execOp
 simp only [ho, hx, hy, Instr.storeAt, Instr.sureAddr, Sem.run_bind, Sem.run_pure, Result.andThen_ok, Y0 w g off ty v (hg.there off 1 hold) hi hc h1]
 exact this
theorem zU {P : Program} {fn : Func} {p u : Tmp} {ty tu : TypeId} (h : fn.results = #[.cell p ty, .cell u tu]) (tmps : Array Value) (w : World) (g g' : Nat) (t t' : TypeId) (cs cs' : List Value) (d d' : TypeDesc)
  (hp : tmps.getD p undef = .pointer (some ⟨g, 0, none⟩)) (hg : At t w g cs) (hu : P.underlying ty = some d) (hd : (match d with | .struct _ | .array _ _ => true | _ => false) = true) (hi : (P.info? ty).map (·.size) = some cs.length)
  (hp' : tmps.getD u undef = .pointer (some ⟨g', 0, none⟩)) (hg' : At t' w g' cs') (hu' : P.underlying tu = some d') (hd' : (match d' with | .struct _ | .array _ _ => true | _ => false) = true) (hi' : (P.info? tu).map (·.size) = some cs'.length) :
  (results fn tmps).run P w = .ok (.tuple #[.agg cs.toArray, .agg cs'.toArray]) w := by
 have e1 : tmps[p]?.getD undef = .pointer (some ⟨g, 0, none⟩) := by simpa using hp
 have e2 : tmps[u]?.getD undef = .pointer (some ⟨g', 0, none⟩) := by simpa using hp'
 have hl := run_loadVar_row (P := P) w g t ty cs.toArray (0, 0) d hg hu hd (by simpa using hi)
 have hl' := run_loadVar_row (P := P) w g' t' tu cs'.toArray (0, 0) d' hg' hu' hd' (by simpa using hi')
 simp [results, h, e1, e2, asAddr, hl, hl']
theorem i3 : (Tryz.prog.info? 3).map (·.size) = some 1 := by kernel_rfl
theorem i9 : (Tryz.prog.info? 9).map (·.size) = some 1 := by kernel_rfl
theorem zg7 (r : List UInt8) : nmN r = if Z0 (r.drop (dgN r)) then (3, dgN r + 1 + dgN (r.drop (dgN r + 1))) else (2, dgN r) := by
 induction r with
 | nil => rfl
 | cons c q ih =>
  by_cases hd : zY c.toNat = true
  ·have hnp : Z0 (c :: q) = false := by
    cases q with
    | nil => rfl
    | cons d p =>
     have : ¬ c = 46 := by
      rintro rfl
      exact absurd hd (by decide)
     simp [Z0, this]
   have e1 : dgN (c :: q) = dgN q + 1 := by simp [dgN, hd]
   have e2 : nmN (c :: q) = ((nmN q).1, (nmN q).2 + 1) := by simp [nmN, hnp, hd]
   rw [e1, e2, ih, List.drop_succ_cons, List.drop_succ_cons]
   split
   ·simp only [Prod.mk.injEq, true_and]; omega
   ·rfl
  ·have e1 : dgN (c :: q) = 0 := by simp [dgN, hd]
   rw [e1, List.drop_zero]
   by_cases hp : Z0 (c :: q) = true
   ·have e2 : nmN (c :: q) = (3, dgN q + 1) := by simp [nmN, hp]
    rw [e2, zi hp, Nat.zero_add, List.drop_succ_cons, List.drop_zero]
    simp only [Prod.mk.injEq, true_and]; omega
   ·have e2 : nmN (c :: q) = (2, 0) := by simp [nmN, hp, hd]
    rw [e2, ze hp]
theorem J3 (s : ByteArray) (k : Nat) (hk : k < s.size) (hd : zY s[k].toNat = true) (hl : z7 s[k].toNat = false) :
  zI ((bytes s).drop k) = if Z0 ((bytes s).drop (k + dgN ((bytes s).drop k))) then (3, dgN ((bytes s).drop k) + 1 + dgN ((bytes s).drop (k + dgN ((bytes s).drop k) + 1))) else (2, dgN ((bytes s).drop k)) := by
 have h1 := Xv s k hk hd
 have h2 : zI ((bytes s).drop k) = ((nmN ((bytes s).drop (k + 1))).1, (nmN ((bytes s).drop (k + 1))).2 + 1) := by
  rw [z8 s k hk]; simp only [zI, hl, hd, if_true]; rfl
 rw [h2, zg7, h1, List.drop_drop, List.drop_drop]
 rw [show k + 1 + dgN ((bytes s).drop (k + 1)) = k + (dgN ((bytes s).drop (k + 1)) + 1) by omega, show k + 1 + (dgN ((bytes s).drop (k + 1)) + 1) = k + (dgN ((bytes s).drop (k + 1)) + 1) + 1 by omega]
 split
 ·simp only [Prod.mk.injEq, true_and]; omega
 ·rfl
def yR (s : ByteArray) (k K n : Nat) : List Value :=
 if zG K (((bytes s).drop k).take n) = 0 /\ clB K ((bytes s).drop (k + n)) = false then zm K (s.extract k (k + n)) k (yh K) (ZT K (((bytes s).drop k).take n)) else zm 0 ⟨#[]⟩ 0 0 0
def Zx (s : ByteArray) (k K n : Nat) : List Value :=
 if zG K (((bytes s).drop k).take n) ≠ 0 then fa2 (zG K (((bytes s).drop k).take n)) k else if clB K ((bytes s).drop (k + n)) = true then fa2 4 (k + n) else fa2 0 0
theorem zgp (s : ByteArray) (j : Nat) (h : Z0 ((bytes s).drop j) = true) : ∃ hj : j + 1 < s.size, (s[j].toNat : Int) = 46 /\ zY s[j + 1].toNat = true := by
 by_cases hj : j + 1 < s.size
 ·refine ⟨hj, ?_⟩
  rw [z8 s j (by omega), z8 s (j + 1) hj] at h
  simp only [Z0, yX, Yz] at h
  exact ⟨by rw [h.1]; rfl, h.2⟩
 ·rw [Kv _ (by rw [yC, zc]; omega)] at h
  simp at h
theorem zg4 (s : ByteArray) (j : Nat) (h : Z0 ((bytes s).drop j) = false) : ¬ j + 1 < s.size \/ ∃ hj : j + 1 < s.size, ((s[j].toNat : Int) == 46) = false \/ ((s[j].toNat : Int) = 46 /\ zY s[j + 1].toNat = false) := by
 by_cases hj : j + 1 < s.size
 ·refine .inr ⟨hj, ?_⟩
  rw [z8 s j (by omega), z8 s (j + 1) hj] at h
  by_cases h46 : s[j].toNat = 46
  ·right
   refine ⟨by omega, ?_⟩
   have : s[j] = 46 := UInt8.toNat_inj.1 h46
   simpa [Z0, this] using h
  ·exact .inl (by rw [zt]; omega)
 ·exact .inl hj
theorem qD (s : ByteArray) (j K : Nat) (h : clB K ((bytes s).drop j) = true) : ∃ hj : j < s.size, z7 s[j].toNat = true \/ (z7 s[j].toNat = false /\ (s[j].toNat : Int) = 46) := by
 by_cases hj : j < s.size
 ·refine ⟨hj, ?_⟩
  rw [z8 s j hj] at h
  simp only [clB, yX, Bool.or_eq_true, Yz] at h
  rcases h.2 with h1 | h1
  ·exact .inl h1
  ·cases h2 : z7 s[j].toNat
   ·exact .inr ⟨rfl, by omega⟩
   ·exact .inl rfl
 ·rw [Yy s j hj] at h
  simp [clB] at h
theorem zcn (s : ByteArray) (j K : Nat) (hK : K = 2 \/ K = 3) (h : clB K ((bytes s).drop j) = false) : ¬ j < s.size \/ ∃ hj : j < s.size, z7 s[j].toNat = false /\ ((s[j].toNat : Int) == 46) = false := by
 by_cases hj : j < s.size
 ·refine .inr ⟨hj, ?_⟩
  rw [z8 s j hj] at h
  have hKb : (decide (K = 2) || decide (K = 3)) = true := by simpa using hK
  simp only [clB, hKb, Bool.true_and, Bool.or_eq_false_iff, decide_eq_false_iff_not] at h
  refine ⟨h.1, ?_⟩
  rw [zt]
  have := h.2
  omega
 ·exact .inl hj
theorem Jg (w : World) : Calls Tryz.prog 99 #[.int .u8 46] w fun e w' => e = .returned (.bool false) /\ w' = w := yS 46 w false rfl
section
variable {P : Program} {ops : Array Oper} {rest : List Oper} {o : Oper} {a : Act} {w : World} {Q : Exit -> Act -> World -> Prop}
theorem YQ {ty t : TypeId} {x y : Operand} {g : Nat} {old : List Value} (hgd : o.guard = none) (ho : o.op = .store ty x y) (hg : At t w g old) (off : Nat) (v : Value) (hx : a.eval x = .pointer (some ⟨g, off, none⟩)) (hy : a.eval y = v)
    (hi : (P.info? ty).map (·.size) = some 1) (h : ∀ w', At t w' g (old.set off v) -> But g w w' -> w'.heap.size = w.heap.size -> wpList P ops Q rest (a.put o.dst undef) w') (hl : Nat.ble (off + 1) old.length = true := by rfl) (hc : v.cells = #[v] := by rfl) (h1 : v.oneCell' = true := by rfl) : wpList P ops Q (o :: rest) a w :=
  ZQ hgd ty x y ho g off v hx hy t old hg (Nat.le_of_ble_eq_true hl) hi hc h1 h
theorem zz {ty t : TypeId} {x y : Operand} {g : Nat} {old : List Value} (hgd : o.guard = none) (ho : o.op = .store ty x y) (hg : At t w g old) (off : Nat) (v : Value) (hx : a.eval x = .pointer (some ⟨g, off, none⟩)) (hy : a.eval y = v)
    (hi : (P.info? ty).map (·.size) = some 1) (h : ∀ w', At t w' g (old.set off v) -> But g w w' -> wpList P ops Q rest (a.put o.dst undef) w') (hl : Nat.ble (off + 1) old.length = true := by rfl) (hc : v.cells = #[v] := by rfl) (h1 : v.oneCell' = true := by rfl) : wpList P ops Q (o :: rest) a w :=
  YQ hgd ho hg off v hx hy hi (fun w' h1 h2 _ => h w' h1 h2) hl hc h1
end
