/- J -/
import Derived.Test.YtjgggmjjikopeaaGreatDoorJ14
import Derived.Test.YtjgggmjjikopeaaGreatDoorJ13
import Derived.Test.YtjgggmjjikopeaaGreatDoorJ15
import Derived.Test.YtjgggmjjikopeaaGreatDoorJ12
set_option linter.unusedVariables false
set_option maxRecDepth 100000
set_option maxHeartbeats 6400000
open Go.RowKit
namespace Go.Proofs.YtjgggmjjikopeaaGreatDoor
theorem K1 (s : ByteArray) (k K n : Nat) (w : World) (hk : k < s.size) (hs : s.size <= 1099511627775) (hd : zY s[k].toNat = true) (hl : z7 s[k].toNat = false) (hKn : zI ((bytes s).drop k) = (K, n)) :
  Calls Tryz.prog 98 #[.string s, .int .i64 (k : Int)] w fun e w' => e = .returned (.tuple #[.agg (yR s k K n).toArray, .agg (Zx s k K n).toArray]) /\ Below w.heap.size w w' := by
 cases hpt : Z0 ((bytes s).drop (k + dgN ((bytes s).drop k)))
 ·rcases zg4 s _ hpt with h1 | ⟨h1, h2 | ⟨h2, h3⟩⟩
  ·exact qb s k K n w hk hs hd hl hKn hpt h1
  ·exact qa s k K n w hk hs hd hl hKn hpt h1 (by rw [yH s _ (by omega)]; exact h2)
  ·exact j9 s k K n w hk hs hd hl hKn hpt h1 (by rw [yH s _ (by omega)]; exact h2) (by rw [yH s _ h1]; exact h3)
 ·exact zae s k K n w hk hs hd hl hKn hpt
theorem jL {ops : Array Oper} {rest : List Oper} {o : Oper} {a : Act} {w : World} {Q : Exit -> Act -> World -> Prop} (hgd : o.guard = none) (s x : Operand) (ho : o.op = .call { callee := .builtin .append, args := #[s, x], argTypes := #[60, 60] })
  (base g : Nat) (v : Value) (ts : List Tk) (tk : Tk) (hs : a.eval s = v) (hx : a.eval x = .slice (some ⟨g, 0, none⟩) 1 1) (hown : Toks base w v ts) (hA : At 64 w g tk.cells)
  (hlen : ts.length <= 1048576) (hbase : base <= w.heap.size)
  (h : ∀ v' w', Toks base w' v' (ts ++ [tk]) -> Below base w w' -> w.grownBy w' v.ownBlock -> wpList Tryz.prog ops Q rest (a.put o.dst v') w') :
  wpList Tryz.prog ops Q (o :: rest) a w := by
 obtain ⟨ie, hi, hz0, hz1, hz2⟩ := info_parts Try.i34'
 refine wpList_append_own_at w hgd s x 60 ho base 64 ie (.agg (zm 0 ⟨#[]⟩ 0 0 0).toArray) 5 48 Tryz.underlying60 hi hz0 hz1 hz2 rfl (by decide) v ts.length (Yp ts) hs hown
  ⟨g, 0, none⟩ 1 1 tk.cells hx rfl ?_ ?_ ?_ ?_ hbase ?_
 ·intro j u hj
  rw [Addr.add_mid, hA.cell, Nat.zero_add]; exact hj
 ·intro u hu
  simp [Tk.cells] at hu
  rcases hu with rfl | rfl | rfl | rfl | rfl <;> rfl
 ·unfold maxLen; omega
 ·omega
 ·intro v' w' h1 h2 _ _
  refine h v' w' ?_ ?_ h2
  ·have e : Yp (ts ++ [tk]) = Yp ts ++ tk.cells := by rw [JJ]; simp [Yp]
   unfold Toks
   rw [e, yN]
   exact h1
  ·exact (Below.refl base w).grown h2 hbase hown.block
theorem Toks.blockLt {base : Nat} {w : World} {v : Value} {ts : List Tk} (h : Toks base w v ts) : ∀ k, v.ownBlock = some k -> k < w.heap.size := by
 intro k hk
 obtain ⟨_, ⟨rfl, _⟩ | ⟨g, cap, cur, rfl, hg, hh, _⟩⟩ := h
 ·simp [Value.ownBlock] at hk
 ·simp [Value.ownBlock] at hk
  subst hk
  rcases Nat.lt_or_ge g w.heap.size with hlt | hge
  ·exact hlt
  ·rw [Array.getElem?_eq_none hge] at hh; simp at hh
theorem qi (s : ByteArray) (k K n : Nat) : (∃ (K' : Nat) (S : ByteArray) (p t b : Nat), yR s k K n = zm K' S p t b) := by
 unfold yR; split <;> exact ⟨_, _, _, _, _, rfl⟩
theorem zau (s : ByteArray) (k K n : Nat) : ∃ e p, Zx s k K n = fa2 e p := by
 unfold Zx; split
 ·exact ⟨_, _, rfl⟩
 ·split <;> exact ⟨_, _, rfl⟩
theorem zfp (s : ByteArray) (k K n : Nat) (w : World) (hk : k < s.size) (hs : s.size <= 1099511627775) (hKn : zI ((bytes s).drop k) = (K, n)) :
  Calls Tryz.prog 62 #[.string s, .int .i64 (k : Int)] w fun e w' => e = .returned (.tuple #[.agg (yR s k K n).toArray, .agg (Zx s k K n).toArray]) /\ Below w.heap.size w w' := by
 have hdr := z8 s k hk
 cases hl : z7 s[k].toNat
 ·cases hd : zY s[k].toNat
  ·have he : zI ((bytes s).drop k) = (4, sgN s[k] ((bytes s).drop (k + 1)) + 1) := by rw [hdr]; simp only [zI, hl, hd]; rfl
   rw [hKn] at he
   obtain ⟨rfl, hn⟩ : K = 4 /\ n = sgN s[k] ((bytes s).drop (k + 1)) + 1 := by simpa using he
   have hsg := zac s[k] ((bytes s).drop (k + 1))
   rw [<- hdr, <- hn] at hsg
   have hbS : bytes (s.extract k (k + n)) = ((bytes s).drop k).take n := by rw [yp, XP]
   obtain ⟨X, hX⟩ : ∃ X, Hid (X = Z8 0 ((bytes s).drop k)) := ⟨_, (rfl : Z8 0 ((bytes s).drop k) = _)⟩
   have hcall := fun w => j6 s k w hk (by omega)
   rw [<- hX.out] at hcall hsg
   have HC : Hid (∀ w, Calls Tryz.prog 101 #[.string s, .int .i64 (k : Int)] w fun e w' => e = .returned (.string ⟨X.toArray⟩) /\ Below w.heap.size w w') := hcall
   clear hcall hKn he
   cases hgood : YX (((bytes s).drop k).take n)
   ·rw [hgood] at hsg
    simp only [ZV, if_false] at hsg
    have hT : Hid (yR s k 4 n = zm 0 ⟨#[]⟩ 0 0 0) := by simp [Hid, yR, zG, hgood]
    have hF : Hid (Zx s k 4 n = fa2 4 k) := by simp [Hid, Zx, zG, hgood]
    rw [hT.out, hF.out]
    clear hdr hbS hgood
    subst hsg
    go_enter Tryz.func62, Tryz.ntmps62
    go_wp2_with (first | (refine zD (o := { dst := some 4, .. }) rfl rfl z34 ?_; intro w1 hA1 hb1 hs1) | (refine zD rfl rfl z25 ?_; intro w2 hA2 hb2 hs2; rw [hs1] at hA2) | (go_at_call 97; refine (ZA _ _ false hd).mono ?_; rintro e w2' ⟨rfl, rfl⟩) | (go_at_call 99; refine (yS _ _ false hl).mono ?_; rintro e w2' ⟨rfl, rfl⟩))
    refine (HC.out _).mono ?_
    rintro e w3 ⟨rfl, hb3⟩
    have hR4 : At 64 w3 w.heap.size (zm 0 ⟨#[]⟩ 0 0 0) := (hA1.below hb2).below hb3
    have hR5 : At 29 w3 (w.heap.size + 1) (fa2 0 0) := hA2.below hb3
    have hB3 : Below w.heap.size w w3 := (hb1.trans (hb2.mono (by omega))).trans (hb3.mono (by omega))
    clear hA1 hb1 hA2 hb2 hb3
    go_wp2_with (first | (refine zg rfl 64 #[] rfl (zm 0 ⟨#[]⟩ 0 0 0) (by kernel_rfl) ?_) | (refine zg rfl 29 _ rfl (fa2 4 k) (by kernel_rfl) ?_) | (refine zl rfl rfl hR4 (zm 0 ⟨#[]⟩ 0 0 0) rfl rfl i34 rfl (yo _ _ _ _ _) ?_; intro w8 hA8 hb8 hs8) | (refine zl rfl rfl (hb8.at hR5 (by omega)) (fa2 4 k) rfl rfl i25 rfl (yq _ _) ?_; intro w9 hA9 hb9 hs9))
    refine zr (zU rfl _ _ w.heap.size (w.heap.size + 1) 64 29 (zm 0 ⟨#[]⟩ 0 0 0) (fa2 4 k) _ _ rfl (hb9.at hA8 (by omega)) Tryz.underlying64 rfl i34 rfl hA9 Tryz.underlying29 rfl i25) rfl ?_
    exact ⟨rfl, hb9.below (hb8.below hB3 (zj _) hB3.size) (by omega) (by have := hB3.size; omega)⟩
   ·rw [hgood] at hsg
    simp only [if_true] at hsg
    obtain ⟨S, hS⟩ : ∃ S : ByteArray, Hid (S = ⟨X.toArray⟩) := ⟨_, (rfl : (⟨X.toArray⟩ : ByteArray) = _)⟩
    have hSx : s.extract k (k + n) = S := by rw [yv (s.extract k (k + n)), hbS, hS.out, hsg]
    have hT : Hid (yR s k 4 n = zm 4 S k 0 0) := by simp [Hid, yR, zG, hgood, clB, hSx, yh, ZT]
    have hF : Hid (Zx s k 4 n = fa2 0 0) := by simp [Hid, Zx, zG, hgood, clB]
    rw [hT.out, hF.out]
    have hne : S.toList.isEmpty = false := by
     refine Xi ?_
     rw [<- hSx, <- zc, hbS, Yj, yC, zc]
     omega
    have HC2 : Hid (∀ w, Calls Tryz.prog 101 #[.string s, .int .i64 (k : Int)] w fun e w' => e = .returned (.string S) /\ Below w.heap.size w w') := by
     intro w; rw [hS.out]; exact HC.out w
    clear hdr hbS hgood HC hsg hSx
    go_enter Tryz.func62, Tryz.ntmps62
    go_wp2_with (first | (refine zD (o := { dst := some 4, .. }) rfl rfl z34 ?_; intro w1 hA1 hb1 hs1) | (refine zD rfl rfl z25 ?_; intro w2 hA2 hb2 hs2; rw [hs1] at hA2) | (go_at_call 97; refine (ZA _ _ false hd).mono ?_; rintro e w2' ⟨rfl, rfl⟩) | (go_at_call 99; refine (yS _ _ false hl).mono ?_; rintro e w2' ⟨rfl, rfl⟩))
    refine (HC2.out _).mono ?_
    rintro e w3 ⟨rfl, hb3⟩
    have hR4 : At 64 w3 w.heap.size (zm 0 ⟨#[]⟩ 0 0 0) := (hA1.below hb2).below hb3
    have hR5 : At 29 w3 (w.heap.size + 1) (fa2 0 0) := hA2.below hb3
    have hB3 : Below w.heap.size w w3 := (hb1.trans (hb2.mono (by omega))).trans (hb3.mono (by omega))
    clear hA1 hb1 hA2 hb2 hb3
    go_wp2_with (first | (refine zg rfl 64 _ rfl (zm 4 S k 0 0) (by kernel_rfl) ?_) | (refine zg rfl 29 _ rfl (fa2 0 0) (by kernel_rfl) ?_) | (refine zl rfl rfl hR4 (zm 4 S k 0 0) rfl rfl i34 rfl (yo _ _ _ _ _) ?_; intro w8 hA8 hb8 hs8) | (refine zl rfl rfl (hb8.at hR5 (by omega)) (fa2 0 0) rfl rfl i25 rfl (yq _ _) ?_; intro w9 hA9 hb9 hs9))
    refine zr (zU rfl _ _ w.heap.size (w.heap.size + 1) 64 29 (zm 4 S k 0 0) (fa2 0 0) _ _ rfl (hb9.at hA8 (by omega)) Tryz.underlying64 rfl i34 rfl hA9 Tryz.underlying29 rfl i25) rfl ?_
    exact ⟨rfl, hb9.below (hb8.below hB3 (zj _) hB3.size) (by omega) (by have := hB3.size; omega)⟩
  ·have hcall := fun w => K1 s k K n w hk hs hd hl hKn
   obtain ⟨K', S, p, t, b, hT⟩ := qi s k K n
   obtain ⟨fe, fp, hF⟩ := zau s k K n
   rw [hT, hF] at hcall ⊢
   have HC : Hid (∀ w, Calls Tryz.prog 98 #[.string s, .int .i64 (k : Int)] w fun e w' => e = .returned (.tuple #[.agg (zm K' S p t b).toArray, .agg (fa2 fe fp).toArray]) /\ Below w.heap.size w w') := hcall
   clear hcall hT hF hKn hdr
   go_enter Tryz.func62, Tryz.ntmps62
   go_wp2_with (first | (refine zD (o := { dst := some 4, .. }) rfl rfl z34 ?_; intro w1 hA1 hb1 hs1) | (refine zD rfl rfl z25 ?_; intro w2 hA2 hb2 hs2; rw [hs1] at hA2) | (go_at_call 97; refine (ZA _ _ true hd).mono ?_; rintro e w2' ⟨rfl, rfl⟩))
   refine (HC.out _).mono ?_
   rintro e w3 ⟨rfl, hb3⟩
   have hR4 : At 64 w3 w.heap.size (zm 0 ⟨#[]⟩ 0 0 0) := (hA1.below hb2).below hb3
   have hR5 : At 29 w3 (w.heap.size + 1) (fa2 0 0) := hA2.below hb3
   have hB3 : Below w.heap.size w w3 := (hb1.trans (hb2.mono (by omega))).trans (hb3.mono (by omega))
   clear hA1 hb1 hA2 hb2 hb3
   go_wp2_with (first | (refine zl rfl rfl hR4 (zm K' S p t b) rfl rfl i34 rfl (yo _ _ _ _ _) ?_; intro w8 hA8 hb8 hs8) | (refine zl rfl rfl (hb8.at hR5 (by omega)) (fa2 fe fp) rfl rfl i25 rfl (yq _ _) ?_; intro w9 hA9 hb9 hs9))
   refine zr (zU rfl _ _ w.heap.size (w.heap.size + 1) 64 29 (zm K' S p t b) (fa2 fe fp) _ _ rfl (hb9.at hA8 (by omega)) Tryz.underlying64 rfl i34 rfl hA9 Tryz.underlying29 rfl i25) rfl ?_
   exact ⟨rfl, hb9.below (hb8.below hB3 (zj _) hB3.size) (by omega) (by have := hB3.size; omega)⟩
 ·have hd : zY s[k].toNat = false := by
   cases h : zY s[k].toNat
   ·rfl
   ·simp only [z7, zY, Bool.or_eq_true, yX, Yz] at hl h; omega
  have he : zI ((bytes s).drop k) = (1, alN ((bytes s).drop (k + 1)) + 1) := by rw [hdr]; simp only [zI, hl, if_true]
  rw [hKn] at he
  obtain ⟨rfl, hn⟩ : K = 1 /\ n = alN ((bytes s).drop (k + 1)) + 1 := by simpa using he
  have hrun := fun w => X7 s k true w (by omega) (by omega)
  have hru : ruN true ((bytes s).drop k) = n := by
   have := J4 s k hk (by rw [hl]; rfl)
   rw [hn]; exact this
  rw [hru] at hrun
  have hle : n <= s.size - k := by
   have := zcs ((bytes s).drop k)
   rw [yC, zc] at this
   have h2 : alN ((bytes s).drop k) = n := hru
   omega
  have HC : Hid (∀ w, Calls Tryz.prog 100 #[.string s, .int .i64 (k : Int), .bool true] w fun e w' => e = .returned (.int .i64 ((k + n : Nat) : Int)) /\ w' = w) := hrun
  have hbl : (((bytes s).drop k).take n).length = n := by rw [Yj, yC, zc]; omega
  clear hrun hru hKn he hdr
  by_cases h24 : 24 < n
  focus
   have hT : Hid (yR s k 1 n = zm 0 ⟨#[]⟩ 0 0 0) := by simp [Hid, yR, zG, hbl, h24]
   have hF : Hid (Zx s k 1 n = fa2 5 k) := by simp [Hid, Zx, zG, hbl, h24]
   rw [hT.out, hF.out]
  rotate_left
  focus
   obtain ⟨S, hS⟩ : ∃ S, Hid (S = s.extract k (k + n)) := ⟨_, (rfl : s.extract k (k + n) = _)⟩
   have hT : Hid (yR s k 1 n = zm 1 S k 0 0) := by simp [Hid, yR, zG, hbl, h24, clB, hS.out, yh, ZT]
   have hF : Hid (Zx s k 1 n = fa2 0 0) := by simp [Hid, Zx, zG, hbl, h24, clB]
   rw [hT.out, hF.out, hS.out]
  rotate_left
  all_goals
   clear hbl hn
   go_enter Tryz.func62, Tryz.ntmps62
   go_wp2_with (first | (refine zD (o := { dst := some 4, .. }) rfl rfl z34 ?_; intro w1 hA1 hb1 hs1) | (refine zD rfl rfl z25 ?_; intro w2 hA2 hb2 hs2; rw [hs1] at hA2) | (go_at_call 97; refine (ZA _ _ false hd).mono ?_; rintro e w2' ⟨rfl, rfl⟩) | (go_at_call 99; refine (yS _ _ true hl).mono ?_; rintro e w2' ⟨rfl, rfl⟩))
   refine (HC.out _).mono ?_
   rintro e w3 ⟨rfl, hw3⟩
   rw [hw3]; clear hw3
   have hR4 : At 64 w2' w.heap.size (zm 0 ⟨#[]⟩ 0 0 0) := hA1.below hb2
   have hR5 : At 29 w2' (w.heap.size + 1) (fa2 0 0) := hA2
   have hB3 : Below w.heap.size w w2' := hb1.trans (hb2.mono (by omega))
   clear hA1 hb1 hA2 hb2
  focus
   go_wp2_with (first | (refine zg rfl 64 #[] rfl (zm 0 ⟨#[]⟩ 0 0 0) (by kernel_rfl) ?_) | (refine zg rfl 29 _ rfl (fa2 5 k) (by kernel_rfl) ?_) | (refine zl rfl rfl hR4 (zm 0 ⟨#[]⟩ 0 0 0) rfl rfl i34 rfl (yo _ _ _ _ _) ?_; intro w8 hA8 hb8 hs8) | (refine zl rfl rfl (hb8.at hR5 (by omega)) (fa2 5 k) rfl rfl i25 rfl (yq _ _) ?_; intro w9 hA9 hb9 hs9))
   refine zr (zU rfl _ _ w.heap.size (w.heap.size + 1) 64 29 (zm 0 ⟨#[]⟩ 0 0 0) (fa2 5 k) _ _ rfl (hb9.at hA8 (by omega)) Tryz.underlying64 rfl i34 rfl hA9 Tryz.underlying29 rfl i25) rfl ?_
  rotate_left
  focus
   go_wp2_with (first | (refine zg rfl 64 _ rfl (zm 1 (s.extract k (k + n)) k 0 0) (by kernel_rfl) ?_) | (refine zg rfl 29 _ rfl (fa2 0 0) (by kernel_rfl) ?_) | (refine zl rfl rfl hR4 (zm 1 (s.extract k (k + n)) k 0 0) rfl rfl i34 rfl (yo _ _ _ _ _) ?_; intro w8 hA8 hb8 hs8) | (refine zl rfl rfl (hb8.at hR5 (by omega)) (fa2 0 0) rfl rfl i25 rfl (yq _ _) ?_; intro w9 hA9 hb9 hs9))
   refine zr (zU rfl _ _ w.heap.size (w.heap.size + 1) 64 29 (zm 1 (s.extract k (k + n)) k 0 0) (fa2 0 0) _ _ rfl (hb9.at hA8 (by omega)) Tryz.underlying64 rfl i34 rfl hA9 Tryz.underlying29 rfl i25) rfl ?_
  rotate_left
  all_goals
   exact ⟨rfl, hb9.below (hb8.below hB3 (zj _) hB3.size) (by omega) (by have := hB3.size; omega)⟩
theorem Ke (e p e' p' : Nat) (u : World) : (Op.equalIn 10000 29 (.agg (fa2 e p).toArray) (.agg (fa2 e' p').toArray)).run Tryz.prog u = .ok (decide (e = e') && decide (p = p')) u := by
 unfold fa2
 by_cases h1 : e = e'
 ·by_cases h2 : p = p'
  ·subst h1 h2
   go_simp
  ·have hp : ((p : Int) == (p' : Int)) = false := by rw [zt]; omega
   subst h1
   simp only [h2, decide_false, Bool.and_false]
   go_simp
 ·have he : ((e : Int) == (e' : Int)) = false := by rw [zt]; omega
  simp only [h1, decide_false, Bool.false_and]
  go_simp
theorem zfx (s : ByteArray) (j : Nat) (h : j < s.size) (hc : ¬ s[j].toNat = 10) : lnN ((bytes s).drop j) = lnN ((bytes s).drop (j + 1)) + 1 := by
 rw [z8 s j h]; simp only [lnN, hc, if_false]
theorem zgy (s : ByteArray) (j : Nat) (h : j < s.size) (hc : s[j].toNat = 10) : lnN ((bytes s).drop j) = 0 := by
 rw [z8 s j h]; simp only [lnN, hc, if_true]
theorem zfy (s : ByteArray) (j : Nat) (h : ¬ j < s.size) : lnN ((bytes s).drop j) = 0 := by
 rw [Yy s j h]; rfl
theorem zeU (w : World) : Calls Tryz.prog 61 #[.int .u8 35] w fun e w' => e = .returned (.bool false) /\ w' = w := KJ 35 w false rfl
theorem zbl (s : ByteArray) (w : World) (hmax : s.size <= 9223372036854775807) :
  Calls Tryz.prog 28 #[.string s] w fun e w' => Y6 w (y9 (bytes s)) e w' := by
 by_cases hlong : 16384 < s.size
 ·have hO : y9 (bytes s) = ⟨[], 3, 16384⟩ := by simp only [y9, zc, hlong, if_true]
  rw [hO]
  go_enter Tryz.func28, Tryz.ntmps28
  go_wp2_with (first | (refine zD rfl rfl z25 ?_; intro w1 hA1 hb1 hs1) | (refine zF rfl rfl (fa2 3 16384) ?_) | (refine zl rfl rfl hA1 (fa2 3 16384) rfl rfl i25 rfl (yq _ _) ?_; intro w9 hA9 hb9 hs9))
  refine zr (y7 rfl _ _ w.heap.size 29 (fa2 3 16384) _ rfl hA9 Tryz.underlying29 rfl i25) rfl ?_
  exact ⟨_, rfl, Toks.nil _ _, hb9.below hb1 (zj _) (by omega)⟩
 ·obtain ⟨O, hO⟩ : ∃ O, Hid (O = y9 (bytes s)) := ⟨_, (rfl : y9 (bytes s) = _)⟩
  have hO2 : Hid (O = ZR (bytes s) (s.size + 1) (0 + skN ((bytes s).drop 0))) := by show _ = _; rw [hO.out, y9, zc, ze hlong, List.drop_zero, Nat.zero_add]
  rw [<- hO.out]
  have hs16 : s.size <= 16384 := by omega
  go_enter Tryz.func28, Tryz.ntmps28
  go_wp2_with (first | (refine zD rfl rfl z25 ?_; intro w1 hA1 hb1 hs1))
  go_loopw [4, 5] (fun v p wr => ∃ (i f : Nat) (acc : List Tk), p = .int .i64 (i : Int) /\ i <= s.size /\ s.size < f + i /\ acc.length <= i /\ Hid ((ZR (bytes s) f (i + skN ((bytes s).drop i))).ahead acc = O) /\ Toks w1.heap.size wr v acc /\ Below w1.heap.size w1 wr) (fun _ p _ => s.size - (intOf p).toNat)
  case atStart => exact ⟨0, s.size + 1, [], rfl, by omega, by omega, by simp, by
   show _ = _
   rw [hO2.out]
   refine Out.ahead_nil _ ?_
   exact Vn _ _ _, Toks.nil _ _, Below.refl _ _⟩
  case round =>
   obtain ⟨i, f, acc, rfl, hi, hf, hal, hr, hown, hbl⟩ := hrel
   have hAr : At 29 wr w.heap.size (fa2 0 0) := by
    unfold At; rw [hbl.block w.heap.size (by omega)]; exact hA1
   have hbw : Below w.heap.size w wr := hb1.trans (hbl.mono (by omega))
   by_cases hc : i < s.size
   ·cases hbk : Jh s[i].toNat
    ·by_cases hn : s[i].toNat = 35
     ·have hkey := zb1 s i hc hn
      have hle := zbx ((bytes s).drop i)
      rw [yC, zc] at hle
      have hpos : 1 <= lnN ((bytes s).drop i) := by rw [z8 s i hc]; simp [lnN, hn]
      obtain ⟨T, hT⟩ : ∃ T, Hid (T = i + lnN ((bytes s).drop i)) := ⟨_, (rfl : i + lnN ((bytes s).drop i) = _)⟩
      have hTle : i + 1 <= T /\ T <= s.size := by rw [hT.out]; omega
      have hr' : Hid ((ZR (bytes s) f (T + skN ((bytes s).drop T))).ahead acc = O) := by
       show _ = _
       rw [<- hr.out, hkey, hT.out]
      have hn' : (s[i].toNat : Int) = 35 := by omega
      clear hkey hle hpos hr
      go_wp2_with (first | (go_at_call 61; refine (zeU _).mono ?_; rintro e w2' ⟨rfl, rfl⟩))
      go_loopw [5] (fun p wq => ∃ j : Nat, p = .int .i64 (j : Int) /\ i <= j /\ j <= s.size /\ Hid (j + lnN ((bytes s).drop j) = T) /\ wq = w2') (fun p _ => s.size - (intOf p).toNat)
      case atStart => exact ⟨i, rfl, by omega, by omega, hT.out.symm, rfl⟩
      case round =>
       obtain ⟨j, rfl, hj1, hj2, hj3, rfl⟩ := hrel
       by_cases hcj : j < s.size
       ·by_cases h10 : s[j].toNat = 10
        ·have hfin : Hid (j = T) := by show _ = _; have := hj3.out; rw [zgy s j hcj h10] at this; omega
         have h10' : ((s[j].toNat : Int) != 10) = false := by simp; omega
         clear hj3
         go_wp2
         go_roundw
         case rel => exact ⟨j, f, acc, rfl, by omega, by omega, by omega, by rw [hfin.out]; exact hr', hown, hbl⟩
         case measure => have := hfin.out; simp [intOf]; omega
        ·have hj3' : Hid (j + 1 + lnN ((bytes s).drop (j + 1)) = T) := by show _ = _; have := hj3.out; rw [zfx s j hcj h10] at this; omega
         have h10' : ((s[j].toNat : Int) != 10) = true := by simp; omega
         clear hj3
         go_wp2
         go_roundw
         case rel => exact ⟨j + 1, by go_num, by omega, by omega, hj3', trivial⟩
         case measure => simp [intOf]; omega
       ·have hfin : Hid (j = T) := by show _ = _; have := hj3.out; rw [zfy s j hcj] at this; omega
        clear hj3
        go_wp2
        go_roundw
        case rel => exact ⟨j, f, acc, rfl, by omega, by omega, by omega, by rw [hfin.out]; exact hr', hown, hbl⟩
        case measure => have := hfin.out; simp [intOf]; omega
     ·have hz := zb2 s i hc hbk hn
      rw [hz, Nat.add_zero] at hr
      have hn' : ((s[i].toNat : Int) == 35) = false := by rw [zt]; omega
      clear hz
      obtain ⟨f', rfl⟩ : ∃ f', f = f' + 1 := ⟨f - 1, by omega⟩
      obtain ⟨K, n, hKn⟩ : ∃ K n, zI ((bytes s).drop i) = (K, n) := ⟨_, _, rfl⟩
      have hbd := Zv ((bytes s).drop i) (by rw [yC, zc]; omega)
      rw [hKn, yC, zc] at hbd
      obtain ⟨hn1, hn2, hKs⟩ := hbd
      simp only [] at hn1 hn2
      clear hKs
      have hle : i + n <= s.size := by omega
      have hlA := zaD (bytes s) f' i (by rw [zc]; exact hc)
      have hlC := JF (bytes s) f' i (by rw [zc]; exact hc)
      have hlS := jw (bytes s) f' i (by rw [zc]; exact hc)
      rw [hKn] at hlA hlC hlS
      simp only [] at hlA hlC hlS
      have htok := zfp s i K n wr hc (by omega) hKn
      unfold yR Zx at htok
      have hx5 := Vz K s i n
      obtain ⟨S, hS⟩ : ∃ S, Hid (S = s.extract i (i + n)) := ⟨_, (rfl : s.extract i (i + n) = _)⟩
      have hSz : S.size = n := by rw [hS.out, <- zc, yp, XP, Yj, yC, zc]; omega
      obtain ⟨x, hx⟩ : ∃ x, Hid (x = ((bytes s).drop i).take n) := ⟨_, (rfl : ((bytes s).drop i).take n = _)⟩
      rw [<- hx.out] at hlA hlC hlS htok hx5
      rw [<- hS.out] at hx5 htok
      have HX5 : Hid ((Xn K x i).cells = zm K S i (yh K) (ZT K x)) := hx5.symm
      clear hx5 hKn
      by_cases hgood : zG K x = 0 /\ clB K ((bytes s).drop (i + n)) = false
      focus
       obtain ⟨he, hcb⟩ := hgood
       rw [zi ⟨he, hcb⟩, ze (by rw [he]; simp), ze (by rw [hcb]; simp)] at htok
       obtain ⟨Tv, hTv⟩ : ∃ T, Hid (T = yh K) := ⟨_, (rfl : yh K = _)⟩
       obtain ⟨V, hV⟩ : ∃ V, Hid (V = ZT K x) := ⟨_, (rfl : ZT K x = _)⟩
       rw [<- hTv.out, <- hV.out] at htok
       have HX6 : Hid ((Xn K x i).cells = zm K S i Tv V) := by show _ = _; rw [HX5.out, hTv.out, hV.out]
       have HTOK : Hid (Calls Tryz.prog 62 #[.string s, .int .i64 (i : Int)] wr fun e w' => e = .returned (.tuple #[.agg (zm K S i Tv V).toArray, .agg (fa2 0 0).toArray]) /\ Below wr.heap.size wr w') := htok
       have HO : Hid (O = (ZR (bytes s) f' (i + n + skN ((bytes s).drop (i + n)))).ahead (acc ++ [Xn K x i])) := by
        show _ = _
        rw [<- hr.out, hlS he hcb, Out.ahead_ahead]
       have hq := Ke 0 0 0 0
       simp only [decide_true, Bool.and_true] at hq
       clear htok hlA hlC hlS hr he hcb
      rotate_left
      focus
       have hkey : ∃ E p : Nat, E ≠ 0 /\ (if zG K x ≠ 0 then fa2 (zG K x) i else if clB K ((bytes s).drop (i + n)) = true then fa2 4 (i + n) else fa2 0 0) = fa2 E p /\ O = ⟨[], E, p⟩ := by
        by_cases he : zG K x = 0
        ·have hcb : clB K ((bytes s).drop (i + n)) = true := by
          cases h : clB K ((bytes s).drop (i + n))
          ·exact absurd ⟨he, h⟩ hgood
          ·rfl
         refine ⟨4, i + n, by decide, by rw [ze (by rw [he]; simp), zi hcb], ?_⟩
         rw [<- hr.out, hlC he hcb]
         rfl
        ·refine ⟨zG K x, i, he, by rw [zi he], ?_⟩
         rw [<- hr.out, hlA he, Out.ahead, ze he]
       obtain ⟨E, p, hE0, hfa, hOE⟩ := hkey
       rw [ze hgood, hfa] at htok
       have HO : Hid (O = ⟨[], E, p⟩) := hOE
       have HTOK : Hid (Calls Tryz.prog 62 #[.string s, .int .i64 (i : Int)] wr fun e w' => e = .returned (.tuple #[.agg (zm 0 ⟨#[]⟩ 0 0 0).toArray, .agg (fa2 E p).toArray]) /\ Below wr.heap.size wr w') := htok
       have hq := Ke E p 0 0
       simp only [hE0, decide_false, Bool.false_and] at hq
       clear htok hlA hlC hlS hr hfa hOE hgood
      rotate_left
      all_goals
       go_wp2_with (first | (go_at_call 61; refine (KJ _ _ false hbk).mono ?_; rintro e w2' ⟨rfl, rfl⟩))
       refine (HTOK.out).mono ?_
       rintro e wA ⟨rfl, hbA⟩
      focus
       go_wp2_with (first | (refine zD rfl rfl z34 ?_; intro wB hAB hbB hsB) | (refine zD rfl rfl z25 ?_; intro wC hAC hbC hsC) | (refine zl rfl rfl (hAB.below hbC) (zm K S i Tv V) rfl rfl i34 rfl (yo _ _ _ _ _) ?_; intro wD hAD hbD hsD) | (refine zl rfl rfl (hbD.at hAC (by omega)) (fa2 0 0) rfl rfl i25 rfl (yq _ _) ?_; intro wE hAE hbE hsE; refine zb ?_))
      rotate_left
      focus
       go_wp2_with (first | (refine zD rfl rfl z34 ?_; intro wB hAB hbB hsB) | (refine zD rfl rfl z25 ?_; intro wC hAC hbC hsC) | (refine zl rfl rfl (hAB.below hbC) (zm 0 ⟨#[]⟩ 0 0 0) rfl rfl i34 rfl (yo _ _ _ _ _) ?_; intro wD hAD hbD hsD) | (refine zl rfl rfl (hbD.at hAC (by omega)) (fa2 E p) rfl rfl i25 rfl (yq _ _) ?_; intro wE hAE hbE hsE; refine zb ?_))
      rotate_left
      all_goals
       refine Lib.hid ?_
       have hlt : w2'.heap.size <= wA.heap.size := hbA.size
      focus
       rw [hsB] at hAE
      all_goals
       have hbEw : Below w2'.heap.size w2' wE := hbE.below (hbD.below ((hbA.trans (hbB.mono hbA.size)).trans (hbC.mono (by omega))) (by omega) (by omega)) (by omega) (by omega)
      ·have hownE := hown.below hbEw
       have hAtE : At 64 wE wA.heap.size (zm K S i Tv V) := hbE.at hAD (by omega)
       have hcell1 : wE.cell? ⟨wA.heap.size, 1, none⟩ = some (.string S) := by rw [hAtE.cell]; rfl
       have hbl2 : Below w1.heap.size w1 wE := hbl.trans (hbEw.mono hbl.size)
       have hszE : w1.heap.size <= wE.heap.size := hbl2.size
       clear hAB hbB hAC hbC hAD hbD hbE hbA hbEw
       go_wp2_with (first | (refine lL rfl rfl hAE rfl Tryz.underlying29 rfl i25 ?_) | (refine zF rfl rfl (fa2 0 0) ?_) | (refine lL rfl rfl hAtE rfl Tryz.underlying64 rfl i34 ?_) | (refine Y7 rfl (.tmp 49) rfl K S i Tv V rfl ?_; intro wF hAF hbF hsF) | (refine jL rfl (.tmp 48) (.tmp 50) rfl w1.heap.size wE.heap.size _ acc (Xn K x i) rfl rfl (hownE.below hbF) (by rw [HX6.out]; exact hAF) (by omega) (zQ hszE hbF.size) ?_; intro v' wG hownG hbG hgr; refine zb ?_))
       refine Lib.hid ?_
       have hbG2 : Below w1.heap.size w1 wG := (hbl2.trans (hbF.mono hszE)).trans hbG
       have hcellG : wG.cell? ⟨wA.heap.size, 1, none⟩ = some (.string S) := by
        have hlt2 := hown.blockLt
        have h1 : wF.cell? ⟨wA.heap.size, 1, none⟩ = some (.string S) := by rw [hbF.cell hAtE.lt]; exact hcell1
        rw [World.cell?_of_block (w := wF) (hgr.block wA.heap.size (Zy hAtE.lt hbF.size) (fun e => by have := hlt2 _ e.symm; omega))]
        exact h1
       clear hAF hbF hbG hbl2 hownE hcell1
       go_wp2
       go_roundw
       case rel => exact ⟨i + n, f', acc ++ [Xn K x i], by go_num, by omega, by omega, by simp; omega, HO.out.symm, hownG, hbG2⟩
       case measure => simp [intOf]; omega
      ·rw [hsB] at hAE
       have hArE := hAr.below hbEw
       have hbwE := hbw.trans (hbEw.mono hbw.size)
       have hglt : w.heap.size < w2'.heap.size := hAr.lt
       have hS0 : wE.drew.rangeAt (wA.heap.size + 1) 0 (fa2 E p) := by
        have := hAE.range 0 2
        exact this
       have hth : wE.drew.there w.heap.size 0 2 := hArE.there 0 2 (by decide)
       clear hAB hbB hAC hbC hAD hbD hbE hbA hbEw
       go_wp2_with (first | (refine lL rfl rfl hAE rfl Tryz.underlying29 rfl i25 ?_) | (refine zF rfl rfl (fa2 0 0) ?_))
       refine wp_region_held_drew (S := fun w' => w'.rangeAt (wA.heap.size + 1) 0 (fa2 E p)) (by kernel_rfl) hS0 (fun _ => ?_)
       refine wpAnyH_take (i := 0) (oi := { dst := some 47, op := .load 29 (.tmp 7), guard := none, .. }) rfl (by kernel_rfl) (by kernel_rfl) (by kernel_rfl) (fun _ _ _ h => h) (yieldsIf_load_mid (by rfl) 29 (.tmp 7) rfl (wA.heap.size + 1) 0 rfl (fa2 E p) _ (fun w hSw => hSw) Tryz.underlying29 rfl i25) hS0 ?_
       simp only [Act.put, sA, sB, sC]
       refine tY 1 (.slice none 0 0) (oi := { dst := some 2, op := .assign (.const (.slice none 0 0)), guard := none, .. }) rfl hS0 ?_ ?_
       ·intro w hSw
        go_simp
       simp only [Act.put, sA, sB, sC]
       refine wpAnyH_ready (rs := [2]) (by kernel_rfl) (by simp) ?_
       refine AllReadyH.cons (o := { dst := none, op := .store 29 (.tmp 3) (.tmp 47), guard := none, .. }) rfl (fun K hK => ?_) AllReadyH.nil
       rw [zi (by rfl)]
       refine wp_store_mid (P := Tryz.prog) 29 (.tmp 3) (.tmp 47) rfl w.heap.size 0 (fa2 E p).toArray rfl rfl hth i25 (all_oneCell_toArray (yq E p)) ?_
       refine hK.out _ _ (World.rangeAt_setCells_apart hS0 _ _ _ (.inl (by omega))) (fun _ => ?_)
       refine wpAnyH_done (by kernel_rfl) ?_ _
       have hA9 : At 29 (wE.drew.setCells w.heap.size 0 (fa2 E p)) w.heap.size (fa2 E p) := (((show At 29 wE.drew w.heap.size (fa2 0 0) from hArE).set 0 _).set 1 _)
       have hb9 : But w.heap.size wE (wE.drew.setCells w.heap.size 0 (fa2 E p)) := (((⟨rfl, rfl, rfl, zj _, fun _ _ _ => rfl⟩ : But w.heap.size wE wE.drew).setCell 0 (.int .i64 (E : Int))).setCell 1 (.int .i64 (p : Int)))
       go_wp2
       refine zr (y7 rfl _ _ w.heap.size 29 (fa2 E p) _ rfl hA9 Tryz.underlying29 rfl i25) rfl ?_
       exact ⟨_, by rw [HO.out], by rw [HO.out]; exact Toks.nil _ _, hb9.below hbwE (zj _) hbwE.size⟩
    ·have hr' : Hid ((ZR (bytes s) f (i + 1 + skN ((bytes s).drop (i + 1)))).ahead acc = O) := by show _ = _; rw [<- hr.out, qZ s i hc hbk]
     clear hr
     go_wp2_with (first | (go_at_call 61; refine (KJ _ _ true hbk).mono ?_; rintro e w2' ⟨rfl, rfl⟩))
     go_roundw
     case rel => exact ⟨i + 1, f, acc, by go_num, by omega, by omega, by omega, hr', hown, hbl⟩
     case measure => simp [intOf]; omega
   ·have hend : Hid (O = ⟨acc, 0, 0⟩) := by
     show _ = _
     rw [<- hr.out, zaE _ _ _ (by rw [zc]; omega)]
     simp [Out.ahead]
    go_wp2_with (first | (refine zF rfl rfl (fa2 0 0) ?_) | (refine zl rfl rfl hAr (fa2 0 0) rfl rfl i25 rfl (yq _ _) ?_; intro w9 hA9 hb9 hs9))
    refine zr (y7 rfl _ _ w.heap.size 29 (fa2 0 0) _ rfl hA9 Tryz.underlying29 rfl i25) rfl ?_
    refine ⟨_, by rw [hend.out], by rw [hend.out]; exact Toks.low (base := w1.heap.size) (hown.keep fun g hg hlt => hb9.block g hlt (by have := hown.block g hg; omega)) (by omega), hb9.below hbw (zj _) hbw.size⟩
def Ends (l : List Tk) : Prop := ∃ pre p, l = pre ++ [⟨0, [], p, 0⟩]
theorem Ends.ne {l : List Tk} (h : Ends l) : l ≠ [] := by
 obtain ⟨pre, p, rfl⟩ := h
 simp
theorem Ends.cons {l : List Tk} (h : Ends l) : l = hdT l :: l.tail := by
 cases l with
 | nil => exact absurd rfl h.ne
 | cons t r => rfl
theorem Ends.tail {l : List Tk} (h : Ends l) (hn : (hdT l).text ≠ [] \/ (hdT l).kind ≠ 0) : Ends l.tail := by
 obtain ⟨pre, p, rfl⟩ := h
 cases pre with
 | nil => exact absurd hn (by simp [hdT])
 | cons t r => exact ⟨r, p, rfl⟩
structure RdAt (w : World) (g gt o c : Nat) (l : List Tk) : Prop where
 cell : At 97 w g [.slice (some ⟨gt, o, none⟩) l.length c]
 ne : gt ≠ g
 cap : l.length <= c
 toks : w.rangeAt gt o (Yp l)
 ends : Ends l
 bits : ∀ t ∈ l, t.bits < 18446744073709551616
def Rd (B : Nat) (w : World) (g : Nat) (l : List Tk) : Prop := ∃ gt o c, RdAt w g gt o c l /\ gt < B /\ g < B
theorem jD (t : Tk) (r : List Tk) : Yp (t :: r) = t.cells ++ Yp r := rfl
theorem zaX {w : World} {g o : Nat} {v : Value} (h : w.cell? ⟨g, o, none⟩ = some v) : g < w.heap.size := Yn h
theorem RdAt.head {w : World} {g gt o c : Nat} {l : List Tk} (h : RdAt w g gt o c l) : w.rangeAt gt o (hdT l).cells := by
 intro j v hj
 refine h.toks j v ?_
 rw [h.ends.cons, jD, KA (List.getElem?_eq_some_iff.1 hj).1]
 exact hj
theorem RdAt.gt_lt {w : World} {g gt o c : Nat} {l : List Tk} (h : RdAt w g gt o c l) : gt < w.heap.size := zaX (h.head 0 _ rfl)
theorem RdAt.g_lt {w : World} {g gt o c : Nat} {l : List Tk} (h : RdAt w g gt o c l) : g < w.heap.size := h.cell.lt
theorem Rd.lt {B : Nat} {w : World} {g : Nat} {l : List Tk} (h : Rd B w g l) : g < w.heap.size := by
 obtain ⟨_, _, _, h, _⟩ := h
 exact h.g_lt
theorem RdAt.below {w w' : World} {g gt o c : Nat} {l : List Tk} (h : RdAt w g gt o c l) (hb : Below w.heap.size w w') : RdAt w' g gt o c l :=
 ⟨h.cell.below hb, h.ne, h.cap, fun j v hj => by rw [World.cell?_of_block (w := w) (hb.block gt h.gt_lt)]; exact h.toks j v hj, h.ends, h.bits⟩
theorem Rd.below {B : Nat} {w w' : World} {g : Nat} {l : List Tk} (h : Rd B w g l) (hb : Below w.heap.size w w') : Rd B w' g l := by
 obtain ⟨gt, o, c, h, h2⟩ := h
 exact ⟨gt, o, c, h.below hb, h2⟩
theorem RdAt.but {w w' : World} {g gt o c k : Nat} {l : List Tk} (h : RdAt w g gt o c l) (hb : But k w w') (h1 : g ≠ k) (h2 : gt ≠ k) : RdAt w' g gt o c l :=
 ⟨hb.at h.cell h1, h.ne, h.cap, fun j v hj => by rw [World.cell?_of_block (w := w) (hb.block gt h.gt_lt h2)]; exact h.toks j v hj, h.ends, h.bits⟩
theorem Rd.but {B : Nat} {w w' : World} {g k : Nat} {l : List Tk} (h : Rd B w g l) (hb : But k w w') (hk : B <= k) : Rd B w' g l := by
 obtain ⟨gt, o, c, h, h1, h2⟩ := h
 exact ⟨gt, o, c, h.but hb (by omega) (by omega), h1, h2⟩
theorem J8 {w : World} {g o : Nat} {t : Tk} (h : w.rangeAt g o t.cells) : w.cell? ⟨g, o, none⟩ = some (.int .i64 (t.kind : Int)) /\ w.cell? ⟨g, o + 1, none⟩ = some (.string ⟨t.text.toArray⟩) /\ w.cell? ⟨g, o + 2, none⟩ = some (.int .i64 (t.place : Int)) /\ w.cell? ⟨g, o + 3, none⟩ = some (.int .u8 (yh t.kind : Nat)) /\ w.cell? ⟨g, o + 4, none⟩ = some (.int .u64 (t.bits : Nat)) :=
 ⟨h 0 _ rfl, h 1 _ rfl, h 2 _ rfl, h 3 _ rfl, h 4 _ rfl⟩
theorem ZL {B : Nat} (g : Nat) (l : List Tk) (w : World) (h : Rd B w g l) :
  Calls Tryz.prog 92 #[.pointer (some ⟨g, 0, none⟩)] w fun r w' => r = .returned (.agg (hdT l).cells.toArray) /\ Below w.heap.size w w' := by
 obtain ⟨gt, o, c, h, _⟩ := h
 obtain ⟨q0, q1, q2, q3, q4⟩ := J8 h.head
 have hl : l.length = l.tail.length + 1 := by rw [h.ends.cons]; rfl
 have hc := h.cell.cell 0
 have hlt := h.gt_lt
 have hlg := h.g_lt
 generalize hdT l = t at q0 q1 q2 q3 q4 ⊢
 generalize l.tail.length = m at hl
 rw [hl] at hc
 clear h hl
 show Calls Tryz.prog 92 #[.pointer (some ⟨g, 0, none⟩)] w fun r w' => r = .returned (.agg (zm t.kind ⟨t.text.toArray⟩ t.place (yh t.kind) t.bits).toArray) /\ Below w.heap.size w w'
 obtain ⟨K, T, p, b⟩ := t
 generalize yh K = vt at *
 have hc : w.cell? ⟨g, 0, none⟩ = some (.slice (some ⟨gt, o, none⟩) (m + 1) c) := hc
 dsimp only at q0 q1 q2 q3 q4 ⊢
 go_enter Tryz.func92, Tryz.ntmps92
 go_wp2_with (first
  | (refine zD rfl rfl z34 ?_; intro w1 hA1 hb1 hs1; rw [<- hb1.cell hlt] at q0 q1 q2 q3 q4; rw [<- hb1.cell hlg] at hc)
  | (refine zl rfl rfl hA1 (zm K ⟨T.toArray⟩ p vt b) rfl rfl i34 rfl (yo _ _ _ _ _) ?_; intro w9 hA9 hb9 hs9))
 refine zr (zh rfl _ _ w.heap.size 64 (zm K ⟨T.toArray⟩ p vt b) _ rfl hA9 Tryz.underlying64 rfl i34) rfl ?_
 exact ⟨rfl, hb9.below hb1 (zj _) (by omega)⟩
theorem i60 : (Tryz.prog.info? 60).map (·.size) = some 1 := by kernel_rfl
theorem KV (w : World) (gt o m c : Nat) (hm : m + 1 <= c) (h1 : 1 <= m) : (Instr.slice 60 (.slice (some ⟨gt, o, none⟩) (m + 1) c) (some (.int .i64 1)) none none).run Tryz.prog w = .ok (.slice (some ⟨gt, o + 5, none⟩) m (c - 1)) w := by
 simp [go_sem, Instr.slice]
 rw [zi (by omega), ze (by omega)]
theorem YP {B : Nat} (g : Nat) (l : List Tk) (w : World) (h : Rd B w g l) (hn : (hdT l).text ≠ [] \/ (hdT l).kind ≠ 0) :
  Calls Tryz.prog 93 #[.pointer (some ⟨g, 0, none⟩)] w fun r w' => r = .returned (.tuple #[]) /\ Rd B w' g l.tail /\ But g w w' := by
 obtain ⟨gt, o, c, h, hB⟩ := h
 have hl : l.length = l.tail.length + 1 := by rw [h.ends.cons]; rfl
 have hc := h.cell.cell 0
 have HA : Hid (At 97 w g [.slice (some ⟨gt, o, none⟩) l.length c]) := h.cell
 have hcap := h.cap
 have hm1 : 1 <= l.tail.length := List.length_pos_iff.2 (h.ends.tail hn).ne
 have HG : Hid (∀ w', At 97 w' g [.slice (some ⟨gt, o + 5, none⟩) l.tail.length (c - 1)] -> But g w w' -> Rd B w' g l.tail) := fun w' h1 h2 =>
  ⟨gt, o + 5, c - 1, ⟨h1, h.ne, by have := h.cap; omega, fun j v hj => by
   rw [World.cell?_of_block (w := w) (h2.block gt h.gt_lt h.ne)]
   have := h.toks (j + 5) v (by
    rw [h.ends.cons, jD, Kz (by show 5 <= j + 5; omega)]
    exact hj)
   rw [show o + 5 + j = o + (j + 5) by omega]
   exact this, h.ends.tail hn, fun t ht => h.bits t (List.mem_of_mem_tail ht)⟩, hB⟩
 generalize l.tail.length = m at hl HG hm1
 rw [hl] at hc hcap HA
 clear h hl
 have hc : w.cell? ⟨g, 0, none⟩ = some (.slice (some ⟨gt, o, none⟩) (m + 1) c) := hc
 have hS := fun w => KV w gt o m c hcap hm1
 go_enter Tryz.func93, Tryz.ntmps93
 go_wp2_with (first
  | (refine YQ rfl rfl HA.out 0 (.slice (some ⟨gt, o + 5, none⟩) m (c - 1)) rfl rfl i60 ?_; intro w6 hA6 hb6 hs6; refine zb ?_))
 refine zd ?_
 have hR := HG.out w6 hA6 hb6
 clear HG hA6 HA hS hc hcap
 go_wp2
 go_end0
 exact ⟨rfl, hR, hb6⟩
def zV (e p : Nat) : Ending := .panicked [{ v := .iface 29 (.agg #[.int .i64 (e : Int), .int .i64 (p : Int)]), recovered := false }]
theorem ZX (e p : Nat) (w : World) : Calls Tryz.prog 54 #[.int .i64 (e : Int), .int .i64 (p : Int)] w fun r w' => r = zV e p /\ w' = w := by
 go_enter Tryz.func54, Tryz.ntmps54
 go_wp2
 exact ⟨rfl, rfl, rfl⟩
theorem KC (K : Int) (S : ByteArray) (p t b : Int) (w : World) : (Instr.field 64 (.agg #[.int .i64 K, .string S, .int .i64 p, .int .u8 t, .int .u64 b]) 1).run Tryz.prog w = .ok (.string S) w := by kernel_rfl
theorem Y4 (K : Int) (S : ByteArray) (p t b : Int) (w : World) : (Instr.field 64 (.agg #[.int .i64 K, .string S, .int .i64 p, .int .u8 t, .int .u64 b]) 2).run Tryz.prog w = .ok (.int .i64 p) w := by kernel_rfl
theorem Zi {B : Nat} (g : Nat) (l : List Tk) (w : World) (h : Rd B w g l) :
  Calls Tryz.prog 60 #[.pointer (some ⟨g, 0, none⟩)] w fun r w' => r = zV 4 (hdT l).place /\ Below w.heap.size w w' := by
 have hN := ZL g l w h
 generalize hdT l = t at hN ⊢
 obtain ⟨K, T, p, b⟩ := t
 have hN : Calls Tryz.prog 92 #[.pointer (some ⟨g, 0, none⟩)] w fun r w' => r = .returned (.agg #[.int .i64 (K : Int), .string ⟨T.toArray⟩, .int .i64 (p : Int), .int .u8 (yh K : Nat), .int .u64 (b : Nat)]) /\ Below w.heap.size w w' := hN
 clear h
 have hf := fun w => Y4 K ⟨T.toArray⟩ p (yh K : Nat) b w
 go_enter Tryz.func60, Tryz.ntmps60
 go_wp2_with (first
  | (go_at_call 92; refine hN.mono ?_; rintro r w1 ⟨rfl, hb1⟩)
  | (go_at_call 54; refine (ZX 4 p _).mono ?_; rintro r w2 ⟨hr, rfl⟩; unfold zV at hr; subst hr))
 exact ⟨rfl, rfl, hb1⟩
theorem Jc {B : Nat} (g : Nat) (l : List Tk) (x : ByteArray) (hx : bytes x ≠ []) (w : World) (h : Rd B w g l) :
  Calls Tryz.prog 55 #[.pointer (some ⟨g, 0, none⟩), .string x] w fun r w' => r = .returned (.bool (decide ((hdT l).text = bytes x))) /\ Rd B w' g (if (hdT l).text = bytes x then l.tail else l) /\ But g w w' := by
 have hN := ZL g l w h
 have HT := fun w (h : Rd B w g l) hn => YP g l w h hn
 by_cases hc : (hdT l).text = bytes x
 focus
  rw [zi hc, yy hc]
  have HT : Hid (∀ u, Below w.heap.size w u -> Calls Tryz.prog 93 #[.pointer (some ⟨g, 0, none⟩)] u fun r w' => r = .returned (.tuple #[]) /\ Rd B w' g l.tail /\ But g u w') := fun u hu => HT u (h.below hu) (.inl (by rw [hc]; exact hx))
  have hs : ((hdT l).text == x.toList) = true := by rw [zf, beq_iff_eq]; exact hc
  clear hc hx
 rotate_left
 focus
  rw [ze hc, zN hc]
  have HR : Hid (∀ u, Below w.heap.size w u -> Rd B u g l) := fun u hu => h.below hu
  have hs : ((hdT l).text == x.toList) = false := by rw [zf, zt]; exact hc
  clear hc hx HT
 rotate_left
 all_goals
  generalize hdT l = t at hN hs
  obtain ⟨K, T, p, b⟩ := t
  have hN : Calls Tryz.prog 92 #[.pointer (some ⟨g, 0, none⟩)] w fun r w' => r = .returned (.agg #[.int .i64 (K : Int), .string ⟨T.toArray⟩, .int .i64 (p : Int), .int .u8 (yh K : Nat), .int .u64 (b : Nat)]) /\ Below w.heap.size w w' := hN
  dsimp only at hs
  have hf := fun w => KC K ⟨T.toArray⟩ p (yh K : Nat) b w
  go_enter Tryz.func55, Tryz.ntmps55
 ·go_wp2_with (first
   | (go_at_call 92; refine hN.mono ?_; rintro r w1 ⟨rfl, hb1⟩)
   | (go_at_call 93; refine (HT.out _ hb1).mono ?_; rintro r w2 ⟨rfl, hR, hb2⟩))
  go_ret
  exact ⟨rfl, hR, (But.of_below hb1).trans hb2⟩
 ·go_wp2_with (first
   | (go_at_call 92; refine hN.mono ?_; rintro r w1 ⟨rfl, hb1⟩))
  go_ret
  exact ⟨rfl, HR.out _ hb1, But.of_below hb1⟩
def KM (B g : Nat) (w : World) (R : Rs Unit) (r : Ending) (w' : World) : Prop :=
 match R with
 | .ok _ l => r = .returned (.tuple #[]) /\ Rd B w' g l /\ But g w w'
 | .bad e p => r = zV e p /\ But g w w'
theorem Yc {B : Nat} (g : Nat) (l : List Tk) (x : ByteArray) (hx : bytes x ≠ []) (w : World) (h : Rd B w g l) :
  Calls Tryz.prog 58 #[.pointer (some ⟨g, 0, none⟩), .string x] w fun r w' => KM B g w (zq (bytes x) l) r w' := by
 have hT := Jc g l x hx w h
 by_cases hc : (hdT l).text = bytes x
 ·have hm : zq (bytes x) l = .ok () l.tail := by unfold zq; rw [zi hc]
  rw [hm]
  rw [zi hc, yy hc] at hT
  clear hc hx h hm
  go_enter Tryz.func58, Tryz.ntmps58
  go_wp2_with (first
   | (go_at_call 55; refine hT.mono ?_; rintro r w1 ⟨rfl, hR, hb1⟩))
  go_end0
  exact ⟨rfl, hR, hb1⟩
 ·have hm : zq (bytes x) l = .bad 4 (hdT l).place := by unfold zq; rw [ze hc]
  rw [hm]
  rw [ze hc, zN hc] at hT
  have HN : Hid (∀ u, Rd B u g l -> Calls Tryz.prog 60 #[.pointer (some ⟨g, 0, none⟩)] u fun r w' => r = zV 4 (hdT l).place /\ Below u.heap.size u w') := fun u hu => Zi g l u hu
  clear hc hx h hm
  generalize (hdT l).place = p at HN ⊢
  go_enter Tryz.func58, Tryz.ntmps58
  go_wp2_with (first
   | (go_at_call 55; refine hT.mono ?_; rintro r w1 ⟨rfl, hR, hb1⟩)
   | (go_at_call 60; refine (HN.out _ hR).mono ?_; rintro r w2 ⟨hr, hb2⟩; unfold zV at hr; subst hr))
  exact ⟨rfl, rfl, hb1.trans (But.of_below hb2)⟩
def zcw (B g : Nat) (w : World) (R : Rs (List UInt8)) (r : Ending) (w' : World) : Prop :=
 match R with
 | .ok x l => r = .returned (.string ⟨x.toArray⟩) /\ Rd B w' g l /\ But g w w'
 | .bad e p => r = zV e p /\ But g w w'
def zM (l : List Tk) : Rs (List UInt8) := if Yg (hdT l).text then .ok (hdT l).text l.tail else .bad 4 (hdT l).place
theorem Km {x : List UInt8} (h : Yg x = true) : x ≠ [] := by
 rintro rfl
 exact absurd h (by decide)
theorem Zt {B : Nat} (g : Nat) (l : List Tk) (w : World) (h : Rd B w g l) :
  Calls Tryz.prog 57 #[.pointer (some ⟨g, 0, none⟩)] w fun r w' => zcw B g w (zM l) r w' := by
 have hN := ZL g l w h
 cases hc : Yg (hdT l).text
 focus
  have hm : zM l = .bad 4 (hdT l).place := by unfold zM; rw [ze (by rw [hc]; decide)]
  rw [hm]
  have HN : Hid (∀ u, Below w.heap.size w u -> Calls Tryz.prog 60 #[.pointer (some ⟨g, 0, none⟩)] u fun r w' => r = zV 4 (hdT l).place /\ Below u.heap.size u w') := fun u hu => Zi g l u (h.below hu)
  have hM := fun w => Ko ⟨(hdT l).text.toArray⟩ w
  have e : Yg (bytes ⟨(hdT l).text.toArray⟩) = false := hc
  rw [e] at hM
  clear hc hm h e
  generalize hdT l = t at hN hM HN ⊢
 rotate_left
 focus
  have hm : zM l = .ok (hdT l).text l.tail := by unfold zM; rw [zi hc]
  rw [hm]
  have HT : Hid (∀ u, Below w.heap.size w u -> Calls Tryz.prog 93 #[.pointer (some ⟨g, 0, none⟩)] u fun r w' => r = .returned (.tuple #[]) /\ Rd B w' g l.tail /\ But g u w') := fun u hu => YP g l u (h.below hu) (.inl (Km hc))
  have hM := fun w => Ko ⟨(hdT l).text.toArray⟩ w
  have e : Yg (bytes ⟨(hdT l).text.toArray⟩) = true := hc
  rw [e] at hM
  clear hc hm h e
  generalize hdT l = t at hN hM ⊢
 rotate_left
 all_goals
  obtain ⟨K, T, p, b⟩ := t
  have hN : Calls Tryz.prog 92 #[.pointer (some ⟨g, 0, none⟩)] w fun r w' => r = .returned (.agg #[.int .i64 (K : Int), .string ⟨T.toArray⟩, .int .i64 (p : Int), .int .u8 (yh K : Nat), .int .u64 (b : Nat)]) /\ Below w.heap.size w w' := hN
 focus
  dsimp only at hM HN ⊢
 rotate_left
 focus
  dsimp only at hM ⊢
 rotate_left
 all_goals
  have hf := fun w => KC K ⟨T.toArray⟩ p (yh K : Nat) b w
  go_enter Tryz.func57, Tryz.ntmps57
 ·go_wp2_with (first
   | (go_at_call 92; refine hN.mono ?_; rintro r w1 ⟨rfl, hb1⟩)
   | (go_at_call 77; refine (hM _).mono ?_; rintro r w2 ⟨rfl, rfl⟩)
   | (go_at_call 60; refine (HN.out _ hb1).mono ?_; rintro r w3 ⟨hr, hb3⟩; unfold zV at hr; subst hr))
  exact ⟨rfl, rfl, (But.of_below hb1).trans (But.of_below hb3)⟩
 ·go_wp2_with (first
   | (go_at_call 92; refine hN.mono ?_; rintro r w1 ⟨rfl, hb1⟩)
   | (go_at_call 77; refine (hM _).mono ?_; rintro r w2 ⟨rfl, rfl⟩)
   | (go_at_call 93; refine (HT.out _ hb1).mono ?_; rintro r w3 ⟨rfl, hR, hb3⟩))
  go_ret
  exact ⟨rfl, hR, (But.of_below hb1).trans hb3⟩
def ZC (t : Tk) : Nat × Nat := (zW t).getD (yh t.kind, t.bits)
theorem zC {w : World} {g : Nat} {K : Nat} {S : ByteArray} {p vt b : Nat} (h : At 64 w g (zm K S p vt b)) : w.cell? ⟨g, 0, none⟩ = some (.int .i64 (K : Int)) /\ w.cell? ⟨g, 1, none⟩ = some (.string S) /\ w.cell? ⟨g, 2, none⟩ = some (.int .i64 (p : Int)) /\ w.cell? ⟨g, 3, none⟩ = some (.int .u8 (vt : Int)) /\ w.cell? ⟨g, 4, none⟩ = some (.int .u64 (b : Int)) := by
 refine ⟨?_, ?_, ?_, ?_, ?_⟩ <;> (rw [h.cell]; rfl)
theorem XR (t : Tk) (w : World) :
  Calls Tryz.prog 126 #[.agg t.cells.toArray] w fun r w' => r = .returned (.tuple #[.agg #[.int .u8 ((ZC t).1 : Int), .int .u64 ((ZC t).2 : Int)], .bool (zW t).isSome]) /\ Below w.heap.size w w' := by
 obtain ⟨K, T, p, b⟩ := t
 show Calls Tryz.prog 126 #[.agg (zm K ⟨T.toArray⟩ p (yh K) b).toArray] w _
 by_cases h0 : T = [116, 114, 117, 101]
 ·have e : zW ⟨K, T, p, b⟩ = some (2, 1) := by unfold zW; rw [zi h0]
  have e2 : ZC ⟨K, T, p, b⟩ = (2, 1) := by unfold ZC; rw [e]; rfl
  rw [e, e2]
  clear e e2 
  subst h0
  generalize yh K = vt
  go_enter Tryz.func126, Tryz.ntmps126
  go_wp2_with (first
  | (refine yF rfl rfl (zm K ⟨#[116, 114, 117, 101]⟩ p vt b) rfl ?_; intro w1 hA1 hb1)
  | (refine aL rfl rfl z32 ?_; intro w2 hA2 hb2; have hA1 := hA1.below hb2; obtain ⟨q0, q1, q2, q3, q4⟩ := zC hA1)
  | (refine zF rfl rfl (zy 2 1) ?_)
  | (refine zl rfl rfl hA2 (zy 2 1) rfl rfl i32 rfl (yj _ _) ?_; intro w9 hA9 hb9 hs9))
  refine zr (zx rfl _ _ w1.heap.size 40 (zy 2 1) _ rfl hA9 Tryz.underlying40 rfl i32) rfl ?_
  exact ⟨rfl, hb9.below (hb1.trans (hb2.mono hb1.size)) hb1.size (zQ hb1.size hb2.size)⟩
 by_cases h1 : T = [102, 97, 108, 115, 101]
 ·have e : zW ⟨K, T, p, b⟩ = some (2, 0) := by unfold zW; rw [ze h0, zi h1]
  have e2 : ZC ⟨K, T, p, b⟩ = (2, 0) := by unfold ZC; rw [e]; rfl
  rw [e, e2]
  clear e e2 h0 
  subst h1
  generalize yh K = vt
  go_enter Tryz.func126, Tryz.ntmps126
  go_wp2_with (first
  | (refine yF rfl rfl (zm K ⟨#[102, 97, 108, 115, 101]⟩ p vt b) rfl ?_; intro w1 hA1 hb1)
  | (refine aL rfl rfl z32 ?_; intro w2 hA2 hb2; have hA1 := hA1.below hb2; obtain ⟨q0, q1, q2, q3, q4⟩ := zC hA1)
  | (refine zF rfl rfl (zy 2 0) ?_)
  | (refine zl rfl rfl hA2 (zy 2 0) rfl rfl i32 rfl (yj _ _) ?_; intro w9 hA9 hb9 hs9))
  refine zr (zx rfl _ _ w1.heap.size 40 (zy 2 0) _ rfl hA9 Tryz.underlying40 rfl i32) rfl ?_
  exact ⟨rfl, hb9.below (hb1.trans (hb2.mono hb1.size)) hb1.size (zQ hb1.size hb2.size)⟩
 by_cases h2 : T = [110, 97, 110]
 ·have e : zW ⟨K, T, p, b⟩ = some (3, 9221120237041090560) := by unfold zW; rw [ze h0, ze h1, zi h2]
  have e2 : ZC ⟨K, T, p, b⟩ = (3, 9221120237041090560) := by unfold ZC; rw [e]; rfl
  rw [e, e2]
  clear e e2 h0 h1 
  subst h2
  generalize yh K = vt
  go_enter Tryz.func126, Tryz.ntmps126
  go_wp2_with (first
  | (refine yF rfl rfl (zm K ⟨#[110, 97, 110]⟩ p vt b) rfl ?_; intro w1 hA1 hb1)
  | (refine aL rfl rfl z32 ?_; intro w2 hA2 hb2; have hA1 := hA1.below hb2; obtain ⟨q0, q1, q2, q3, q4⟩ := zC hA1)
  | (refine zF rfl rfl (zy 3 9221120237041090560) ?_)
  | (refine zl rfl rfl hA2 (zy 3 9221120237041090560) rfl rfl i32 rfl (yj _ _) ?_; intro w9 hA9 hb9 hs9))
  refine zr (zx rfl _ _ w1.heap.size 40 (zy 3 9221120237041090560) _ rfl hA9 Tryz.underlying40 rfl i32) rfl ?_
  exact ⟨rfl, hb9.below (hb1.trans (hb2.mono hb1.size)) hb1.size (zQ hb1.size hb2.size)⟩
 by_cases h3 : T = [105, 110, 102]
 ·have e : zW ⟨K, T, p, b⟩ = some (3, 9218868437227405312) := by unfold zW; rw [ze h0, ze h1, ze h2, zi h3]
  have e2 : ZC ⟨K, T, p, b⟩ = (3, 9218868437227405312) := by unfold ZC; rw [e]; rfl
  rw [e, e2]
  clear e e2 h0 h1 h2 
  subst h3
  generalize yh K = vt
  go_enter Tryz.func126, Tryz.ntmps126
  go_wp2_with (first
  | (refine yF rfl rfl (zm K ⟨#[105, 110, 102]⟩ p vt b) rfl ?_; intro w1 hA1 hb1)
  | (refine aL rfl rfl z32 ?_; intro w2 hA2 hb2; have hA1 := hA1.below hb2; obtain ⟨q0, q1, q2, q3, q4⟩ := zC hA1)
  | (refine zF rfl rfl (zy 3 9218868437227405312) ?_)
  | (refine zl rfl rfl hA2 (zy 3 9218868437227405312) rfl rfl i32 rfl (yj _ _) ?_; intro w9 hA9 hb9 hs9))
  refine zr (zx rfl _ _ w1.heap.size 40 (zy 3 9218868437227405312) _ rfl hA9 Tryz.underlying40 rfl i32) rfl ?_
  exact ⟨rfl, hb9.below (hb1.trans (hb2.mono hb1.size)) hb1.size (zQ hb1.size hb2.size)⟩
 have n0 : (T == [116, 114, 117, 101]) = false := by rw [zt]; exact h0
 have n1 : (T == [102, 97, 108, 115, 101]) = false := by rw [zt]; exact h1
 have n2 : (T == [110, 97, 110]) = false := by rw [zt]; exact h2
 have n3 : (T == [105, 110, 102]) = false := by rw [zt]; exact h3
 have e : zW ⟨K, T, p, b⟩ = if K = 2 \/ K = 3 then some (yh K, b) else none := by unfold zW; rw [ze h0, ze h1, ze h2, ze h3]
 have e2 : ZC ⟨K, T, p, b⟩ = (yh K, b) := by unfold ZC; rw [e]; split <;> rfl
 have e3 : (zW ⟨K, T, p, b⟩).isSome = decide (K = 2 \/ K = 3) := by rw [e]; split <;> simp_all
 rw [e3, e2]
 clear e e2 e3 h0 h1 h2 h3
 generalize yh K = vt
 by_cases k2 : K = 2
 ·subst k2
  have e : decide ((2 : Nat) = 2 \/ (2 : Nat) = 3) = true := by decide
  rw [e]
  go_enter Tryz.func126, Tryz.ntmps126
  go_wp2_with (first
   | (refine yF rfl rfl (zm 2 ⟨T.toArray⟩ p vt b) rfl ?_; intro w1 hA1 hb1; have hA1' := hA1)
   | (refine aL rfl rfl z32 ?_; intro w2 hA2 hb2; have hA1 := hA1.below hb2; obtain ⟨q0, q1, q2, q3, q4⟩ := zC hA1))
  have hS0 : At 64 w2.drew w.heap.size (zm 2 ⟨T.toArray⟩ p vt b) := hA1.drew
  refine wp_region_held_drew (S := fun x => At 64 x w.heap.size (zm 2 ⟨T.toArray⟩ p vt b)) (by kernel_rfl) hS0 (fun _ => ?_)
  refine tY 0 (.pointer (some ⟨w.heap.size, 3, none⟩)) (oi := { dst := some 18, op := .fieldAddr 64 (.tmp 1) 3, guard := none, .. }) rfl hS0 ?_ ?_
  ·intro w hSw
   obtain ⟨q0, q1, q2, q3, q4⟩ := zC hSw
   go_simp
  simp only [Act.put, sA, sB, sC]
  refine tY 1 (.agg #[.int .u8 (vt : Int), .int .u64 (b : Int)]) (oi := { dst := some 19, op := .load 40 (.tmp 18), guard := none, .. }) rfl hS0 ?_ ?_
  ·intro w hSw
   obtain ⟨q0, q1, q2, q3, q4⟩ := zC hSw
   go_simp
  simp only [Act.put, sA, sB, sC]
  refine tY 2 (.pointer (some ⟨w.heap.size, 0, none⟩)) (oi := { dst := some 20, op := .fieldAddr 64 (.tmp 1) 0, guard := none, .. }) rfl hS0 ?_ ?_
  ·intro w hSw
   obtain ⟨q0, q1, q2, q3, q4⟩ := zC hSw
   go_simp
  simp only [Act.put, sA, sB, sC]
  refine tY 3 (.int .i64 ((2 : Nat) : Int)) (oi := { dst := some 21, op := .load 3 (.tmp 20), guard := none, .. }) rfl hS0 ?_ ?_
  ·intro w hSw
   obtain ⟨q0, q1, q2, q3, q4⟩ := zC hSw
   go_simp
  simp only [Act.put, sA, sB, sC]
  refine tY 4 (.bool true) (oi := { dst := some 22, op := .binOp .eql 3 (.tmp 21) (.const (.int .i64 2)) 3, guard := none, .. }) rfl hS0 ?_ ?_
  ·intro w hSw
   go_simp
  simp only [Act.put, sA, sB, sC]
  refine tY 5 (.bool true) (oi := { dst := some 23, op := .move (.tmp 22), guard := none, .. }) rfl hS0 ?_ ?_
  ·intro w hSw
   go_simp
  simp only [Act.put, sA, sB, sC]
  refine tN 6 (oi := { dst := some 24, op := .fieldAddr 64 (.tmp 1) 0, guard := some (5, false), .. }) rfl hS0 ?_
  simp only [Act.put, sA, sB, sC]
  refine tN 7 (oi := { dst := some 25, op := .load 3 (.tmp 24), guard := some (5, false), .. }) rfl hS0 ?_
  simp only [Act.put, sA, sB, sC]
  refine tN 8 (oi := { dst := some 26, op := .binOp .eql 3 (.tmp 25) (.const (.int .i64 3)) 3, guard := some (5, false), .. }) rfl hS0 ?_
  simp only [Act.put, sA, sB, sC]
  refine tY 9 (.bool true) (oi := { dst := some 27, op := .pick (.tmp 23) (.const (.bool true)) (.tmp 26), guard := none, .. }) rfl hS0 ?_ ?_
  ·intro w hSw
   go_simp
  simp only [Act.put, sA, sB, sC]
  refine wpAnyH_ready (rs := [10]) (by kernel_rfl) (by simp) ?_
  refine AllReadyH.cons (o := { dst := none, op := .store 40 (.tmp 2) (.tmp 19), guard := none, .. }) rfl (fun K hK => ?_) AllReadyH.nil
  rw [zi (by rfl)]
  have hA2d : At 40 w2.drew w1.heap.size (zy 0 0) := hA2.drew
  refine wp_store_mid (P := Tryz.prog) 40 (.tmp 2) (.tmp 19) rfl w1.heap.size 0 (zy vt b).toArray rfl rfl (hA2d.there 0 2 (by decide)) i32 (all_oneCell_toArray (yj vt b)) ?_
  have l01 : w.heap.size < w1.heap.size := hA1'.lt
  have hbu : But w1.heap.size w2.drew (w2.drew.setCells w1.heap.size 0 (zy vt b)) := ((But.refl _ _).setCell 0 _).setCell 1 _
  have hS1 := hbu.at hS0 (by omega)
  have hA9 : At 40 (w2.drew.setCells w1.heap.size 0 (zy vt b)) w1.heap.size (zy vt b) := (hA2d.set 0 _).set 1 _
  refine hK.out _ _ hS1 (fun _ => ?_)
  refine tY 11 (.bool true) (oi := { dst := some 3, op := .assign (.tmp 27), guard := none, .. }) rfl hS1 ?_ ?_
  ·intro w hSw
   go_simp
  simp only [Act.put, sA, sB, sC]
  refine wpAnyH_done (by kernel_rfl) ?_ _
  go_wp2
  refine zr (zx rfl _ _ w1.heap.size 40 (zy vt b) _ rfl hA9 Tryz.underlying40 rfl i32) rfl ?_
  have hdr : Below w.heap.size w w2.drew := Below.drew (hb1.trans (hb2.mono hb1.size))
  exact ⟨rfl, hbu.below hdr hb1.size hdr.size⟩
 by_cases k3 : K = 3
 ·subst k3
  have e : decide ((3 : Nat) = 2 \/ (3 : Nat) = 3) = true := by decide
  rw [e]
  go_enter Tryz.func126, Tryz.ntmps126
  go_wp2_with (first
   | (refine yF rfl rfl (zm 3 ⟨T.toArray⟩ p vt b) rfl ?_; intro w1 hA1 hb1; have hA1' := hA1)
   | (refine aL rfl rfl z32 ?_; intro w2 hA2 hb2; have hA1 := hA1.below hb2; obtain ⟨q0, q1, q2, q3, q4⟩ := zC hA1))
  have hS0 : At 64 w2.drew w.heap.size (zm 3 ⟨T.toArray⟩ p vt b) := hA1.drew
  refine wp_region_held_drew (S := fun x => At 64 x w.heap.size (zm 3 ⟨T.toArray⟩ p vt b)) (by kernel_rfl) hS0 (fun _ => ?_)
  refine tY 0 (.pointer (some ⟨w.heap.size, 3, none⟩)) (oi := { dst := some 18, op := .fieldAddr 64 (.tmp 1) 3, guard := none, .. }) rfl hS0 ?_ ?_
  ·intro w hSw
   obtain ⟨q0, q1, q2, q3, q4⟩ := zC hSw
   go_simp
  simp only [Act.put, sA, sB, sC]
  refine tY 1 (.agg #[.int .u8 (vt : Int), .int .u64 (b : Int)]) (oi := { dst := some 19, op := .load 40 (.tmp 18), guard := none, .. }) rfl hS0 ?_ ?_
  ·intro w hSw
   obtain ⟨q0, q1, q2, q3, q4⟩ := zC hSw
   go_simp
  simp only [Act.put, sA, sB, sC]
  refine tY 2 (.pointer (some ⟨w.heap.size, 0, none⟩)) (oi := { dst := some 20, op := .fieldAddr 64 (.tmp 1) 0, guard := none, .. }) rfl hS0 ?_ ?_
  ·intro w hSw
   obtain ⟨q0, q1, q2, q3, q4⟩ := zC hSw
   go_simp
  simp only [Act.put, sA, sB, sC]
  refine tY 3 (.int .i64 ((3 : Nat) : Int)) (oi := { dst := some 21, op := .load 3 (.tmp 20), guard := none, .. }) rfl hS0 ?_ ?_
  ·intro w hSw
   obtain ⟨q0, q1, q2, q3, q4⟩ := zC hSw
   go_simp
  simp only [Act.put, sA, sB, sC]
  refine tY 4 (.bool false) (oi := { dst := some 22, op := .binOp .eql 3 (.tmp 21) (.const (.int .i64 2)) 3, guard := none, .. }) rfl hS0 ?_ ?_
  ·intro w hSw
   go_simp
  simp only [Act.put, sA, sB, sC]
  refine tY 5 (.bool false) (oi := { dst := some 23, op := .move (.tmp 22), guard := none, .. }) rfl hS0 ?_ ?_
  ·intro w hSw
   go_simp
  simp only [Act.put, sA, sB, sC]
  refine tY 6 (.pointer (some ⟨w.heap.size, 0, none⟩)) (oi := { dst := some 24, op := .fieldAddr 64 (.tmp 1) 0, guard := some (5, false), .. }) rfl hS0 ?_ ?_
  ·intro w hSw
   obtain ⟨q0, q1, q2, q3, q4⟩ := zC hSw
   go_simp
  simp only [Act.put, sA, sB, sC]
  refine tY 7 (.int .i64 ((3 : Nat) : Int)) (oi := { dst := some 25, op := .load 3 (.tmp 24), guard := some (5, false), .. }) rfl hS0 ?_ ?_
  ·intro w hSw
   obtain ⟨q0, q1, q2, q3, q4⟩ := zC hSw
   go_simp
  simp only [Act.put, sA, sB, sC]
  refine tY 8 (.bool true) (oi := { dst := some 26, op := .binOp .eql 3 (.tmp 25) (.const (.int .i64 3)) 3, guard := some (5, false), .. }) rfl hS0 ?_ ?_
  ·intro w hSw
   go_simp
  simp only [Act.put, sA, sB, sC]
  refine tY 9 (.bool true) (oi := { dst := some 27, op := .pick (.tmp 23) (.const (.bool true)) (.tmp 26), guard := none, .. }) rfl hS0 ?_ ?_
  ·intro w hSw
   go_simp
  simp only [Act.put, sA, sB, sC]
  refine wpAnyH_ready (rs := [10]) (by kernel_rfl) (by simp) ?_
  refine AllReadyH.cons (o := { dst := none, op := .store 40 (.tmp 2) (.tmp 19), guard := none, .. }) rfl (fun K hK => ?_) AllReadyH.nil
  rw [zi (by rfl)]
  have hA2d : At 40 w2.drew w1.heap.size (zy 0 0) := hA2.drew
  refine wp_store_mid (P := Tryz.prog) 40 (.tmp 2) (.tmp 19) rfl w1.heap.size 0 (zy vt b).toArray rfl rfl (hA2d.there 0 2 (by decide)) i32 (all_oneCell_toArray (yj vt b)) ?_
  have l01 : w.heap.size < w1.heap.size := hA1'.lt
  have hbu : But w1.heap.size w2.drew (w2.drew.setCells w1.heap.size 0 (zy vt b)) := ((But.refl _ _).setCell 0 _).setCell 1 _
  have hS1 := hbu.at hS0 (by omega)
  have hA9 : At 40 (w2.drew.setCells w1.heap.size 0 (zy vt b)) w1.heap.size (zy vt b) := (hA2d.set 0 _).set 1 _
  refine hK.out _ _ hS1 (fun _ => ?_)
  refine tY 11 (.bool true) (oi := { dst := some 3, op := .assign (.tmp 27), guard := none, .. }) rfl hS1 ?_ ?_
  ·intro w hSw
   go_simp
  simp only [Act.put, sA, sB, sC]
  refine wpAnyH_done (by kernel_rfl) ?_ _
  go_wp2
  refine zr (zx rfl _ _ w1.heap.size 40 (zy vt b) _ rfl hA9 Tryz.underlying40 rfl i32) rfl ?_
  have hdr : Below w.heap.size w w2.drew := Below.drew (hb1.trans (hb2.mono hb1.size))
  exact ⟨rfl, hbu.below hdr hb1.size hdr.size⟩
 have e : decide (K = 2 \/ K = 3) = false := zN (by omega)
 rw [e]
 have k2' : (K : Int) ≠ 2 := by omega
 have k3' : (K : Int) ≠ 3 := by omega
 clear e
 go_enter Tryz.func126, Tryz.ntmps126
 go_wp2_with (first
  | (refine yF rfl rfl (zm K ⟨T.toArray⟩ p vt b) rfl ?_; intro w1 hA1 hb1; have hA1' := hA1)
  | (refine aL rfl rfl z32 ?_; intro w2 hA2 hb2; have hA1 := hA1.below hb2; obtain ⟨q0, q1, q2, q3, q4⟩ := zC hA1))
 have hS0 : At 64 w2.drew w.heap.size (zm K ⟨T.toArray⟩ p vt b) := hA1.drew
 refine wp_region_held_drew (S := fun x => At 64 x w.heap.size (zm K ⟨T.toArray⟩ p vt b)) (by kernel_rfl) hS0 (fun _ => ?_)
 refine tY 0 (.pointer (some ⟨w.heap.size, 3, none⟩)) (oi := { dst := some 18, op := .fieldAddr 64 (.tmp 1) 3, guard := none, .. }) rfl hS0 ?_ ?_
 ·intro w hSw
  obtain ⟨q0, q1, q2, q3, q4⟩ := zC hSw
  go_simp
 simp only [Act.put, sA, sB, sC]
 refine tY 1 (.agg #[.int .u8 (vt : Int), .int .u64 (b : Int)]) (oi := { dst := some 19, op := .load 40 (.tmp 18), guard := none, .. }) rfl hS0 ?_ ?_
 ·intro w hSw
  obtain ⟨q0, q1, q2, q3, q4⟩ := zC hSw
  go_simp
 simp only [Act.put, sA, sB, sC]
 refine tY 2 (.pointer (some ⟨w.heap.size, 0, none⟩)) (oi := { dst := some 20, op := .fieldAddr 64 (.tmp 1) 0, guard := none, .. }) rfl hS0 ?_ ?_
 ·intro w hSw
  obtain ⟨q0, q1, q2, q3, q4⟩ := zC hSw
  go_simp
 simp only [Act.put, sA, sB, sC]
 refine tY 3 (.int .i64 (K : Int)) (oi := { dst := some 21, op := .load 3 (.tmp 20), guard := none, .. }) rfl hS0 ?_ ?_
 ·intro w hSw
  obtain ⟨q0, q1, q2, q3, q4⟩ := zC hSw
  go_simp
 simp only [Act.put, sA, sB, sC]
 refine tY 4 (.bool false) (oi := { dst := some 22, op := .binOp .eql 3 (.tmp 21) (.const (.int .i64 2)) 3, guard := none, .. }) rfl hS0 ?_ ?_
 ·intro w hSw
  go_simp
 simp only [Act.put, sA, sB, sC]
 refine tY 5 (.bool false) (oi := { dst := some 23, op := .move (.tmp 22), guard := none, .. }) rfl hS0 ?_ ?_
 ·intro w hSw
  go_simp
 simp only [Act.put, sA, sB, sC]
 refine tY 6 (.pointer (some ⟨w.heap.size, 0, none⟩)) (oi := { dst := some 24, op := .fieldAddr 64 (.tmp 1) 0, guard := some (5, false), .. }) rfl hS0 ?_ ?_
 ·intro w hSw
  obtain ⟨q0, q1, q2, q3, q4⟩ := zC hSw
  go_simp
 simp only [Act.put, sA, sB, sC]
 refine tY 7 (.int .i64 (K : Int)) (oi := { dst := some 25, op := .load 3 (.tmp 24), guard := some (5, false), .. }) rfl hS0 ?_ ?_
 ·intro w hSw
  obtain ⟨q0, q1, q2, q3, q4⟩ := zC hSw
  go_simp
 simp only [Act.put, sA, sB, sC]
 refine tY 8 (.bool false) (oi := { dst := some 26, op := .binOp .eql 3 (.tmp 25) (.const (.int .i64 3)) 3, guard := some (5, false), .. }) rfl hS0 ?_ ?_
 ·intro w hSw
  go_simp
 simp only [Act.put, sA, sB, sC]
 refine tY 9 (.bool false) (oi := { dst := some 27, op := .pick (.tmp 23) (.const (.bool true)) (.tmp 26), guard := none, .. }) rfl hS0 ?_ ?_
 ·intro w hSw
  go_simp
 simp only [Act.put, sA, sB, sC]
 refine wpAnyH_ready (rs := [10]) (by kernel_rfl) (by simp) ?_
 refine AllReadyH.cons (o := { dst := none, op := .store 40 (.tmp 2) (.tmp 19), guard := none, .. }) rfl (fun K hK => ?_) AllReadyH.nil
 rw [zi (by rfl)]
 have hA2d : At 40 w2.drew w1.heap.size (zy 0 0) := hA2.drew
 refine wp_store_mid (P := Tryz.prog) 40 (.tmp 2) (.tmp 19) rfl w1.heap.size 0 (zy vt b).toArray rfl rfl (hA2d.there 0 2 (by decide)) i32 (all_oneCell_toArray (yj vt b)) ?_
 have l01 : w.heap.size < w1.heap.size := hA1'.lt
 have hbu : But w1.heap.size w2.drew (w2.drew.setCells w1.heap.size 0 (zy vt b)) := ((But.refl _ _).setCell 0 _).setCell 1 _
 have hS1 := hbu.at hS0 (by omega)
 have hA9 : At 40 (w2.drew.setCells w1.heap.size 0 (zy vt b)) w1.heap.size (zy vt b) := (hA2d.set 0 _).set 1 _
 refine hK.out _ _ hS1 (fun _ => ?_)
 refine tY 11 (.bool false) (oi := { dst := some 3, op := .assign (.tmp 27), guard := none, .. }) rfl hS1 ?_ ?_
 ·intro w hSw
  go_simp
 simp only [Act.put, sA, sB, sC]
 refine wpAnyH_done (by kernel_rfl) ?_ _
 go_wp2
 refine zr (zx rfl _ _ w1.heap.size 40 (zy vt b) _ rfl hA9 Tryz.underlying40 rfl i32) rfl ?_
 have hdr : Below w.heap.size w w2.drew := Below.drew (hb1.trans (hb2.mono hb1.size))
 exact ⟨rfl, hbu.below hdr hb1.size hdr.size⟩
def Tr (g : Nat) (w : World) (y : ET) : Prop := y.In w.heap.size w /\ y.Lies (fun k => k ≠ g)
theorem Tr.but {g : Nat} {w w' : World} {y : ET} (h : Tr g w y) (hb : But g w w') : Tr g w' y :=
 ⟨ET.In.up hb.size (ET.In.stay (fun k hk hl => hb.block k hl hk) h.1 h.2), h.2⟩
theorem Tr.below {g : Nat} {w w' : World} {y : ET} (h : Tr g w y) (hb : Below w.heap.size w w') : Tr g w' y := h.but (But.of_below hb)
theorem Tr.but2 {g k : Nat} {w w' : World} {y : ET} (h : Tr g w y) (hu : y.Lies (fun j => j ≠ k)) (hb : But k w w') : Tr g w' y :=
 ⟨ET.In.up hb.size (ET.In.stay (fun j hj hl => hb.block j hl hj) h.1 hu), h.2⟩
theorem Zl {w : World} {g : Nat} {s1 s2 s3 s4 s5 : Value} (h : At 43 w g [s1, s2, s3, s4, s5]) : w.cell? ⟨g, 0, none⟩ = some s1 /\ w.cell? ⟨g, 1, none⟩ = some s2 /\ w.cell? ⟨g, 2, none⟩ = some s3 /\ w.cell? ⟨g, 3, none⟩ = some s4 /\ w.cell? ⟨g, 4, none⟩ = some s5 := by
 refine ⟨?_, ?_, ?_, ?_, ?_⟩ <;> (rw [h.cell]; rfl)
theorem XO (p op : Nat) (a : Option Addr) (c : Nat) (ks : List ET) (w : World) (hin : (ET.mk op 0 0 ⟨#[]⟩ a c ks).In w.heap.size w) (hh : htX (ET.mk op 0 0 ⟨#[]⟩ a c ks).ex <= 1048576) :
  Calls Tryz.prog 109 #[.int .i64 (p : Int), .int .u8 (op : Int), .slice a ks.length c] w fun r w' => (if 32 < htX (ET.mk op 0 0 ⟨#[]⟩ a c ks).ex then r = zV 160 p else r = .returned (.agg (ET.mk op 0 0 ⟨#[]⟩ a c ks).cells.toArray)) /\ Below w.heap.size w w' := by
 have hH : ∀ u, Below w.heap.size w u -> Calls Tryz.prog 142 #[.agg (ET.mk op 0 0 ⟨#[]⟩ a c ks).cells.toArray] u fun r w' => r = .returned (.int .i64 (htX (ET.mk op 0 0 ⟨#[]⟩ a c ks).ex : Int)) /\ Below u.heap.size u w' := fun u hu =>
  qs w.heap.size _ _ (Nat.lt_succ_self _) hh u (hin.old (Old.of_below hu (zj _))) hu.size
 have HH : Hid (∀ u, Below w.heap.size w u -> Calls Tryz.prog 142 #[.agg #[.int .u8 (op : Int), .int .u8 0, .int .u64 0, .string ⟨#[]⟩, .slice a ks.length c]] u fun r w' => r = .returned (.int .i64 (htX (ET.mk op 0 0 ⟨#[]⟩ a c ks).ex : Int)) /\ Below u.heap.size u w') := hH
 have h1 := (ET.mk op 0 0 ⟨#[]⟩ a c ks).one
 show Calls Tryz.prog 109 #[.int .i64 (p : Int), .int .u8 (op : Int), .slice a ks.length c] w fun r w' => (if 32 < htX (ET.mk op 0 0 ⟨#[]⟩ a c ks).ex then r = zV 160 p else r = .returned (.agg [.int .u8 (op : Int), .int .u8 0, .int .u64 0, .string ⟨#[]⟩, .slice a ks.length c].toArray)) /\ Below w.heap.size w w'
 have h1 : ∀ v ∈ [Value.int .u8 (op : Int), .int .u8 0, .int .u64 0, .string ⟨#[]⟩, .slice a ks.length c], v.oneCell' = true := h1
 clear hH hin
 generalize ks.length = n at *
 generalize htX (ET.mk op 0 0 ⟨#[]⟩ a c ks).ex = h at *
 by_cases hc : 32 < h
 focus
  simp only [zi hc]
 rotate_left
 focus
  simp only [ze hc]
 rotate_left
 all_goals
  go_enter Tryz.func109, Tryz.ntmps109
  go_wp2_with (first
   | (refine aL (o := { dst := some 6, .. }) rfl rfl z29 ?_; intro w1 hA1 hb1)
   | (refine zF rfl rfl [.int .u8 (op : Int), .int .u8 0, .int .u64 0, .string ⟨#[]⟩, .slice a n c] ?_)
   | (refine aL (o := { dst := some 7, .. }) rfl rfl z29 ?_; intro w2 hA2 hb2)
   | (refine zl rfl rfl hA2 [.int .u8 (op : Int), .int .u8 0, .int .u64 0, .string ⟨#[]⟩, .slice a n c] rfl rfl i29 rfl h1 ?_; intro w3 hA3 hb3 hs3; refine zb ?_))
  refine zd ?_
  have l1 := hA1.lt
  have hA13 := hb3.at (hA1.below hb2) (by omega)
  have hB3 : Below w.heap.size w w3 := hb3.below (hb1.trans (hb2.mono hb1.size)) hb1.size (zQ hb1.size hb2.size)
  obtain ⟨c0, c1, c2, c3, c4⟩ := Zl hA3
  have hC := HH.out w3 hB3
  clear hA1 hA2 hb1 hb2 hb3 hs3 HH
 ·go_wp2_with (first
   | (go_at_call 142; refine hC.mono ?_; rintro r w4 ⟨rfl, hb4⟩)
   | (go_at_call 54; refine (ZX 160 p _).mono ?_; rintro r w5 ⟨hr, rfl⟩; unfold zV at hr; subst hr))
  exact ⟨rfl, rfl, hB3.trans (hb4.mono hB3.size)⟩
 ·go_wp2_with (first
   | (go_at_call 142; refine hC.mono ?_; rintro r w4 ⟨rfl, hb4⟩; refine zb ?_))
  refine zd ?_
  have hA14 := hA13.below hb4
  obtain ⟨c0, c1, c2, c3, c4⟩ := Zl (hA3.below hb4)
  go_wp2_with (first
   | (refine zl rfl rfl hA14 [.int .u8 (op : Int), .int .u8 0, .int .u64 0, .string ⟨#[]⟩, .slice a n c] rfl rfl i29 rfl h1 ?_; intro w9 hA9 hb9 hs9))
  refine zr (zh rfl _ _ w.heap.size 43 [.int .u8 (op : Int), .int .u8 0, .int .u64 0, .string ⟨#[]⟩, .slice a n c] _ rfl hA9 zR rfl i29) rfl ?_
  have hB4 := hB3.trans (hb4.mono hB3.size)
  exact ⟨rfl, hb9.below hB4 (zj _) hB4.size⟩
def Tw (A : Nat) (w : World) (y : ET) : Prop := y.Sn w.heap.size w /\ y.Lies (fun k => A <= k)
theorem Tw.but {A k : Nat} {w w' : World} {y : ET} (h : Tw A w y) (hb : But k w w') (hk : k < A \/ w.heap.size <= k) : Tw A w' y :=
 ⟨ET.Sn.up hb.size (ET.Sn.stay (fun j hj hl => hb.block j hl (by omega)) h.1 h.2), h.2⟩
theorem Tw.below {A : Nat} {w w' : World} {y : ET} (h : Tw A w y) (hb : Below w.heap.size w w') : Tw A w' y :=
 ⟨ET.Sn.up hb.size (ET.Sn.stay (fun j hj hl => hb.block j hl) h.1 h.2), h.2⟩
theorem Tw.low {A A' : Nat} {w : World} {y : ET} (h : Tw A w y) (hA : A' <= A) : Tw A' w y := ⟨h.1, h.2.mono fun k hk => zQ hA hk⟩
def YE (B g : Nat) (w : World) (R : Rs Ex) (r : Ending) (w' : World) : Prop :=
 match R with
 | .ok e l => ∃ y : ET, r = .returned (.agg y.cells.toArray) /\ y.ex = e /\ Tw w.heap.size w' y /\ Rd B w' g l /\ But g w w'
 | .bad e p => r = zV e p /\ But g w w'
theorem Kq {t : Tk} (h : (zW t).isSome = true) : t.text ≠ [] \/ t.kind ≠ 0 := by
 by_cases hk : t.kind = 0
 ·left
  intro ht
  unfold zW at h
  rw [ht, hk] at h
  simp at h
 ·exact .inr hk
theorem Jf {t : Tk} (hb : t.bits < 18446744073709551616) : (ZC t).1 < 256 /\ (ZC t).2 < 18446744073709551616 := by
 have hv : yh t.kind < 256 := by unfold yh; split <;> (try split) <;> decide
 have go : ∀ (c : Prop) [Decidable c] (a b : Option (Nat × Nat)) (d : Nat × Nat), (a.getD d).1 < 256 /\ (a.getD d).2 < 18446744073709551616 -> (b.getD d).1 < 256 /\ (b.getD d).2 < 18446744073709551616 -> ((if c then a else b).getD d).1 < 256 /\ ((if c then a else b).getD d).2 < 18446744073709551616 := fun c _ a b d h1 h2 => by
  by_cases h : c
  ·rw [zi h]; exact h1
  ·rw [ze h]; exact h2
 unfold ZC zW
 refine go _ _ _ _ ⟨?_, ?_⟩ (go _ _ _ _ ⟨?_, ?_⟩ (go _ _ _ _ ⟨?_, ?_⟩ (go _ _ _ _ ⟨?_, ?_⟩ (go _ _ _ _ ⟨hv, hb⟩ ⟨hv, hb⟩))))
 all_goals exact of_decide_eq_true rfl
theorem yu {w : World} {g : Nat} {vt vb : Nat} (h : At 40 w g (zy vt vb)) : w.cell? ⟨g, 0, none⟩ = some (.int .u8 (vt : Int)) /\ w.cell? ⟨g, 1, none⟩ = some (.int .u64 (vb : Int)) := by
 refine ⟨?_, ?_⟩ <;> (rw [h.cell]; rfl)
theorem jI {g : Nat} {w w5 w6 w9 : World} (h5 : Below w.heap.size w w5) (h6 : But g w5 w6) (h9 : But w.heap.size w6 w9) : But g w w9 :=
 ⟨(h9.os.trans h6.os).trans h5.os, (h9.tape.trans h6.tape).trans h5.tape, (h9.output.trans h6.output).trans h5.output, zQ h5.size (zQ h6.size h9.size), fun k hk hn => by
  rw [h9.block k (Zy hk (zQ h5.size h6.size)) (by omega), h6.block k (Zy hk h5.size) hn, h5.block k hk]⟩
theorem But.fresh {g b : Nat} {w w5 w6 : World} (h : But g w w5) (h2 : But b w5 w6) (hb : w.heap.size <= b) : But g w w6 :=
 ⟨h2.os.trans h.os, h2.tape.trans h.tape, h2.output.trans h.output, zQ h.size h2.size, fun k hk hn => by rw [h2.block k (Zy hk h.size) (by omega), h.block k hk hn]⟩
theorem X9 (A : Nat) (w : World) (op t b : Nat) (nm : ByteArray) (h1 : op < 256) (h2 : t < 256) (h3 : b < 18446744073709551616) : Tw A w (.mk op t b nm none 0 []) := by
 refine ⟨⟨?_, ?_⟩, ?_⟩
 ·unfold ET.In
  exact ⟨h1, h2, h3, by simp, by simp, .inl rfl⟩
 ·unfold ET.Lies
  exact ⟨.inl rfl, trivial⟩
 ·unfold ET.Lies
  exact ⟨.inl rfl, trivial⟩
theorem zem {B : Nat} (g : Nat) (l : List Tk) (w : World) (h : Rd B w g l) (hBw : B <= w.heap.size) :
  Calls Tryz.prog 140 #[.pointer (some ⟨g, 0, none⟩)] w fun r w' => YE B g w (ZN l) r w' := by
 have hlt := h.lt
 have HN : Hid (∀ u, Below w.heap.size w u -> Calls Tryz.prog 92 #[.pointer (some ⟨g, 0, none⟩)] u fun r w' => r = .returned (.agg (hdT l).cells.toArray) /\ Below u.heap.size u w') := fun u hu => ZL g l u (h.below hu)
 have HL : Hid (∀ u, Calls Tryz.prog 126 #[.agg (hdT l).cells.toArray] u fun r w' => r = .returned (.tuple #[.agg #[.int .u8 ((ZC (hdT l)).1 : Int), .int .u64 ((ZC (hdT l)).2 : Int)], .bool (zW (hdT l)).isSome]) /\ Below u.heap.size u w') := fun u => XR (hdT l) u
 have hbit : (hdT l).bits < 18446744073709551616 := by
  obtain ⟨_, _, _, h, _⟩ := h
  refine h.bits _ ?_
  rw [h.ends.cons]
  exact List.mem_cons_self
 have hlv := Jf hbit
 cases hc : zW (hdT l)
 focus
  have hm : ZN l = match zM l with | .ok x r => .ok (.mk 2 0 0 x []) r | .bad e p => .bad e p := by
   unfold ZN zM
   rw [hc]
   dsimp only
   split <;> rfl
  rw [hm]
  have HM : Hid (∀ u, Below w.heap.size w u -> Calls Tryz.prog 57 #[.pointer (some ⟨g, 0, none⟩)] u fun r w' => zcw B g u (zM l) r w') := fun u hu => Zt g l u (h.below hu)
  rw [hc] at HL
  clear hm h hc hbit
  generalize ZC (hdT l) = v at HL
 rotate_left
 focus
  rename_i v
  have hle : ZN l = .ok (.mk 1 v.1 v.2 [] []) l.tail := by unfold ZN; rw [hc]
  have hv : ZC (hdT l) = v := by unfold ZC; rw [hc]; rfl
  have hn := Kq (t := hdT l) (by rw [hc]; rfl)
  rw [hle]
  rw [hv, hc] at HL
  rw [hv] at hlv
  have HT : Hid (∀ u, Below w.heap.size w u -> Calls Tryz.prog 93 #[.pointer (some ⟨g, 0, none⟩)] u fun r w' => r = .returned (.tuple #[]) /\ Rd B w' g l.tail /\ But g u w') := fun u hu => YP g l u (h.below hu) hn
  clear hle hv hn h hc hbit
 rotate_left
 all_goals
  obtain ⟨vt, vb⟩ := v
  generalize hdT l = t at HN HL
  obtain ⟨K, T, p, b⟩ := t
  have HN : Hid (∀ u, Below w.heap.size w u -> Calls Tryz.prog 92 #[.pointer (some ⟨g, 0, none⟩)] u fun r w' => r = .returned (.agg #[.int .i64 (K : Int), .string ⟨T.toArray⟩, .int .i64 (p : Int), .int .u8 (yh K : Nat), .int .u64 (b : Nat)]) /\ Below u.heap.size u w') := HN
 ·have HL : Hid (∀ u, Calls Tryz.prog 126 #[.agg #[.int .i64 (K : Int), .string ⟨T.toArray⟩, .int .i64 (p : Int), .int .u8 (yh K : Nat), .int .u64 (b : Nat)]] u fun r w' => r = .returned (.tuple #[.agg #[.int .u8 (vt : Int), .int .u64 (vb : Int)], .bool false]) /\ Below u.heap.size u w') := HL
  cases hnm : zM l
  focus
   rename_i x l'
  rotate_left
  focus
   rename_i e q
  rotate_left
  all_goals
   rw [hnm] at HM
   go_enter Tryz.func140, Tryz.ntmps140
   go_wp2_with (first
    | (refine aL rfl rfl z29 ?_; intro w1 hA1 hb1)
    | (go_at_call 92; refine (HN.out _ hb1).mono ?_; rintro r w2 ⟨rfl, hb2⟩)
    | (go_at_call 126; refine (HL.out _).mono ?_; rintro r w3 ⟨rfl, hb3⟩)
    | (refine aL rfl rfl z32 ?_; intro w4 hA4 hb4)
    | (refine zl rfl rfl hA4 (zy vt vb) rfl rfl i32 rfl (yj _ _) ?_; intro w5 hA5 hb5 hs5; refine zb ?_))
   refine zd ?_
   have l13 : w.heap.size < w3.heap.size := by have := hA1.lt; have := hb2.size; have := hb3.size; omega
   have hB4 : Below w.heap.size w w4 := ((hb1.trans (hb2.mono hb1.size)).trans (hb3.mono (zQ hb1.size hb2.size))).trans (hb4.mono (by omega))
   have hB5 : Below w.heap.size w w5 := hb5.below hB4 (by omega) hB4.size
   have hA15 := hb5.at (((hA1.below hb2).below hb3).below hb4) (by omega)
   clear hA1 hA4 hb1 hb2 hb3 hb4 hb5 hs5 HN HL hB4
  ·go_wp2_with (first
    | (go_at_call 57; refine (HM.out _ hB5).mono ?_; rintro r w6 ⟨rfl, hR, hb6⟩; refine zb ?_))
   refine zd ?_
   have hA16 := hb6.at hA15 (by omega)
   clear HM hA15 hA5
   go_wp2_with (first
    | (refine zF rfl rfl (ET.mk 2 0 0 ⟨x.toArray⟩ none 0 []).cells ?_)
    | (refine zl rfl rfl hA16 (ET.mk 2 0 0 ⟨x.toArray⟩ none 0 []).cells rfl rfl i29 rfl (ET.one _) ?_; intro w9 hA9 hb9 hs9))
   refine zr (zh rfl _ _ w.heap.size 43 (ET.mk 2 0 0 ⟨x.toArray⟩ none 0 []).cells _ rfl hA9 zR rfl i29) rfl ?_
   refine ⟨.mk 2 0 0 ⟨x.toArray⟩ none 0 [], rfl, rfl, X9 _ _ _ _ _ _ (by decide) (by decide) (by decide), hR.but hb9 hBw, ?_⟩
   exact jI hB5 hb6 hb9
  ·go_wp2_with (first
    | (go_at_call 57; refine (HM.out _ hB5).mono ?_; rintro r w6 ⟨hr, hb6⟩; unfold zV at hr; subst hr))
   exact ⟨rfl, rfl, (But.of_below hB5).trans hb6⟩
 ·have HL : Hid (∀ u, Calls Tryz.prog 126 #[.agg #[.int .i64 (K : Int), .string ⟨T.toArray⟩, .int .i64 (p : Int), .int .u8 (yh K : Nat), .int .u64 (b : Nat)]] u fun r w' => r = .returned (.tuple #[.agg #[.int .u8 (vt : Int), .int .u64 (vb : Int)], .bool true]) /\ Below u.heap.size u w') := HL
  go_enter Tryz.func140, Tryz.ntmps140
  go_wp2_with (first
   | (refine aL rfl rfl z29 ?_; intro w1 hA1 hb1)
   | (go_at_call 92; refine (HN.out _ hb1).mono ?_; rintro r w2 ⟨rfl, hb2⟩)
   | (go_at_call 126; refine (HL.out _).mono ?_; rintro r w3 ⟨rfl, hb3⟩)
   | (refine aL rfl rfl z32 ?_; intro w4 hA4 hb4)
   | (refine zl rfl rfl hA4 (zy vt vb) rfl rfl i32 rfl (yj _ _) ?_; intro w5 hA5 hb5 hs5; refine zb ?_))
  refine zd ?_
  have l13 : w.heap.size < w3.heap.size := by have := hA1.lt; have := hb2.size; have := hb3.size; omega
  have hB4 : Below w.heap.size w w4 := ((hb1.trans (hb2.mono hb1.size)).trans (hb3.mono (zQ hb1.size hb2.size))).trans (hb4.mono (by omega))
  have hB5 : Below w.heap.size w w5 := hb5.below hB4 (by omega) hB4.size
  have hA15 := hb5.at (((hA1.below hb2).below hb3).below hb4) (by omega)
  clear hA1 hA4 hb1 hb2 hb3 hb4 hb5 hs5 HN HL hB4
  go_wp2_with (first
   | (go_at_call 93; refine (HT.out _ hB5).mono ?_; rintro r w6 ⟨rfl, hR, hb6⟩; refine zb ?_))
  refine zd ?_
  have hA56 := hb6.at hA5 (by omega)
  have hA16 := hb6.at hA15 (by omega)
  obtain ⟨c0, c1⟩ := yu hA56
  clear HT hA15 hA5
  go_wp2_with (first
   | (refine zF rfl rfl (ET.mk 1 vt vb ⟨#[]⟩ none 0 []).cells ?_)
   | (refine zl rfl rfl hA16 (ET.mk 1 vt vb ⟨#[]⟩ none 0 []).cells rfl rfl i29 rfl (ET.one _) ?_; intro w9 hA9 hb9 hs9))
  refine zr (zh rfl _ _ w.heap.size 43 (ET.mk 1 vt vb ⟨#[]⟩ none 0 []).cells _ rfl hA9 zR rfl i29) rfl ?_
  refine ⟨.mk 1 vt vb ⟨#[]⟩ none 0 [], rfl, rfl, X9 _ _ _ _ _ _ (by decide) hlv.1 hlv.2, hR.but hb9 hBw, ?_⟩
  exact jI hB5 hb6 hb9
theorem ET.cells5 (e : ET) : e.cells.length = 5 := by cases e; rfl
theorem i43 (y : ET) : (Tryz.prog.info? 43).map (·.size) = some y.cells.length := by rw [ET.cells5]; exact i29
theorem yP (y : ET) : ([.int .u8 0, .int .u8 0, .int .u64 0, .string ⟨#[]⟩, .slice none 0 0] : List Value).length = y.cells.length := by rw [ET.cells5]; rfl
theorem zgC (x y : ET) : x.cells.length = y.cells.length := by rw [ET.cells5, ET.cells5]
def zbS (f : Nat) : Prop := ∀ (n d : Nat) (l : List Tk) (R : Rs Ex), 1 <= n -> n <= 6 -> d <= 32 -> y6 f n d l = some R -> ∀ (B g : Nat) (w : World), Rd B w g l -> B <= w.heap.size ->
 Calls Tryz.prog 71 #[.pointer (some ⟨g, 0, none⟩), .int .i64 (n : Int), .int .i64 (d : Int)] w fun r w' => YE B g w R r w'
def za1 (f : Nat) : Prop := ∀ (d : Nat) (l : List Tk) (R : Rs Ex), d <= 32 -> operF f d l = some R -> ∀ (B g : Nat) (w : World), Rd B w g l -> B <= w.heap.size ->
 Calls Tryz.prog 107 #[.pointer (some ⟨g, 0, none⟩), .int .i64 (d : Int)] w fun r w' => YE B g w R r w'
def zf4 (f : Nat) : Prop := ∀ (d : Nat) (l : List Tk) (R : Rs Ex), d < 32 -> brkF f d l = some R -> ∀ (B g : Nat) (w : World), Rd B w g l -> B <= w.heap.size ->
 Calls Tryz.prog 141 #[.pointer (some ⟨g, 0, none⟩), .int .i64 (d : Int)] w fun r w' => YE B g w R r w'
theorem zch (f : Nat) (hR : zbS f) (d : Nat) (l : List Tk) (R : Rs Ex) (hd : d <= 32) (h : y6 f 1 d l = some R) (B g : Nat) (w : World) (hr : Rd B w g l) (hB : B <= w.heap.size) :
  Calls Tryz.prog 38 #[.pointer (some ⟨g, 0, none⟩), .int .i64 (d : Int)] w fun r w' => YE B g w R r w' := by
 have hlt := hr.lt
 have HR : Hid (∀ u, Below w.heap.size w u -> Calls Tryz.prog 71 #[.pointer (some ⟨g, 0, none⟩), .int .i64 1, .int .i64 (d : Int)] u fun r w' => YE B g u R r w') := fun u hu => hR 1 d l R (zj _) (by omega) hd h B g u (hr.below hu) (zQ hB hu.size)
 clear h hr hd
 cases R with
 | bad e p =>
  go_enter Tryz.func38, Tryz.ntmps38
  go_wp2_with (first
   | (refine aL (o := { dst := some 4, .. }) rfl rfl z29 ?_; intro w1 hA1 hb1)
   | (go_at_call 71; refine (HR.out _ hb1).mono ?_; rintro r w2 ⟨hr, hb2⟩; unfold zV at hr; subst hr))
  exact ⟨rfl, rfl, (But.of_below hb1).trans hb2⟩
 | ok x r =>
  go_enter Tryz.func38, Tryz.ntmps38
  go_wp2_with (first
   | (refine aL (o := { dst := some 4, .. }) rfl rfl z29 ?_; intro w1 hA1 hb1)
   | (go_at_call 71; refine (HR.out _ hb1).mono ?_; rintro _ w2 ⟨y, rfl, he, hT, hR2, hb2⟩; have hA12 := hb2.at hA1 (by omega))
   | (refine sL rfl rfl hA12 y.cells rfl rfl (i43 _) (yP _) (ET.one _) ?_; intro w9 hA9 hb9))
  refine zr (zh rfl _ _ w.heap.size 43 y.cells _ rfl hA9 zR rfl (i43 _)) rfl ?_
  have l1 := hA1.lt
  exact ⟨y, rfl, he, (hT.but hb9 (.inl l1)).low hb1.size, hR2.but hb9 hB, ((But.of_below hb1).trans hb2).fresh hb9 (zj _)⟩
theorem zbK (f : Nat) (hR : zbS f) : zf4 (f + 1) := by
 intro d l R hd h B g w hr hB
 have hlt := hr.lt
 have HM : Hid (∀ u, Below w.heap.size w u -> Calls Tryz.prog 58 #[.pointer (some ⟨g, 0, none⟩), .string ⟨#[40]⟩] u fun r w' => KM B g u (zq [40] l) r w') := fun u hu => Yc g l ⟨#[40]⟩ (by decide) u (hr.below hu)
 rw [brkF] at h
 cases hm : zq [40] l with
 | bad e p =>
  rw [hm] at h HM
  cases h
  clear hr hR hm
  go_enter Tryz.func141, Tryz.ntmps141
  go_wp2_with (first
   | (refine aL (o := { dst := some 4, .. }) rfl rfl z29 ?_; intro w1 hA1 hb1)
   | (go_at_call 58; refine (HM.out _ hb1).mono ?_; rintro r w2 ⟨hr, hb2⟩; unfold zV at hr; subst hr))
  exact ⟨rfl, rfl, (But.of_below hb1).trans hb2⟩
 | ok u1 l1 =>
  rw [hm] at h HM
  dsimp only at h
  cases hx : y6 f 1 (d + 1) l1 with
  | none => rw [hx] at h; cases h
  | some Y =>
   rw [hx] at h
   have HX : Hid (∀ u, Rd B u g l1 -> w.heap.size <= u.heap.size -> Calls Tryz.prog 38 #[.pointer (some ⟨g, 0, none⟩), .int .i64 ((d : Int) + 1)] u fun r w' => YE B g u Y r w') := fun u hu hs => by
    have := zch f hR (d + 1) l1 Y (by omega) hx B g u hu (by omega)
    rwa [show ((d + 1 : Nat) : Int) = (d : Int) + 1 by omega] at this
   have hdI : (d : Int) + 1 <= 9223372036854775807 := by omega
   clear hr hR hm hx
   cases Y with
   | bad e p =>
    cases h
    go_enter Tryz.func141, Tryz.ntmps141
    go_wp2_with (first
     | (refine aL (o := { dst := some 4, .. }) rfl rfl z29 ?_; intro w1 hA1 hb1)
     | (go_at_call 58; refine (HM.out _ hb1).mono ?_; rintro r w2 ⟨rfl, hR2, hb2⟩)
     | (go_at_call 38; refine (HX.out _ hR2 (zQ hb1.size hb2.size)).mono ?_; rintro r w3 ⟨hr, hb3⟩; unfold zV at hr; subst hr))
    exact ⟨rfl, rfl, ((But.of_below hb1).trans hb2).trans hb3⟩
   | ok y r2 =>
    dsimp only at h
    have HM2 : Hid (∀ u, Rd B u g r2 -> Calls Tryz.prog 58 #[.pointer (some ⟨g, 0, none⟩), .string ⟨#[41]⟩] u fun r w' => KM B g u (zq [41] r2) r w') := fun u hu => Yc g r2 ⟨#[41]⟩ (by decide) u hu
    go_enter Tryz.func141, Tryz.ntmps141
    go_wp2_with (first
     | (refine aL (o := { dst := some 4, .. }) rfl rfl z29 ?_; intro w1 hA1 hb1)
     | (go_at_call 58; refine (HM.out _ hb1).mono ?_; rintro r w2 ⟨rfl, hR2, hb2⟩)
     | (go_at_call 38; refine (HX.out _ hR2 (zQ hb1.size hb2.size)).mono ?_; rintro _ w3 ⟨y, rfl, he, hT, hR3, hb3⟩)
     | (refine aL (o := { dst := some 5, .. }) rfl rfl z29 ?_; intro w4 hA4 hb4)
     | (refine sL rfl rfl hA4 y.cells rfl rfl (i43 _) (yP _) (ET.one _) ?_; intro w5 hA5 hb5; refine zb ?_))
    refine zd ?_
    have l1 := hA1.lt
    have l2 := hb2.size
    have l3 := hb3.size
    have l4 := hA4.lt
    have l5 := hb5.size
    have l0 := hb1.size
    have hA15 := hb5.at ((hb3.at (hb2.at hA1 (by omega)) (by omega)).below hb4) (by omega)
    have hT5 := hT.but ((But.of_below (g := g) hb4).fresh hb5 (zj _)) (.inl (by omega))
    have hR5 := (hR3.below hb4).but hb5 (by omega)
    have hB5 : But g w w5 := ((((But.of_below hb1).trans hb2).trans hb3).trans (But.of_below hb4)).fresh hb5 (by omega)
    clear hA1 hA4 hb1 hb2 hb3 hb4 hb5 hT hR2 hR3 HM HX
    cases hm2 : zq [41] r2 with
    | bad e p =>
     rw [hm2] at h HM2
     cases h
     go_wp2_with (first
      | (go_at_call 58; refine (HM2.out _ hR5).mono ?_; rintro r w6 ⟨hr, hb6⟩; unfold zV at hr; subst hr))
     exact ⟨rfl, rfl, hB5.trans hb6⟩
    | ok u2 r3 =>
     rw [hm2] at h HM2
     cases h
     go_wp2_with (first
      | (go_at_call 58; refine (HM2.out _ hR5).mono ?_; rintro r w6 ⟨rfl, hR6, hb6⟩; refine zb ?_))
     refine zd ?_
     have hA56 := hb6.at hA5 (by omega)
     have hA16 := hb6.at hA15 (by omega)
     have hT6 := hT5.but hb6 (.inl (by omega))
     go_wp2_with (first
      | (refine lL rfl rfl hA56 rfl zR rfl (i43 _) ?_)
      | (refine sL rfl rfl hA16 y.cells rfl rfl (i43 _) (yP _) (ET.one _) ?_; intro w9 hA9 hb9))
     refine zr (zh rfl _ _ w.heap.size 43 y.cells _ rfl hA9 zR rfl (i43 _)) rfl ?_
     exact ⟨y, rfl, he, (hT6.but hb9 (.inl (by omega))).low (by omega), hR6.but hb9 hB, (hB5.trans hb6).fresh hb9 (zj _)⟩
theorem f43 : (Tryz.prog.info? 43).map (fun i => (i.zero, i.size, i.bytes)) = some (some (.agg ([.int .u8 0, .int .u8 0, .int .u64 0, .string ⟨#[]⟩, .slice none 0 0] : List Value).toArray), 5, 64) := by kernel_rfl
theorem VC {o : Oper} {a : Act} {w : World} {K : Act -> World -> Prop} {Q : Exit -> Act -> World -> Prop} (x : Operand) (ho : o.op = .buildSlice 41 1 #[(0, x)]) (y : ET) (hx : a.eval x = .agg y.cells.toArray)
  (h : ∀ w', At 43 w' w.heap.size y.cells -> Below w.heap.size w w' -> w'.heap.size = w.heap.size + 1 -> K (a.put o.dst (.slice (some ⟨w.heap.size, 0, none⟩) 1 1)) w') : o.wp Tryz.prog a w K Q := by
 obtain ⟨ie, hi, hz0, hz1, hz2⟩ := info_parts f43
 refine wp_buildSlice 41 43 1 #[(0, x)] ho y.cells.toArray ie _ Tryz.underlying41 hi hz0 (by rw [hz1]; decide) (by rw [hz1]; decide) ?_ ?_
 ·rw [hz1]
  simp only [List.map_toArray, Yi, List.map_nil, hx]
  cases y
  kernel_rfl
 ·exact h _ (_root_.Go.heap_alloc_new w _) ((Below.refl _ w).alloc (zj _) _) (by show (w.heap.push _).size = _; simp)
theorem Y3 {w : World} {b op A : Nat} {y : ET} (hA : At 43 w b y.cells) (hy : Tw A w y) (hop : op < 256) (hb : A <= b) : Tw A w (ET.mk op 0 0 ⟨#[]⟩ (some ⟨b, 0, none⟩) 1 [y]) := by
 refine ⟨⟨?_, ?_⟩, ?_⟩
 ·unfold ET.In
  refine ⟨hop, by decide, by decide, by simp, by simp, .inr ⟨b, 0, rfl, hA.lt, ?_⟩⟩
  unfold ET.Row
  refine ⟨?_, hy.1.1, by unfold ET.Row; trivial⟩
  have := hA.range 0 5
  rwa [List.drop_zero, List.take_of_length_le (by rw [ET.cells5]; exact zj _)] at this
 ·unfold ET.Lies
  refine ⟨.inr ⟨b, 0, rfl, _, _, hA, by decide⟩, ?_⟩
  unfold ET.LiesL
  exact ⟨hy.1.2, by unfold ET.LiesL; trivial⟩
 ·unfold ET.Lies
  refine ⟨.inr ⟨b, 0, rfl, hb⟩, ?_⟩
  unfold ET.LiesL
  exact ⟨hy.2, by unfold ET.LiesL; trivial⟩
theorem Yv {p op : Nat} {ks : List Ex} {r r' : List Tk} {e : Ex} (h : yg p op ks r = .ok e r') : htX e <= 32 := by
 unfold yg at h
 split at h
 ·cases h
 ·cases h
  omega
theorem zaF {l r : List Tk} {e : Ex} (h : ZN l = .ok e r) : htX e <= 32 := by
 unfold ZN at h
 split at h
 ·cases h
  simp [htX, htL]
 ·split at h
  ·cases h
   simp [htX, htL]
  ·cases h
theorem JZ (f : Nat) :
  (∀ n d l e r, y6 f n d l = some (.ok e r) -> htX e <= 32) /\
  (∀ n m d x l e r, htX x <= 32 -> loopF f n m d x l = some (.ok e r) -> htX e <= 32) /\
  (∀ d l e r, operF f d l = some (.ok e r) -> htX e <= 32) /\
  (∀ d l e r, brkF f d l = some (.ok e r) -> htX e <= 32) := by
 induction f with
 | zero => exact ⟨fun n d l e r h => by simp [y6] at h, fun n m d x l e r _ h => by simp [loopF] at h, fun d l e r h => by simp [operF] at h, fun d l e r h => by simp [brkF] at h⟩
 | succ f ih =>
  obtain ⟨ih1, ih2, ih3, ih4⟩ := ih
  refine ⟨fun n d l e r h => ?_, fun n m d x l e r hx h => ?_, fun d l e r h => ?_, fun d l e r h => ?_⟩
  ·rw [y6] at h
   split at h
   ·cases h
   ·cases h
   ·next hc => exact ih2 _ _ _ _ _ _ _ (ih3 _ _ _ _ hc) h
  ·rw [loopF] at h
   split at h
   ·cases h
    exact hx
   ·split at h
    ·cases h
    ·cases h
    ·split at h
     ·cases h
     ·next hn => exact ih2 _ _ _ _ _ _ _ (Yv hn) h
  ·rw [operF] at h
   split at h
   ·exact zaF (yZ h)
   ·split at h
    ·cases h
    ·split at h
     ·split at h
      ·cases h
      ·cases h
      ·exact Yv (yZ h)
     ·split at h
      ·exact ih4 _ _ _ _ h
      ·split at h
       ·cases h
       ·cases h
       ·exact Yv (yZ h)
  ·rw [brkF] at h
   split at h
   ·cases h
   ·split at h
    ·cases h
    ·cases h
    ·next hc =>
     split at h
     ·cases h
     ·cases h
      exact ih1 _ _ _ _ _ hc
