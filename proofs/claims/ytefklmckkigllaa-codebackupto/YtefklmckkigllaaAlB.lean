/- 'all' of a list: each is asked in its turn, up to the first no. -/
import Derived.Test.YtefklmckkigllaaAlA
namespace Go.Proofs.Ytefklmckkigllaa
open Go.RowKit
set_option linter.unusedVariables false

set_option maxRecDepth 100000 in
set_option maxHeartbeats 3200000 in
theorem all48_49 {α : Type} (cl : α → List Value) (hlen : ∀ k, (cl k).length = 3) (hone : ∀ k, ∀ x ∈ cl k, x.oneCell' = true) (p : Value)(ks : List α) (a : Option Addr) (c : Nat) (hl : ks.length ≤ 1048576) (hcap : ks.length ≤ c) (w : World) (A : Nat → α → Bool) (I : Nat → World → Prop) (J : World → Prop)
    (hgrow : ∀ i u u', I i u → Below u.heap.size u u' → I i u')
    (hrow : ∀ i k u, ks[i]? = some k → I i u → ∃ g o, a = some ⟨g, o, none⟩ ∧ u.rangeAt g (o + i * 3) (cl k))
    (hask : ∀ i k u, ks[i]? = some k → I i u → Calls Try.prog 49 #[.agg (cl k).toArray, p] u fun e u' => e = .returned (.bool (A i k)) ∧ (A i k = true → I (i + 1) u') ∧ (A i k = false → J u'))
    (h0 : I 0 w) :
    Calls Try.prog 48 #[.slice a ks.length c, .func (.func 49) #[] #[p]] w fun e w' => (e = .returned (.bool true) ∧ (∀ i k, ks[i]? = some k → A i k = true) ∧ I ks.length w') ∨ (e = .returned (.bool false) ∧ (∃ i k, ks[i]? = some k ∧ A i k = false) ∧ J w') := by
  obtain ⟨n, hn⟩ : ∃ n, Hid (n = ks.length) := ⟨_, (rfl : ks.length = _)⟩
  rw [← hn.out] at hl hcap ⊢
  have HG : Hid (∀ i u u', I i u → Below u.heap.size u u' → I i u') := hgrow
  have HR : Hid (∀ i k u, ks[i]? = some k → I i u → ∃ g o, a = some ⟨g, o, none⟩ ∧ u.rangeAt g (o + i * 3) (cl k)) := hrow
  have HA : Hid (∀ i k u, ks[i]? = some k → I i u → Calls Try.prog 49 #[.agg (cl k).toArray, p] u fun e u' => e = .returned (.bool (A i k)) ∧ (A i k = true → I (i + 1) u') ∧ (A i k = false → J u')) := hask
  have H0 : Hid (I 0 w) := h0
  clear hgrow hrow hask h0
  go_enter Try.func48, Try.ntmps48
  go_wp2_with fail
  go_loopw [9] (fun j wr => ∃ i : Nat, j = .int .i64 (i : Int) ∧ i ≤ n ∧ Hid (I i wr ∧ ∀ q k, q < i → ks[q]? = some k → A q k = true)) (fun j _ => n - (intOf j).toNat)
  case atStart => exact ⟨0, rfl, by omega, H0.out, fun q k hq => by omega⟩
  case round =>
    obtain ⟨i, rfl, hi, hX⟩ := hrel
    by_cases hc : i < n
    · obtain ⟨s, hs⟩ : ∃ k, ks[i]? = some k := ⟨ks[i]'(by rw [← hn.out]; exact hc), by rw [List.getElem?_eq_getElem]⟩
      obtain ⟨hI, hall⟩ := hX.out
      obtain ⟨g1, o1, rfl, hr1⟩ := HR.out i s wr hs hI
      clear hX HR H0
      have hls := hlen s
      have hos := hone s
      have HI : Hid (I i wr) := hI
      have HL : Hid (∀ q k, q < i → ks[q]? = some k → A q k = true) := hall
      clear hI hall
      go_wp2_with (first
        | ((with_reducible show wpList _ _ _ _ _ _); refine wpList_load_mid (P := Try.prog) rfl 45 (.tmp 11) rfl g1 (o1 + i * 3) (by first | rfl | (simp; done)) (cl s) _ hr1 Try.underlying45 rfl (by rw [hls]; exact i45) ?_)
        | ((with_reducible show wpList _ _ _ _ _ _); refine wpList_alloc_at rfl 45 rfl _ 3 z45 ?_; intro w2 hA2 hb2 hs2)
        | ((with_reducible show wpList _ _ _ _ _ _); refine wpList_store_at (P := Try.prog) rfl 45 (.tmp 6) (.tmp 12) rfl wr.heap.size (cl s) rfl rfl 45 _ hA2 (by rw [hls]; exact i45) (by rw [hls]; rfl) hos ?_; intro w3 hA3 hb3 hs3; refine Hid.out ?_))
      refine hidU ?_
      have hB3 : Below wr.heap.size wr w3 := hb3.below hb2 (Nat.le_refl _) (by omega)
      have hC := HA.out i s w3 hs (HG.out i _ _ HI.out hB3)
      have hA3' := hA3
      obtain ⟨b, hb⟩ : ∃ b, Hid (b = A i s) := ⟨_, (rfl : A i s = _)⟩
      rw [← hb.out] at hC
      clear hb3 hb2 hA2 hr1 hs2 hs3 hA3 hB3 HI HA HG
      go_wp2_with (first
        | ((with_reducible show wpList _ _ _ _ _ _); refine wpList_load_at (P := Try.prog) rfl 45 (.tmp 6) rfl wr.heap.size rfl 45 (cl s) hA3' _ Try.underlying45 rfl (by rw [hls]; exact i45) ?_))
      refine hC.mono ?_
      rintro r w6 ⟨rfl, hy, hz⟩
      clear hC hA3' hos hls
      cases b with
      | false =>
        have HJ : Hid (J w6) := hz rfl
        have HB : Hid (A i s = false) := hb.out.symm
        clear hy hz hb
        go_wp2
        go_ret
        exact .inr ⟨rfl, ⟨i, s, hs, HB.out⟩, HJ.out⟩
      | true =>
        have HY : Hid (I (i + 1) w6) := hy rfl
        have HB : Hid (A i s = true) := hb.out.symm
        clear hy hz hb
        go_wp2
        go_roundw
        case rel =>
          refine ⟨i + 1, by go_num, by omega, HY.out, fun q k hq hk => ?_⟩
          by_cases hqi : q = i
          · subst hqi
            rw [hs] at hk
            cases hk
            exact HB.out
          · exact HL.out q k (by omega) hk
        case measure => simp [intOf]; omega
    · have hin : i = n := by omega
      subst hin
      have HX := hX
      clear hX HR HA HG H0
      go_wp2
      go_ret
      refine .inl ⟨rfl, fun q k hk => HX.out.2 q k ?_ hk, HX.out.1⟩
      have := (List.getElem?_eq_some_iff.1 hk).1
      rw [hn.out]
      exact this

set_option maxRecDepth 100000 in
set_option maxHeartbeats 3200000 in
theorem all48_51 {α : Type} (cl : α → List Value) (hlen : ∀ k, (cl k).length = 3) (hone : ∀ k, ∀ x ∈ cl k, x.oneCell' = true) (p : Value)(ks : List α) (a : Option Addr) (c : Nat) (hl : ks.length ≤ 1048576) (hcap : ks.length ≤ c) (w : World) (A : Nat → α → Bool) (I : Nat → World → Prop) (J : World → Prop)
    (hgrow : ∀ i u u', I i u → Below u.heap.size u u' → I i u')
    (hrow : ∀ i k u, ks[i]? = some k → I i u → ∃ g o, a = some ⟨g, o, none⟩ ∧ u.rangeAt g (o + i * 3) (cl k))
    (hask : ∀ i k u, ks[i]? = some k → I i u → Calls Try.prog 51 #[.agg (cl k).toArray, p] u fun e u' => e = .returned (.bool (A i k)) ∧ (A i k = true → I (i + 1) u') ∧ (A i k = false → J u'))
    (h0 : I 0 w) :
    Calls Try.prog 48 #[.slice a ks.length c, .func (.func 51) #[] #[p]] w fun e w' => (e = .returned (.bool true) ∧ (∀ i k, ks[i]? = some k → A i k = true) ∧ I ks.length w') ∨ (e = .returned (.bool false) ∧ (∃ i k, ks[i]? = some k ∧ A i k = false) ∧ J w') := by
  obtain ⟨n, hn⟩ : ∃ n, Hid (n = ks.length) := ⟨_, (rfl : ks.length = _)⟩
  rw [← hn.out] at hl hcap ⊢
  have HG : Hid (∀ i u u', I i u → Below u.heap.size u u' → I i u') := hgrow
  have HR : Hid (∀ i k u, ks[i]? = some k → I i u → ∃ g o, a = some ⟨g, o, none⟩ ∧ u.rangeAt g (o + i * 3) (cl k)) := hrow
  have HA : Hid (∀ i k u, ks[i]? = some k → I i u → Calls Try.prog 51 #[.agg (cl k).toArray, p] u fun e u' => e = .returned (.bool (A i k)) ∧ (A i k = true → I (i + 1) u') ∧ (A i k = false → J u')) := hask
  have H0 : Hid (I 0 w) := h0
  clear hgrow hrow hask h0
  go_enter Try.func48, Try.ntmps48
  go_wp2_with fail
  go_loopw [9] (fun j wr => ∃ i : Nat, j = .int .i64 (i : Int) ∧ i ≤ n ∧ Hid (I i wr ∧ ∀ q k, q < i → ks[q]? = some k → A q k = true)) (fun j _ => n - (intOf j).toNat)
  case atStart => exact ⟨0, rfl, by omega, H0.out, fun q k hq => by omega⟩
  case round =>
    obtain ⟨i, rfl, hi, hX⟩ := hrel
    by_cases hc : i < n
    · obtain ⟨s, hs⟩ : ∃ k, ks[i]? = some k := ⟨ks[i]'(by rw [← hn.out]; exact hc), by rw [List.getElem?_eq_getElem]⟩
      obtain ⟨hI, hall⟩ := hX.out
      obtain ⟨g1, o1, rfl, hr1⟩ := HR.out i s wr hs hI
      clear hX HR H0
      have hls := hlen s
      have hos := hone s
      have HI : Hid (I i wr) := hI
      have HL : Hid (∀ q k, q < i → ks[q]? = some k → A q k = true) := hall
      clear hI hall
      go_wp2_with (first
        | ((with_reducible show wpList _ _ _ _ _ _); refine wpList_load_mid (P := Try.prog) rfl 45 (.tmp 11) rfl g1 (o1 + i * 3) (by first | rfl | (simp; done)) (cl s) _ hr1 Try.underlying45 rfl (by rw [hls]; exact i45) ?_)
        | ((with_reducible show wpList _ _ _ _ _ _); refine wpList_alloc_at rfl 45 rfl _ 3 z45 ?_; intro w2 hA2 hb2 hs2)
        | ((with_reducible show wpList _ _ _ _ _ _); refine wpList_store_at (P := Try.prog) rfl 45 (.tmp 6) (.tmp 12) rfl wr.heap.size (cl s) rfl rfl 45 _ hA2 (by rw [hls]; exact i45) (by rw [hls]; rfl) hos ?_; intro w3 hA3 hb3 hs3; refine Hid.out ?_))
      refine hidU ?_
      have hB3 : Below wr.heap.size wr w3 := hb3.below hb2 (Nat.le_refl _) (by omega)
      have hC := HA.out i s w3 hs (HG.out i _ _ HI.out hB3)
      have hA3' := hA3
      obtain ⟨b, hb⟩ : ∃ b, Hid (b = A i s) := ⟨_, (rfl : A i s = _)⟩
      rw [← hb.out] at hC
      clear hb3 hb2 hA2 hr1 hs2 hs3 hA3 hB3 HI HA HG
      go_wp2_with (first
        | ((with_reducible show wpList _ _ _ _ _ _); refine wpList_load_at (P := Try.prog) rfl 45 (.tmp 6) rfl wr.heap.size rfl 45 (cl s) hA3' _ Try.underlying45 rfl (by rw [hls]; exact i45) ?_))
      refine hC.mono ?_
      rintro r w6 ⟨rfl, hy, hz⟩
      clear hC hA3' hos hls
      cases b with
      | false =>
        have HJ : Hid (J w6) := hz rfl
        have HB : Hid (A i s = false) := hb.out.symm
        clear hy hz hb
        go_wp2
        go_ret
        exact .inr ⟨rfl, ⟨i, s, hs, HB.out⟩, HJ.out⟩
      | true =>
        have HY : Hid (I (i + 1) w6) := hy rfl
        have HB : Hid (A i s = true) := hb.out.symm
        clear hy hz hb
        go_wp2
        go_roundw
        case rel =>
          refine ⟨i + 1, by go_num, by omega, HY.out, fun q k hq hk => ?_⟩
          by_cases hqi : q = i
          · subst hqi
            rw [hs] at hk
            cases hk
            exact HB.out
          · exact HL.out q k (by omega) hk
        case measure => simp [intOf]; omega
    · have hin : i = n := by omega
      subst hin
      have HX := hX
      clear hX HR HA HG H0
      go_wp2
      go_ret
      refine .inl ⟨rfl, fun q k hk => HX.out.2 q k ?_ hk, HX.out.1⟩
      have := (List.getElem?_eq_some_iff.1 hk).1
      rw [hn.out]
      exact this

end Go.Proofs.Ytefklmckkigllaa
