/- Joined texts of the proof. -/
import Derived.Test.YtefklmckkigllaaJ2

/- 'all' of a list: each is asked in its turn, up to the first no. -/
namespace Go.Proofs.Ytefklmckkigllaa
open Go.RowKit
set_option linter.unusedVariables false

set_option maxRecDepth 100000 in
set_option maxHeartbeats 3200000 in
theorem all53_69 {α : Type} (cl : α → List Value) (hlen : ∀ k, (cl k).length = 5) (hone : ∀ k, ∀ x ∈ cl k, x.oneCell' = true) (p : Value)(ks : List α) (a : Option Addr) (c : Nat) (hl : ks.length ≤ 1048576) (hcap : ks.length ≤ c) (w : World) (A : Nat → α → Bool) (I : Nat → World → Prop) (J : World → Prop)
    (hgrow : ∀ i u u', I i u → Below u.heap.size u u' → I i u')
    (hrow : ∀ i k u, ks[i]? = some k → I i u → ∃ g o, a = some ⟨g, o, none⟩ ∧ u.rangeAt g (o + i * 5) (cl k))
    (hask : ∀ i k u, ks[i]? = some k → I i u → Calls Try.prog 69 #[p, .agg (cl k).toArray] u fun e u' => e = .returned (.bool (A i k)) ∧ (A i k = true → I (i + 1) u') ∧ (A i k = false → J u'))
    (h0 : I 0 w) :
    Calls Try.prog 53 #[.slice a ks.length c, .func (.func 69) #[p] #[]] w fun e w' => (e = .returned (.bool true) ∧ (∀ i k, ks[i]? = some k → A i k = true) ∧ I ks.length w') ∨ (e = .returned (.bool false) ∧ (∃ i k, ks[i]? = some k ∧ A i k = false) ∧ J w') := by
  obtain ⟨n, hn⟩ : ∃ n, Hid (n = ks.length) := ⟨_, (rfl : ks.length = _)⟩
  rw [← hn.out] at hl hcap ⊢
  have HG : Hid (∀ i u u', I i u → Below u.heap.size u u' → I i u') := hgrow
  have HR : Hid (∀ i k u, ks[i]? = some k → I i u → ∃ g o, a = some ⟨g, o, none⟩ ∧ u.rangeAt g (o + i * 5) (cl k)) := hrow
  have HA : Hid (∀ i k u, ks[i]? = some k → I i u → Calls Try.prog 69 #[p, .agg (cl k).toArray] u fun e u' => e = .returned (.bool (A i k)) ∧ (A i k = true → I (i + 1) u') ∧ (A i k = false → J u')) := hask
  have H0 : Hid (I 0 w) := h0
  clear hgrow hrow hask h0
  go_enter Try.func53, Try.ntmps53
  go_wp2_with fail
  go_loopw [9] (fun j wr => ∃ i : Nat, j = .int .i64 (i : Int) ∧ i ≤ n ∧ Hid (I i wr ∧ ∀ q k, q < i → ks[q]? = some k → A q k = true)) (fun j _ => n - (intOf j).toNat)
  case atStart => exact ⟨0, rfl, by omega, H0.out, fun q k hq => by omega⟩
  case round =>
    obtain ⟨i, rfl, hi, hX⟩ := hrel
    by_cases hc : i < n
    · obtain ⟨s, hs⟩ : ∃ k, ks[i]? = some k := ⟨ks[i]'(by rw [← hn.out]; exact hc), by rw [List.getElem?_eq_getElem]⟩
      obtain ⟨hI, hall⟩ := hX.out
      obtain ⟨g1, o1, rfl, hr1⟩ := HR.out i s wr hs hI
      clear hX HR H0
      have hls := hlen s
      have hos := hone s
      have HI : Hid (I i wr) := hI
      have HL : Hid (∀ q k, q < i → ks[q]? = some k → A q k = true) := hall
      clear hI hall
      go_wp2_with (first
        | ((with_reducible show wpList _ _ _ _ _ _); refine wpList_load_mid (P := Try.prog) rfl 49 (.tmp 11) rfl g1 (o1 + i * 5) (by first | rfl | (simp; done)) (cl s) _ hr1 Try.underlying49 rfl (by rw [hls]; exact i49) ?_)
        | ((with_reducible show wpList _ _ _ _ _ _); refine wpList_alloc_at rfl 49 rfl _ 5 z49 ?_; intro w2 hA2 hb2 hs2)
        | ((with_reducible show wpList _ _ _ _ _ _); refine wpList_store_at (P := Try.prog) rfl 49 (.tmp 6) (.tmp 12) rfl wr.heap.size (cl s) rfl rfl 49 _ hA2 (by rw [hls]; exact i49) (by rw [hls]; rfl) hos ?_; intro w3 hA3 hb3 hs3; refine Hid.out ?_))
      refine hidU ?_
      have hB3 : Below wr.heap.size wr w3 := hb3.below hb2 (Nat.le_refl _) (by omega)
      have hC := HA.out i s w3 hs (HG.out i _ _ HI.out hB3)
      have hA3' := hA3
      obtain ⟨b, hb⟩ : ∃ b, Hid (b = A i s) := ⟨_, (rfl : A i s = _)⟩
      rw [← hb.out] at hC
      clear hb3 hb2 hA2 hr1 hs2 hs3 hA3 hB3 HI HA HG
      go_wp2_with (first
        | ((with_reducible show wpList _ _ _ _ _ _); refine wpList_load_at (P := Try.prog) rfl 49 (.tmp 6) rfl wr.heap.size rfl 49 (cl s) hA3' _ Try.underlying49 rfl (by rw [hls]; exact i49) ?_))
      refine hC.mono ?_
      rintro r w6 ⟨rfl, hy, hz⟩
      clear hC hA3' hos hls
      cases b with
      | false =>
        have HJ : Hid (J w6) := hz rfl
        have HB : Hid (A i s = false) := hb.out.symm
        clear hy hz hb
        go_wp2
        go_ret
        exact .inr ⟨rfl, ⟨i, s, hs, HB.out⟩, HJ.out⟩
      | true =>
        have HY : Hid (I (i + 1) w6) := hy rfl
        have HB : Hid (A i s = true) := hb.out.symm
        clear hy hz hb
        go_wp2
        go_roundw
        case rel =>
          refine ⟨i + 1, by go_num, by omega, HY.out, fun q k hq hk => ?_⟩
          by_cases hqi : q = i
          · subst hqi
            rw [hs] at hk
            cases hk
            exact HB.out
          · exact HL.out q k (by omega) hk
        case measure => simp [intOf]; omega
    · have hin : i = n := by omega
      subst hin
      have HX := hX
      clear hX HR HA HG H0
      go_wp2
      go_ret
      refine .inl ⟨rfl, fun q k hk => HX.out.2 q k ?_ hk, HX.out.1⟩
      have := (List.getElem?_eq_some_iff.1 hk).1
      rw [hn.out]
      exact this

set_option maxRecDepth 100000 in
set_option maxHeartbeats 3200000 in
theorem all53_54 {α : Type} (cl : α → List Value) (hlen : ∀ k, (cl k).length = 5) (hone : ∀ k, ∀ x ∈ cl k, x.oneCell' = true) (p : Value)(ks : List α) (a : Option Addr) (c : Nat) (hl : ks.length ≤ 1048576) (hcap : ks.length ≤ c) (w : World) (A : Nat → α → Bool) (I : Nat → World → Prop) (J : World → Prop)
    (hgrow : ∀ i u u', I i u → Below u.heap.size u u' → I i u')
    (hrow : ∀ i k u, ks[i]? = some k → I i u → ∃ g o, a = some ⟨g, o, none⟩ ∧ u.rangeAt g (o + i * 5) (cl k))
    (hask : ∀ i k u, ks[i]? = some k → I i u → Calls Try.prog 54 #[p, .agg (cl k).toArray] u fun e u' => e = .returned (.bool (A i k)) ∧ (A i k = true → I (i + 1) u') ∧ (A i k = false → J u'))
    (h0 : I 0 w) :
    Calls Try.prog 53 #[.slice a ks.length c, .func (.func 54) #[p] #[]] w fun e w' => (e = .returned (.bool true) ∧ (∀ i k, ks[i]? = some k → A i k = true) ∧ I ks.length w') ∨ (e = .returned (.bool false) ∧ (∃ i k, ks[i]? = some k ∧ A i k = false) ∧ J w') := by
  obtain ⟨n, hn⟩ : ∃ n, Hid (n = ks.length) := ⟨_, (rfl : ks.length = _)⟩
  rw [← hn.out] at hl hcap ⊢
  have HG : Hid (∀ i u u', I i u → Below u.heap.size u u' → I i u') := hgrow
  have HR : Hid (∀ i k u, ks[i]? = some k → I i u → ∃ g o, a = some ⟨g, o, none⟩ ∧ u.rangeAt g (o + i * 5) (cl k)) := hrow
  have HA : Hid (∀ i k u, ks[i]? = some k → I i u → Calls Try.prog 54 #[p, .agg (cl k).toArray] u fun e u' => e = .returned (.bool (A i k)) ∧ (A i k = true → I (i + 1) u') ∧ (A i k = false → J u')) := hask
  have H0 : Hid (I 0 w) := h0
  clear hgrow hrow hask h0
  go_enter Try.func53, Try.ntmps53
  go_wp2_with fail
  go_loopw [9] (fun j wr => ∃ i : Nat, j = .int .i64 (i : Int) ∧ i ≤ n ∧ Hid (I i wr ∧ ∀ q k, q < i → ks[q]? = some k → A q k = true)) (fun j _ => n - (intOf j).toNat)
  case atStart => exact ⟨0, rfl, by omega, H0.out, fun q k hq => by omega⟩
  case round =>
    obtain ⟨i, rfl, hi, hX⟩ := hrel
    by_cases hc : i < n
    · obtain ⟨s, hs⟩ : ∃ k, ks[i]? = some k := ⟨ks[i]'(by rw [← hn.out]; exact hc), by rw [List.getElem?_eq_getElem]⟩
      obtain ⟨hI, hall⟩ := hX.out
      obtain ⟨g1, o1, rfl, hr1⟩ := HR.out i s wr hs hI
      clear hX HR H0
      have hls := hlen s
      have hos := hone s
      have HI : Hid (I i wr) := hI
      have HL : Hid (∀ q k, q < i → ks[q]? = some k → A q k = true) := hall
      clear hI hall
      go_wp2_with (first
        | ((with_reducible show wpList _ _ _ _ _ _); refine wpList_load_mid (P := Try.prog) rfl 49 (.tmp 11) rfl g1 (o1 + i * 5) (by first | rfl | (simp; done)) (cl s) _ hr1 Try.underlying49 rfl (by rw [hls]; exact i49) ?_)
        | ((with_reducible show wpList _ _ _ _ _ _); refine wpList_alloc_at rfl 49 rfl _ 5 z49 ?_; intro w2 hA2 hb2 hs2)
        | ((with_reducible show wpList _ _ _ _ _ _); refine wpList_store_at (P := Try.prog) rfl 49 (.tmp 6) (.tmp 12) rfl wr.heap.size (cl s) rfl rfl 49 _ hA2 (by rw [hls]; exact i49) (by rw [hls]; rfl) hos ?_; intro w3 hA3 hb3 hs3; refine Hid.out ?_))
      refine hidU ?_
      have hB3 : Below wr.heap.size wr w3 := hb3.below hb2 (Nat.le_refl _) (by omega)
      have hC := HA.out i s w3 hs (HG.out i _ _ HI.out hB3)
      have hA3' := hA3
      obtain ⟨b, hb⟩ : ∃ b, Hid (b = A i s) := ⟨_, (rfl : A i s = _)⟩
      rw [← hb.out] at hC
      clear hb3 hb2 hA2 hr1 hs2 hs3 hA3 hB3 HI HA HG
      go_wp2_with (first
        | ((with_reducible show wpList _ _ _ _ _ _); refine wpList_load_at (P := Try.prog) rfl 49 (.tmp 6) rfl wr.heap.size rfl 49 (cl s) hA3' _ Try.underlying49 rfl (by rw [hls]; exact i49) ?_))
      refine hC.mono ?_
      rintro r w6 ⟨rfl, hy, hz⟩
      clear hC hA3' hos hls
      cases b with
      | false =>
        have HJ : Hid (J w6) := hz rfl
        have HB : Hid (A i s = false) := hb.out.symm
        clear hy hz hb
        go_wp2
        go_ret
        exact .inr ⟨rfl, ⟨i, s, hs, HB.out⟩, HJ.out⟩
      | true =>
        have HY : Hid (I (i + 1) w6) := hy rfl
        have HB : Hid (A i s = true) := hb.out.symm
        clear hy hz hb
        go_wp2
        go_roundw
        case rel =>
          refine ⟨i + 1, by go_num, by omega, HY.out, fun q k hq hk => ?_⟩
          by_cases hqi : q = i
          · subst hqi
            rw [hs] at hk
            cases hk
            exact HB.out
          · exact HL.out q k (by omega) hk
        case measure => simp [intOf]; omega
    · have hin : i = n := by omega
      subst hin
      have HX := hX
      clear hX HR HA HG H0
      go_wp2
      go_ret
      refine .inl ⟨rfl, fun q k hk => HX.out.2 q k ?_ hk, HX.out.1⟩
      have := (List.getElem?_eq_some_iff.1 hk).1
      rw [hn.out]
      exact this

end Go.Proofs.Ytefklmckkigllaa

/- 'all' of a list: each is asked in its turn, up to the first no. -/
namespace Go.Proofs.Ytefklmckkigllaa
open Go.RowKit
set_option linter.unusedVariables false

set_option maxRecDepth 100000 in
set_option maxHeartbeats 3200000 in
theorem all70_82 {α : Type} (cl : α → List Value) (hlen : ∀ k, (cl k).length = 4) (hone : ∀ k, ∀ x ∈ cl k, x.oneCell' = true) (p : Value)(ks : List α) (a : Option Addr) (c : Nat) (hl : ks.length ≤ 1048576) (hcap : ks.length ≤ c) (w : World) (A : Nat → α → Bool) (I : Nat → World → Prop) (J : World → Prop)
    (hgrow : ∀ i u u', I i u → Below u.heap.size u u' → I i u')
    (hrow : ∀ i k u, ks[i]? = some k → I i u → ∃ g o, a = some ⟨g, o, none⟩ ∧ u.rangeAt g (o + i * 4) (cl k))
    (hask : ∀ i k u, ks[i]? = some k → I i u → Calls Try.prog 82 #[p, .agg (cl k).toArray] u fun e u' => e = .returned (.bool (A i k)) ∧ (A i k = true → I (i + 1) u') ∧ (A i k = false → J u'))
    (h0 : I 0 w) :
    Calls Try.prog 70 #[.slice a ks.length c, .func (.func 82) #[p] #[]] w fun e w' => (e = .returned (.bool true) ∧ (∀ i k, ks[i]? = some k → A i k = true) ∧ I ks.length w') ∨ (e = .returned (.bool false) ∧ (∃ i k, ks[i]? = some k ∧ A i k = false) ∧ J w') := by
  obtain ⟨n, hn⟩ : ∃ n, Hid (n = ks.length) := ⟨_, (rfl : ks.length = _)⟩
  rw [← hn.out] at hl hcap ⊢
  have HG : Hid (∀ i u u', I i u → Below u.heap.size u u' → I i u') := hgrow
  have HR : Hid (∀ i k u, ks[i]? = some k → I i u → ∃ g o, a = some ⟨g, o, none⟩ ∧ u.rangeAt g (o + i * 4) (cl k)) := hrow
  have HA : Hid (∀ i k u, ks[i]? = some k → I i u → Calls Try.prog 82 #[p, .agg (cl k).toArray] u fun e u' => e = .returned (.bool (A i k)) ∧ (A i k = true → I (i + 1) u') ∧ (A i k = false → J u')) := hask
  have H0 : Hid (I 0 w) := h0
  clear hgrow hrow hask h0
  go_enter Try.func70, Try.ntmps70
  go_wp2_with fail
  go_loopw [9] (fun j wr => ∃ i : Nat, j = .int .i64 (i : Int) ∧ i ≤ n ∧ Hid (I i wr ∧ ∀ q k, q < i → ks[q]? = some k → A q k = true)) (fun j _ => n - (intOf j).toNat)
  case atStart => exact ⟨0, rfl, by omega, H0.out, fun q k hq => by omega⟩
  case round =>
    obtain ⟨i, rfl, hi, hX⟩ := hrel
    by_cases hc : i < n
    · obtain ⟨s, hs⟩ : ∃ k, ks[i]? = some k := ⟨ks[i]'(by rw [← hn.out]; exact hc), by rw [List.getElem?_eq_getElem]⟩
      obtain ⟨hI, hall⟩ := hX.out
      obtain ⟨g1, o1, rfl, hr1⟩ := HR.out i s wr hs hI
      clear hX HR H0
      have hls := hlen s
      have hos := hone s
      have HI : Hid (I i wr) := hI
      have HL : Hid (∀ q k, q < i → ks[q]? = some k → A q k = true) := hall
      clear hI hall
      go_wp2_with (first
        | ((with_reducible show wpList _ _ _ _ _ _); refine wpList_load_mid (P := Try.prog) rfl 37 (.tmp 11) rfl g1 (o1 + i * 4) (by first | rfl | (simp; done)) (cl s) _ hr1 Try.underlying37 rfl (by rw [hls]; exact i37) ?_)
        | ((with_reducible show wpList _ _ _ _ _ _); refine wpList_alloc_at rfl 37 rfl _ 4 z37 ?_; intro w2 hA2 hb2 hs2)
        | ((with_reducible show wpList _ _ _ _ _ _); refine wpList_store_at (P := Try.prog) rfl 37 (.tmp 6) (.tmp 12) rfl wr.heap.size (cl s) rfl rfl 37 _ hA2 (by rw [hls]; exact i37) (by rw [hls]; rfl) hos ?_; intro w3 hA3 hb3 hs3; refine Hid.out ?_))
      refine hidU ?_
      have hB3 : Below wr.heap.size wr w3 := hb3.below hb2 (Nat.le_refl _) (by omega)
      have hC := HA.out i s w3 hs (HG.out i _ _ HI.out hB3)
      have hA3' := hA3
      obtain ⟨b, hb⟩ : ∃ b, Hid (b = A i s) := ⟨_, (rfl : A i s = _)⟩
      rw [← hb.out] at hC
      clear hb3 hb2 hA2 hr1 hs2 hs3 hA3 hB3 HI HA HG
      go_wp2_with (first
        | ((with_reducible show wpList _ _ _ _ _ _); refine wpList_load_at (P := Try.prog) rfl 37 (.tmp 6) rfl wr.heap.size rfl 37 (cl s) hA3' _ Try.underlying37 rfl (by rw [hls]; exact i37) ?_))
      refine hC.mono ?_
      rintro r w6 ⟨rfl, hy, hz⟩
      clear hC hA3' hos hls
      cases b with
      | false =>
        have HJ : Hid (J w6) := hz rfl
        have HB : Hid (A i s = false) := hb.out.symm
        clear hy hz hb
        go_wp2
        go_ret
        exact .inr ⟨rfl, ⟨i, s, hs, HB.out⟩, HJ.out⟩
      | true =>
        have HY : Hid (I (i + 1) w6) := hy rfl
        have HB : Hid (A i s = true) := hb.out.symm
        clear hy hz hb
        go_wp2
        go_roundw
        case rel =>
          refine ⟨i + 1, by go_num, by omega, HY.out, fun q k hq hk => ?_⟩
          by_cases hqi : q = i
          · subst hqi
            rw [hs] at hk
            cases hk
            exact HB.out
          · exact HL.out q k (by omega) hk
        case measure => simp [intOf]; omega
    · have hin : i = n := by omega
      subst hin
      have HX := hX
      clear hX HR HA HG H0
      go_wp2
      go_ret
      refine .inl ⟨rfl, fun q k hk => HX.out.2 q k ?_ hk, HX.out.1⟩
      have := (List.getElem?_eq_some_iff.1 hk).1
      rw [hn.out]
      exact this

set_option maxRecDepth 100000 in
set_option maxHeartbeats 3200000 in
theorem all70_71 {α : Type} (cl : α → List Value) (hlen : ∀ k, (cl k).length = 4) (hone : ∀ k, ∀ x ∈ cl k, x.oneCell' = true) (p : Value)(ks : List α) (a : Option Addr) (c : Nat) (hl : ks.length ≤ 1048576) (hcap : ks.length ≤ c) (w : World) (A : Nat → α → Bool) (I : Nat → World → Prop) (J : World → Prop)
    (hgrow : ∀ i u u', I i u → Below u.heap.size u u' → I i u')
    (hrow : ∀ i k u, ks[i]? = some k → I i u → ∃ g o, a = some ⟨g, o, none⟩ ∧ u.rangeAt g (o + i * 4) (cl k))
    (hask : ∀ i k u, ks[i]? = some k → I i u → Calls Try.prog 71 #[p, .agg (cl k).toArray] u fun e u' => e = .returned (.bool (A i k)) ∧ (A i k = true → I (i + 1) u') ∧ (A i k = false → J u'))
    (h0 : I 0 w) :
    Calls Try.prog 70 #[.slice a ks.length c, .func (.func 71) #[p] #[]] w fun e w' => (e = .returned (.bool true) ∧ (∀ i k, ks[i]? = some k → A i k = true) ∧ I ks.length w') ∨ (e = .returned (.bool false) ∧ (∃ i k, ks[i]? = some k ∧ A i k = false) ∧ J w') := by
  obtain ⟨n, hn⟩ : ∃ n, Hid (n = ks.length) := ⟨_, (rfl : ks.length = _)⟩
  rw [← hn.out] at hl hcap ⊢
  have HG : Hid (∀ i u u', I i u → Below u.heap.size u u' → I i u') := hgrow
  have HR : Hid (∀ i k u, ks[i]? = some k → I i u → ∃ g o, a = some ⟨g, o, none⟩ ∧ u.rangeAt g (o + i * 4) (cl k)) := hrow
  have HA : Hid (∀ i k u, ks[i]? = some k → I i u → Calls Try.prog 71 #[p, .agg (cl k).toArray] u fun e u' => e = .returned (.bool (A i k)) ∧ (A i k = true → I (i + 1) u') ∧ (A i k = false → J u')) := hask
  have H0 : Hid (I 0 w) := h0
  clear hgrow hrow hask h0
  go_enter Try.func70, Try.ntmps70
  go_wp2_with fail
  go_loopw [9] (fun j wr => ∃ i : Nat, j = .int .i64 (i : Int) ∧ i ≤ n ∧ Hid (I i wr ∧ ∀ q k, q < i → ks[q]? = some k → A q k = true)) (fun j _ => n - (intOf j).toNat)
  case atStart => exact ⟨0, rfl, by omega, H0.out, fun q k hq => by omega⟩
  case round =>
    obtain ⟨i, rfl, hi, hX⟩ := hrel
    by_cases hc : i < n
    · obtain ⟨s, hs⟩ : ∃ k, ks[i]? = some k := ⟨ks[i]'(by rw [← hn.out]; exact hc), by rw [List.getElem?_eq_getElem]⟩
      obtain ⟨hI, hall⟩ := hX.out
      obtain ⟨g1, o1, rfl, hr1⟩ := HR.out i s wr hs hI
      clear hX HR H0
      have hls := hlen s
      have hos := hone s
      have HI : Hid (I i wr) := hI
      have HL : Hid (∀ q k, q < i → ks[q]? = some k → A q k = true) := hall
      clear hI hall
      go_wp2_with (first
        | ((with_reducible show wpList _ _ _ _ _ _); refine wpList_load_mid (P := Try.prog) rfl 37 (.tmp 11) rfl g1 (o1 + i * 4) (by first | rfl | (simp; done)) (cl s) _ hr1 Try.underlying37 rfl (by rw [hls]; exact i37) ?_)
        | ((with_reducible show wpList _ _ _ _ _ _); refine wpList_alloc_at rfl 37 rfl _ 4 z37 ?_; intro w2 hA2 hb2 hs2)
        | ((with_reducible show wpList _ _ _ _ _ _); refine wpList_store_at (P := Try.prog) rfl 37 (.tmp 6) (.tmp 12) rfl wr.heap.size (cl s) rfl rfl 37 _ hA2 (by rw [hls]; exact i37) (by rw [hls]; rfl) hos ?_; intro w3 hA3 hb3 hs3; refine Hid.out ?_))
      refine hidU ?_
      have hB3 : Below wr.heap.size wr w3 := hb3.below hb2 (Nat.le_refl _) (by omega)
      have hC := HA.out i s w3 hs (HG.out i _ _ HI.out hB3)
      have hA3' := hA3
      obtain ⟨b, hb⟩ : ∃ b, Hid (b = A i s) := ⟨_, (rfl : A i s = _)⟩
      rw [← hb.out] at hC
      clear hb3 hb2 hA2 hr1 hs2 hs3 hA3 hB3 HI HA HG
      go_wp2_with (first
        | ((with_reducible show wpList _ _ _ _ _ _); refine wpList_load_at (P := Try.prog) rfl 37 (.tmp 6) rfl wr.heap.size rfl 37 (cl s) hA3' _ Try.underlying37 rfl (by rw [hls]; exact i37) ?_))
      refine hC.mono ?_
      rintro r w6 ⟨rfl, hy, hz⟩
      clear hC hA3' hos hls
      cases b with
      | false =>
        have HJ : Hid (J w6) := hz rfl
        have HB : Hid (A i s = false) := hb.out.symm
        clear hy hz hb
        go_wp2
        go_ret
        exact .inr ⟨rfl, ⟨i, s, hs, HB.out⟩, HJ.out⟩
      | true =>
        have HY : Hid (I (i + 1) w6) := hy rfl
        have HB : Hid (A i s = true) := hb.out.symm
        clear hy hz hb
        go_wp2
        go_roundw
        case rel =>
          refine ⟨i + 1, by go_num, by omega, HY.out, fun q k hq hk => ?_⟩
          by_cases hqi : q = i
          · subst hqi
            rw [hs] at hk
            cases hk
            exact HB.out
          · exact HL.out q k (by omega) hk
        case measure => simp [intOf]; omega
    · have hin : i = n := by omega
      subst hin
      have HX := hX
      clear hX HR HA HG H0
      go_wp2
      go_ret
      refine .inl ⟨rfl, fun q k hk => HX.out.2 q k ?_ hk, HX.out.1⟩
      have := (List.getElem?_eq_some_iff.1 hk).1
      rw [hn.out]
      exact this

end Go.Proofs.Ytefklmckkigllaa

/- Whether what a node does last, its other road, and a node may be. -/
namespace Go.Proofs.Ytefklmckkigllaa
open Go.RowKit
set_option linter.unusedVariables false

/-- What is read of it. -/
structure Sc (w : World) (g : Nat) (a1 : Option Addr) (ns c1 : Nat) (mu : Int) (a3 : Option Addr) (nl c3 : Nat) (a4 : Option Addr) (nn c4 : Nat) : Prop where
  q0 : w.cell? ⟨g, 0, none⟩ = some (.slice a1 ns c1)
  q1 : w.cell? ⟨g, 1, none⟩ = some (.int .i64 mu)
  q3 : w.cell? ⟨g, 3, none⟩ = some (.slice a3 nl c3)
  q5 : w.cell? ⟨g, 5, none⟩ = some (.slice a4 nn c4)
theorem Sc.below {w w' : World} {g : Nat} {a1 : Option Addr} {ns c1 : Nat} {mu : Int} {a3 : Option Addr} {nl c3 : Nat} {a4 : Option Addr} {nn c4 : Nat} (h : Sc w g a1 ns c1 mu a3 nl c3 a4 nn c4) (hb : Below w.heap.size w w') : Sc w' g a1 ns c1 mu a3 nl c3 a4 nn c4 :=
  ⟨(hb.cell (lt_of_cell h.q0)).trans h.q0, (hb.cell (lt_of_cell h.q1)).trans h.q1, (hb.cell (lt_of_cell h.q3)).trans h.q3, (hb.cell (lt_of_cell h.q5)).trans h.q5⟩

/-- Whether what a node does last may be. -/
def mayA (nl ns : Nat) (mu : Int) (x : Nd) : Bool :=
  if x.kind = 1 then isP x.arg nl else if x.kind = 2 then isP x.arg ns else if x.kind = 3 ∨ x.kind = 4 then isP x.arg mu
  else if x.kind = 5 ∨ x.kind = 6 ∨ x.kind = 7 then decide (x.arg = 0) else false
/-- Whether its other road may be. -/
def mayL (nn : Nat) (x : Nd) : Bool := decide (x.alt = 0) || (decide (x.kind = 6) && isP x.alt ((nn : Int) + 1))

set_option maxRecDepth 100000 in
set_option maxHeartbeats 3200000 in
theorem mayArg_any (g : Nat) (a1 : Option Addr) (ns c1 : Nat) (mu : Int) (a3 : Option Addr) (nl c3 : Nat) (a4 : Option Addr) (nn c4 : Nat) (a : Option Addr) (n c : Nat) (kind arg next alt : Int) (code : List Ir) (w : World) (h : Sc w g a1 ns c1 mu a3 nl c3 a4 nn c4) :
    Calls Try.prog 83 #[.pointer (some ⟨g, 0, none⟩), .agg [.slice a n c, .int .i64 kind, .int .i64 arg, .int .i64 next, .int .i64 alt].toArray] w fun e w' => e = .returned (.bool (mayA nl ns mu ⟨code, kind, arg, next, alt⟩)) ∧ Below w.heap.size w w' := by
  have HS : Hid (Sc w g a1 ns c1 mu a3 nl c3 a4 nn c4) := h
  clear h
  unfold mayA
  dsimp only
  by_cases hk1 : kind = 1
  · rw [if_pos hk1]
    have e1 : (kind == 1) = true := by rw [beq_iff_eq]; omega
    have hP := fun u => isPlace_any arg nl u
    generalize isP arg nl = PL at *
    go_enter Try.func83, Try.ntmps83
    go_wp2_with (first
      | ((with_reducible show wpList _ _ _ _ _ _); refine wpList_box_at rfl 49 (.tmp 1) rfl [.slice a n c, .int .i64 kind, .int .i64 arg, .int .i64 next, .int .i64 alt] rfl ?_; intro w1 hA1 hb1 hs1; clear hs1; refine Hid.out ?_))
    refine hidU ?_
    have c1 : w1.cell? ⟨w.heap.size, 1, none⟩ = some (.int .i64 kind) := by rw [hA1.cell]; rfl
    have c2 : w1.cell? ⟨w.heap.size, 2, none⟩ = some (.int .i64 arg) := by rw [hA1.cell]; rfl
    obtain ⟨q0, q1, q3, q5⟩ := HS.out.below hb1
    clear hA1 HS
    go_wp2_with fail
    go_quiet (first | (go_at_call 45; exact Calls.quiet_of_same (hP _)))
    go_wp2
    go_ret
    exact ⟨rfl, hb1.trans ((below_drewN _ _).mono hb1.size)⟩
  · rw [if_neg hk1]
    have e1 : (kind == 1) = false := by rw [beq_eq_false_iff_ne]; omega
    by_cases hk2 : kind = 2
    · rw [if_pos hk2]
      have e2 : (kind == 2) = true := by rw [beq_iff_eq]; omega
      have hP := fun u => isPlace_any arg ns u
      generalize isP arg ns = PL at *
      go_enter Try.func83, Try.ntmps83
      go_wp2_with (first
        | ((with_reducible show wpList _ _ _ _ _ _); refine wpList_box_at rfl 49 (.tmp 1) rfl [.slice a n c, .int .i64 kind, .int .i64 arg, .int .i64 next, .int .i64 alt] rfl ?_; intro w1 hA1 hb1 hs1; clear hs1; refine Hid.out ?_))
      refine hidU ?_
      have c1 : w1.cell? ⟨w.heap.size, 1, none⟩ = some (.int .i64 kind) := by rw [hA1.cell]; rfl
      have c2 : w1.cell? ⟨w.heap.size, 2, none⟩ = some (.int .i64 arg) := by rw [hA1.cell]; rfl
      obtain ⟨q0, q1, q3, q5⟩ := HS.out.below hb1
      clear hA1 HS
      go_wp2_with fail
      go_quiet (first | (go_at_call 45; exact Calls.quiet_of_same (hP _)))
      go_wp2
      go_ret
      exact ⟨rfl, hb1.trans ((below_drewN _ _).mono hb1.size)⟩
    · rw [if_neg hk2]
      have e2 : (kind == 2) = false := by rw [beq_eq_false_iff_ne]; omega
      by_cases hk3 : kind = 3 ∨ kind = 4
      · rw [if_pos hk3]
        by_cases j3 : kind = 3
        · have e3 : (kind == 3) = true := by rw [beq_iff_eq]; omega
          have hP := fun u => isPlace_any arg mu u
          generalize isP arg mu = PL at *
          go_enter Try.func83, Try.ntmps83
          go_wp2_with (first
            | ((with_reducible show wpList _ _ _ _ _ _); refine wpList_box_at rfl 49 (.tmp 1) rfl [.slice a n c, .int .i64 kind, .int .i64 arg, .int .i64 next, .int .i64 alt] rfl ?_; intro w1 hA1 hb1 hs1; clear hs1; refine Hid.out ?_))
          refine hidU ?_
          have c1 : w1.cell? ⟨w.heap.size, 1, none⟩ = some (.int .i64 kind) := by rw [hA1.cell]; rfl
          have c2 : w1.cell? ⟨w.heap.size, 2, none⟩ = some (.int .i64 arg) := by rw [hA1.cell]; rfl
          obtain ⟨q0, q1, q3, q5⟩ := HS.out.below hb1
          clear hA1 HS
          go_wp2_with fail
          go_quiet (first | (go_at_call 45; exact Calls.quiet_of_same (hP _)))
          go_wp2
          go_ret
          exact ⟨rfl, hb1.trans ((below_drewN _ _).mono hb1.size)⟩
        · have e3 : (kind == 3) = false := by rw [beq_eq_false_iff_ne]; omega
          have e4 : (kind == 4) = true := by rw [beq_iff_eq]; omega
          have hP := fun u => isPlace_any arg mu u
          generalize isP arg mu = PL at *
          go_enter Try.func83, Try.ntmps83
          go_wp2_with (first
            | ((with_reducible show wpList _ _ _ _ _ _); refine wpList_box_at rfl 49 (.tmp 1) rfl [.slice a n c, .int .i64 kind, .int .i64 arg, .int .i64 next, .int .i64 alt] rfl ?_; intro w1 hA1 hb1 hs1; clear hs1; refine Hid.out ?_))
          refine hidU ?_
          have c1 : w1.cell? ⟨w.heap.size, 1, none⟩ = some (.int .i64 kind) := by rw [hA1.cell]; rfl
          have c2 : w1.cell? ⟨w.heap.size, 2, none⟩ = some (.int .i64 arg) := by rw [hA1.cell]; rfl
          obtain ⟨q0, q1, q3, q5⟩ := HS.out.below hb1
          clear hA1 HS
          go_wp2_with fail
          go_quiet (first | (go_at_call 45; exact Calls.quiet_of_same (hP _)))
          go_wp2
          go_ret
          exact ⟨rfl, hb1.trans ((below_drewN _ _).mono hb1.size)⟩
      · rw [if_neg hk3]
        have e3 : (kind == 3) = false := by rw [beq_eq_false_iff_ne]; omega
        have e4 : (kind == 4) = false := by rw [beq_eq_false_iff_ne]; omega
        by_cases hk5 : kind = 5 ∨ kind = 6 ∨ kind = 7
        · rw [if_pos hk5]
          by_cases j5 : kind = 5
          · have e5 : (kind == 5) = true := by rw [beq_iff_eq]; omega
            have eA : decide (arg = 0) = (arg == 0) := by rw [Bool.eq_iff_iff, beq_iff_eq, decide_eq_true_iff]
            rw [eA]
            clear eA
            go_enter Try.func83, Try.ntmps83
            go_wp2_with (first
              | ((with_reducible show wpList _ _ _ _ _ _); refine wpList_box_at rfl 49 (.tmp 1) rfl [.slice a n c, .int .i64 kind, .int .i64 arg, .int .i64 next, .int .i64 alt] rfl ?_; intro w1 hA1 hb1 hs1; clear hs1; refine Hid.out ?_))
            refine hidU ?_
            have c1 : w1.cell? ⟨w.heap.size, 1, none⟩ = some (.int .i64 kind) := by rw [hA1.cell]; rfl
            have c2 : w1.cell? ⟨w.heap.size, 2, none⟩ = some (.int .i64 arg) := by rw [hA1.cell]; rfl
            obtain ⟨q0, q1, q3, q5⟩ := HS.out.below hb1
            clear hA1 HS
            go_wp2
            go_ret
            exact ⟨rfl, hb1⟩
          · have e5 : (kind == 5) = false := by rw [beq_eq_false_iff_ne]; omega
            by_cases j6 : kind = 6
            · have e6 : (kind == 6) = true := by rw [beq_iff_eq]; omega
              have eA : decide (arg = 0) = (arg == 0) := by rw [Bool.eq_iff_iff, beq_iff_eq, decide_eq_true_iff]
              rw [eA]
              clear eA
              go_enter Try.func83, Try.ntmps83
              go_wp2_with (first
                | ((with_reducible show wpList _ _ _ _ _ _); refine wpList_box_at rfl 49 (.tmp 1) rfl [.slice a n c, .int .i64 kind, .int .i64 arg, .int .i64 next, .int .i64 alt] rfl ?_; intro w1 hA1 hb1 hs1; clear hs1; refine Hid.out ?_))
              refine hidU ?_
              have c1 : w1.cell? ⟨w.heap.size, 1, none⟩ = some (.int .i64 kind) := by rw [hA1.cell]; rfl
              have c2 : w1.cell? ⟨w.heap.size, 2, none⟩ = some (.int .i64 arg) := by rw [hA1.cell]; rfl
              obtain ⟨q0, q1, q3, q5⟩ := HS.out.below hb1
              clear hA1 HS
              go_wp2
              go_ret
              exact ⟨rfl, hb1⟩
            · have e6 : (kind == 6) = false := by rw [beq_eq_false_iff_ne]; omega
              have e7 : (kind == 7) = true := by rw [beq_iff_eq]; omega
              have eA : decide (arg = 0) = (arg == 0) := by rw [Bool.eq_iff_iff, beq_iff_eq, decide_eq_true_iff]
              rw [eA]
              clear eA
              go_enter Try.func83, Try.ntmps83
              go_wp2_with (first
                | ((with_reducible show wpList _ _ _ _ _ _); refine wpList_box_at rfl 49 (.tmp 1) rfl [.slice a n c, .int .i64 kind, .int .i64 arg, .int .i64 next, .int .i64 alt] rfl ?_; intro w1 hA1 hb1 hs1; clear hs1; refine Hid.out ?_))
              refine hidU ?_
              have c1 : w1.cell? ⟨w.heap.size, 1, none⟩ = some (.int .i64 kind) := by rw [hA1.cell]; rfl
              have c2 : w1.cell? ⟨w.heap.size, 2, none⟩ = some (.int .i64 arg) := by rw [hA1.cell]; rfl
              obtain ⟨q0, q1, q3, q5⟩ := HS.out.below hb1
              clear hA1 HS
              go_wp2
              go_ret
              exact ⟨rfl, hb1⟩
        · rw [if_neg hk5]
          have e5 : (kind == 5) = false := by rw [beq_eq_false_iff_ne]; omega
          have e6 : (kind == 6) = false := by rw [beq_eq_false_iff_ne]; omega
          have e7 : (kind == 7) = false := by rw [beq_eq_false_iff_ne]; omega
          go_enter Try.func83, Try.ntmps83
          go_wp2_with (first
            | ((with_reducible show wpList _ _ _ _ _ _); refine wpList_box_at rfl 49 (.tmp 1) rfl [.slice a n c, .int .i64 kind, .int .i64 arg, .int .i64 next, .int .i64 alt] rfl ?_; intro w1 hA1 hb1 hs1; clear hs1; refine Hid.out ?_))
          refine hidU ?_
          have c1 : w1.cell? ⟨w.heap.size, 1, none⟩ = some (.int .i64 kind) := by rw [hA1.cell]; rfl
          have c2 : w1.cell? ⟨w.heap.size, 2, none⟩ = some (.int .i64 arg) := by rw [hA1.cell]; rfl
          obtain ⟨q0, q1, q3, q5⟩ := HS.out.below hb1
          clear hA1 HS
          go_wp2
          go_ret
          exact ⟨rfl, hb1⟩

set_option maxRecDepth 100000 in
set_option maxHeartbeats 3200000 in
theorem mayAlt_any (g : Nat) (a1 : Option Addr) (ns c1 : Nat) (mu : Int) (a3 : Option Addr) (nl c3 : Nat) (a4 : Option Addr) (nn c4 : Nat) (hnn : nn ≤ 1048576) (a : Option Addr) (n c : Nat) (kind arg next alt : Int) (code : List Ir) (w : World) (h : Sc w g a1 ns c1 mu a3 nl c3 a4 nn c4) :
    Calls Try.prog 84 #[.pointer (some ⟨g, 0, none⟩), .agg [.slice a n c, .int .i64 kind, .int .i64 arg, .int .i64 next, .int .i64 alt].toArray] w fun e w' => e = .returned (.bool (mayL nn ⟨code, kind, arg, next, alt⟩)) ∧ Below w.heap.size w w' := by
  have HS : Hid (Sc w g a1 ns c1 mu a3 nl c3 a4 nn c4) := h
  clear h
  unfold mayL
  dsimp only
  have hP := fun u => isPlace_any alt ((nn : Int) + 1) u
  generalize isP alt ((nn : Int) + 1) = PL at *
  have hW : IntKind.i64.wrap ((nn : Int) + 1) = (nn : Int) + 1 := by rw [IntKind.wrap_i64]; omega
  by_cases h0 : alt = 0
  · rw [decide_eq_true h0, Bool.true_or]
    have e0 : (alt == 0) = true := by rw [beq_iff_eq]; exact h0
    clear h0
    go_enter Try.func84, Try.ntmps84
    go_wp2_with (first
      | ((with_reducible show wpList _ _ _ _ _ _); refine wpList_box_at rfl 49 (.tmp 1) rfl [.slice a n c, .int .i64 kind, .int .i64 arg, .int .i64 next, .int .i64 alt] rfl ?_; intro w1 hA1 hb1 hs1; clear hs1; refine Hid.out ?_))
    refine hidU ?_
    have c1 : w1.cell? ⟨w.heap.size, 1, none⟩ = some (.int .i64 kind) := by rw [hA1.cell]; rfl
    have c4 : w1.cell? ⟨w.heap.size, 4, none⟩ = some (.int .i64 alt) := by rw [hA1.cell]; rfl
    obtain ⟨q0, q1, q3, q5⟩ := HS.out.below hb1
    clear hA1 HS
    go_wp2_with fail
    go_quiet (first | (go_at_call 45; exact Calls.quiet_of_same (hP _)))
    go_wp2
    go_ret
    exact ⟨rfl, hb1.trans ((below_drewN _ _).mono hb1.size)⟩
  · rw [decide_eq_false h0, Bool.false_or]
    have e0 : (alt == 0) = false := by rw [beq_eq_false_iff_ne]; exact h0
    clear h0
    by_cases h6 : kind = 6
    · rw [decide_eq_true h6, Bool.true_and]
      have e6 : (kind == 6) = true := by rw [beq_iff_eq]; exact h6
      clear h6
      go_enter Try.func84, Try.ntmps84
      go_wp2_with (first
        | ((with_reducible show wpList _ _ _ _ _ _); refine wpList_box_at rfl 49 (.tmp 1) rfl [.slice a n c, .int .i64 kind, .int .i64 arg, .int .i64 next, .int .i64 alt] rfl ?_; intro w1 hA1 hb1 hs1; clear hs1; refine Hid.out ?_))
      refine hidU ?_
      have c1 : w1.cell? ⟨w.heap.size, 1, none⟩ = some (.int .i64 kind) := by rw [hA1.cell]; rfl
      have c4 : w1.cell? ⟨w.heap.size, 4, none⟩ = some (.int .i64 alt) := by rw [hA1.cell]; rfl
      obtain ⟨q0, q1, q3, q5⟩ := HS.out.below hb1
      clear hA1 HS
      go_wp2_with fail
      go_quiet (first | (go_at_call 45; exact Calls.quiet_of_same (hP _)))
      go_wp2
      go_ret
      exact ⟨rfl, hb1.trans ((below_drewN _ _).mono hb1.size)⟩
    · rw [decide_eq_false h6, Bool.false_and]
      have e6 : (kind == 6) = false := by rw [beq_eq_false_iff_ne]; exact h6
      clear h6
      go_enter Try.func84, Try.ntmps84
      go_wp2_with (first
        | ((with_reducible show wpList _ _ _ _ _ _); refine wpList_box_at rfl 49 (.tmp 1) rfl [.slice a n c, .int .i64 kind, .int .i64 arg, .int .i64 next, .int .i64 alt] rfl ?_; intro w1 hA1 hb1 hs1; clear hs1; refine Hid.out ?_))
      refine hidU ?_
      have c1 : w1.cell? ⟨w.heap.size, 1, none⟩ = some (.int .i64 kind) := by rw [hA1.cell]; rfl
      have c4 : w1.cell? ⟨w.heap.size, 4, none⟩ = some (.int .i64 alt) := by rw [hA1.cell]; rfl
      obtain ⟨q0, q1, q3, q5⟩ := HS.out.below hb1
      clear hA1 HS
      go_wp2_with fail
      go_quiet (first | (go_at_call 45; exact Calls.quiet_of_same (hP _)))
      go_wp2
      go_ret
      exact ⟨rfl, hb1.trans ((below_drewN _ _).mono hb1.size)⟩

end Go.Proofs.Ytefklmckkigllaa
