/- Whether one of a list is so. -/
import Derived.Test.YtefklmckkigllaaCd
namespace Go.Proofs.Ytefklmckkigllaa
open Go.RowKit
set_option linter.unusedVariables false

set_option maxRecDepth 100000 in
set_option maxHeartbeats 3200000 in
theorem index66_44 {α : Type} (cl : α → List Value) (hlen : ∀ k, (cl k).length = 3) (ks : List α) (a : Option Addr) (c : Nat) (hl : ks.length ≤ 1048576) (hcap : ks.length ≤ c) (w : World) (A : α → Bool)
    (hrow : ∀ (i : Nat) (k : α) (u : World), ks[i]? = some k → Below w.heap.size w u → ∃ g o, a = some ⟨g, o, none⟩ ∧ u.rangeAt g (o + i * 3) (cl k))
    (hask : ∀ (i : Nat) (k : α) (u : World), ks[i]? = some k → Below w.heap.size w u → Calls Try.prog 44 #[.agg (cl k).toArray] u fun e u' => e = .returned (.bool (A k)) ∧ Below u.heap.size u u') :
    Calls Try.prog 66 #[.slice a ks.length c, .func (.func 44) #[] #[]] w fun e w' => ∃ z : Int, e = .returned (.int .i64 z) ∧ decide (0 ≤ z) = ks.any A ∧ Below w.heap.size w w' := by
  obtain ⟨n, hn⟩ : ∃ n, Hid (n = ks.length) := ⟨_, (rfl : ks.length = _)⟩
  rw [← hn.out] at hl hcap ⊢
  have HR : Hid (∀ (i : Nat) (k : α) (u : World), ks[i]? = some k → Below w.heap.size w u → ∃ g o, a = some ⟨g, o, none⟩ ∧ u.rangeAt g (o + i * 3) (cl k)) := hrow
  have HA : Hid (∀ (i : Nat) (k : α) (u : World), ks[i]? = some k → Below w.heap.size w u → Calls Try.prog 44 #[.agg (cl k).toArray] u fun e u' => e = .returned (.bool (A k)) ∧ Below u.heap.size u u') := hask
  clear hrow hask
  go_enter Try.func66, Try.ntmps66
  go_wp2_with fail
  go_loopw [5, 8] (fun _ j wr => ∃ i : Nat, j = .int .i64 (i : Int) ∧ i ≤ n ∧ Hid (Below w.heap.size w wr ∧ ∀ (q : Nat) (k : α), q < i → ks[q]? = some k → A k = false)) (fun _ j _ => n - (intOf j).toNat)
  case atStart => exact ⟨0, rfl, by omega, Below.refl _ _, fun q k hq => by omega⟩
  case round =>
    obtain ⟨i, rfl, hi, hX⟩ := hrel
    by_cases hc : i < n
    · obtain ⟨s, hs⟩ : ∃ k, ks[i]? = some k := ⟨ks[i]'(by rw [← hn.out]; exact hc), by rw [List.getElem?_eq_getElem]⟩
      obtain ⟨hI, hall⟩ := hX.out
      obtain ⟨g1, o1, rfl, hr1⟩ := HR.out i s wr hs hI
      have hls := hlen s
      have HI : Hid (Below w.heap.size w wr) := hI
      have HL : Hid (∀ (q : Nat) (k : α), q < i → ks[q]? = some k → A k = false) := hall
      have hC := HA.out i s wr hs hI
      obtain ⟨b, hb⟩ : ∃ b, Hid (b = A s) := ⟨_, (rfl : A s = _)⟩
      rw [← hb.out] at hC
      clear hI hall hX HR HA
      go_wp2_with (first
        | ((with_reducible show wpList _ _ _ _ _ _); refine wpList_load_mid (P := Try.prog) rfl 45 (.tmp 14) rfl g1 (o1 + i * 3) (by first | rfl | (simp; done)) (cl s) _ hr1 Try.underlying45 rfl (by rw [hls]; exact i45) ?_))
      refine hC.mono ?_
      rintro r w6 ⟨rfl, hb6⟩
      have HY : Hid (Below w.heap.size w w6) := HI.out.trans (hb6.mono HI.out.size)
      clear hC hls hb6 HI hr1
      cases b with
      | true =>
        have HB : Hid (A s = true) := hb.out.symm
        clear hb
        go_wp2
        go_ret
        exact ⟨i, rfl, by rw [decide_eq_true (by omega), Eq.comm, List.any_eq_true]; exact ⟨s, List.mem_of_getElem? hs, HB.out⟩, HY.out⟩
      | false =>
        have HB : Hid (A s = false) := hb.out.symm
        clear hb
        go_wp2
        go_roundw
        case rel =>
          refine ⟨i + 1, by go_num, by omega, HY.out, fun q k hq hk => ?_⟩
          by_cases hqi : q = i
          · subst hqi
            rw [hs] at hk
            cases hk
            exact HB.out
          · exact HL.out q k (by omega) hk
        case measure => simp [intOf]; omega
    · have hin : i = n := by omega
      subst hin
      have HX := hX
      clear hX HR HA
      go_wp2
      go_ret
      refine ⟨-1, rfl, ?_, HX.out.1⟩
      rw [decide_eq_false (by omega), Eq.comm, List.any_eq_false]
      intro k hk
      obtain ⟨q, hq⟩ := List.getElem?_of_mem hk
      rw [HX.out.2 q k (by rw [hn.out]; exact (List.getElem?_eq_some_iff.1 hq).1) hq]
      decide

set_option maxRecDepth 100000 in
set_option maxHeartbeats 3200000 in
theorem any43_44 {α : Type} (cl : α → List Value) (hlen : ∀ k, (cl k).length = 3) (ks : List α) (a : Option Addr) (c : Nat) (hl : ks.length ≤ 1048576) (hcap : ks.length ≤ c) (w : World) (A : α → Bool)
    (hrow : ∀ (i : Nat) (k : α) (u : World), ks[i]? = some k → Below w.heap.size w u → ∃ g o, a = some ⟨g, o, none⟩ ∧ u.rangeAt g (o + i * 3) (cl k))
    (hask : ∀ (i : Nat) (k : α) (u : World), ks[i]? = some k → Below w.heap.size w u → Calls Try.prog 44 #[.agg (cl k).toArray] u fun e u' => e = .returned (.bool (A k)) ∧ Below u.heap.size u u') :
    Calls Try.prog 43 #[.slice a ks.length c, .func (.func 44) #[] #[]] w fun e w' => e = .returned (.bool (ks.any A)) ∧ Below w.heap.size w w' := by
  have hC := index66_44 cl hlen ks a c hl hcap w A hrow hask
  generalize ks.any A = B at *
  clear hrow hask
  go_enter Try.func43, Try.ntmps43
  go_wp2_with fail
  refine hC.mono ?_
  rintro r w1 ⟨z, rfl, hz, hb⟩
  go_wp2
  go_ret
  exact ⟨by rw [← hz]; rfl, hb⟩

set_option maxRecDepth 100000 in
set_option maxHeartbeats 3200000 in
theorem index66_55 {α : Type} (cl : α → List Value) (hlen : ∀ k, (cl k).length = 3) (ks : List α) (a : Option Addr) (c : Nat) (hl : ks.length ≤ 1048576) (hcap : ks.length ≤ c) (w : World) (A : α → Bool)
    (hrow : ∀ (i : Nat) (k : α) (u : World), ks[i]? = some k → Below w.heap.size w u → ∃ g o, a = some ⟨g, o, none⟩ ∧ u.rangeAt g (o + i * 3) (cl k))
    (hask : ∀ (i : Nat) (k : α) (u : World), ks[i]? = some k → Below w.heap.size w u → Calls Try.prog 55 #[.agg (cl k).toArray] u fun e u' => e = .returned (.bool (A k)) ∧ Below u.heap.size u u') :
    Calls Try.prog 66 #[.slice a ks.length c, .func (.func 55) #[] #[]] w fun e w' => ∃ z : Int, e = .returned (.int .i64 z) ∧ decide (0 ≤ z) = ks.any A ∧ Below w.heap.size w w' := by
  obtain ⟨n, hn⟩ : ∃ n, Hid (n = ks.length) := ⟨_, (rfl : ks.length = _)⟩
  rw [← hn.out] at hl hcap ⊢
  have HR : Hid (∀ (i : Nat) (k : α) (u : World), ks[i]? = some k → Below w.heap.size w u → ∃ g o, a = some ⟨g, o, none⟩ ∧ u.rangeAt g (o + i * 3) (cl k)) := hrow
  have HA : Hid (∀ (i : Nat) (k : α) (u : World), ks[i]? = some k → Below w.heap.size w u → Calls Try.prog 55 #[.agg (cl k).toArray] u fun e u' => e = .returned (.bool (A k)) ∧ Below u.heap.size u u') := hask
  clear hrow hask
  go_enter Try.func66, Try.ntmps66
  go_wp2_with fail
  go_loopw [5, 8] (fun _ j wr => ∃ i : Nat, j = .int .i64 (i : Int) ∧ i ≤ n ∧ Hid (Below w.heap.size w wr ∧ ∀ (q : Nat) (k : α), q < i → ks[q]? = some k → A k = false)) (fun _ j _ => n - (intOf j).toNat)
  case atStart => exact ⟨0, rfl, by omega, Below.refl _ _, fun q k hq => by omega⟩
  case round =>
    obtain ⟨i, rfl, hi, hX⟩ := hrel
    by_cases hc : i < n
    · obtain ⟨s, hs⟩ : ∃ k, ks[i]? = some k := ⟨ks[i]'(by rw [← hn.out]; exact hc), by rw [List.getElem?_eq_getElem]⟩
      obtain ⟨hI, hall⟩ := hX.out
      obtain ⟨g1, o1, rfl, hr1⟩ := HR.out i s wr hs hI
      have hls := hlen s
      have HI : Hid (Below w.heap.size w wr) := hI
      have HL : Hid (∀ (q : Nat) (k : α), q < i → ks[q]? = some k → A k = false) := hall
      have hC := HA.out i s wr hs hI
      obtain ⟨b, hb⟩ : ∃ b, Hid (b = A s) := ⟨_, (rfl : A s = _)⟩
      rw [← hb.out] at hC
      clear hI hall hX HR HA
      go_wp2_with (first
        | ((with_reducible show wpList _ _ _ _ _ _); refine wpList_load_mid (P := Try.prog) rfl 45 (.tmp 14) rfl g1 (o1 + i * 3) (by first | rfl | (simp; done)) (cl s) _ hr1 Try.underlying45 rfl (by rw [hls]; exact i45) ?_))
      refine hC.mono ?_
      rintro r w6 ⟨rfl, hb6⟩
      have HY : Hid (Below w.heap.size w w6) := HI.out.trans (hb6.mono HI.out.size)
      clear hC hls hb6 HI hr1
      cases b with
      | true =>
        have HB : Hid (A s = true) := hb.out.symm
        clear hb
        go_wp2
        go_ret
        exact ⟨i, rfl, by rw [decide_eq_true (by omega), Eq.comm, List.any_eq_true]; exact ⟨s, List.mem_of_getElem? hs, HB.out⟩, HY.out⟩
      | false =>
        have HB : Hid (A s = false) := hb.out.symm
        clear hb
        go_wp2
        go_roundw
        case rel =>
          refine ⟨i + 1, by go_num, by omega, HY.out, fun q k hq hk => ?_⟩
          by_cases hqi : q = i
          · subst hqi
            rw [hs] at hk
            cases hk
            exact HB.out
          · exact HL.out q k (by omega) hk
        case measure => simp [intOf]; omega
    · have hin : i = n := by omega
      subst hin
      have HX := hX
      clear hX HR HA
      go_wp2
      go_ret
      refine ⟨-1, rfl, ?_, HX.out.1⟩
      rw [decide_eq_false (by omega), Eq.comm, List.any_eq_false]
      intro k hk
      obtain ⟨q, hq⟩ := List.getElem?_of_mem hk
      rw [HX.out.2 q k (by rw [hn.out]; exact (List.getElem?_eq_some_iff.1 hq).1) hq]
      decide

set_option maxRecDepth 100000 in
set_option maxHeartbeats 3200000 in
theorem any43_55 {α : Type} (cl : α → List Value) (hlen : ∀ k, (cl k).length = 3) (ks : List α) (a : Option Addr) (c : Nat) (hl : ks.length ≤ 1048576) (hcap : ks.length ≤ c) (w : World) (A : α → Bool)
    (hrow : ∀ (i : Nat) (k : α) (u : World), ks[i]? = some k → Below w.heap.size w u → ∃ g o, a = some ⟨g, o, none⟩ ∧ u.rangeAt g (o + i * 3) (cl k))
    (hask : ∀ (i : Nat) (k : α) (u : World), ks[i]? = some k → Below w.heap.size w u → Calls Try.prog 55 #[.agg (cl k).toArray] u fun e u' => e = .returned (.bool (A k)) ∧ Below u.heap.size u u') :
    Calls Try.prog 43 #[.slice a ks.length c, .func (.func 55) #[] #[]] w fun e w' => e = .returned (.bool (ks.any A)) ∧ Below w.heap.size w w' := by
  have hC := index66_55 cl hlen ks a c hl hcap w A hrow hask
  generalize ks.any A = B at *
  clear hrow hask
  go_enter Try.func43, Try.ntmps43
  go_wp2_with fail
  refine hC.mono ?_
  rintro r w1 ⟨z, rfl, hz, hb⟩
  go_wp2
  go_ret
  exact ⟨by rw [← hz]; rfl, hb⟩

set_option maxRecDepth 100000 in
set_option maxHeartbeats 3200000 in
theorem index74_67 {α : Type} (cl : α → List Value) (hlen : ∀ k, (cl k).length = 5) (ks : List α) (a : Option Addr) (c : Nat) (hl : ks.length ≤ 1048576) (hcap : ks.length ≤ c) (w : World) (A : α → Bool)
    (hrow : ∀ (i : Nat) (k : α) (u : World), ks[i]? = some k → Below w.heap.size w u → ∃ g o, a = some ⟨g, o, none⟩ ∧ u.rangeAt g (o + i * 5) (cl k))
    (hask : ∀ (i : Nat) (k : α) (u : World), ks[i]? = some k → Below w.heap.size w u → Calls Try.prog 67 #[.agg (cl k).toArray] u fun e u' => e = .returned (.bool (A k)) ∧ Below u.heap.size u u') :
    Calls Try.prog 74 #[.slice a ks.length c, .func (.func 67) #[] #[]] w fun e w' => ∃ z : Int, e = .returned (.int .i64 z) ∧ decide (0 ≤ z) = ks.any A ∧ Below w.heap.size w w' := by
  obtain ⟨n, hn⟩ : ∃ n, Hid (n = ks.length) := ⟨_, (rfl : ks.length = _)⟩
  rw [← hn.out] at hl hcap ⊢
  have HR : Hid (∀ (i : Nat) (k : α) (u : World), ks[i]? = some k → Below w.heap.size w u → ∃ g o, a = some ⟨g, o, none⟩ ∧ u.rangeAt g (o + i * 5) (cl k)) := hrow
  have HA : Hid (∀ (i : Nat) (k : α) (u : World), ks[i]? = some k → Below w.heap.size w u → Calls Try.prog 67 #[.agg (cl k).toArray] u fun e u' => e = .returned (.bool (A k)) ∧ Below u.heap.size u u') := hask
  clear hrow hask
  go_enter Try.func74, Try.ntmps74
  go_wp2_with fail
  go_loopw [5, 8] (fun _ j wr => ∃ i : Nat, j = .int .i64 (i : Int) ∧ i ≤ n ∧ Hid (Below w.heap.size w wr ∧ ∀ (q : Nat) (k : α), q < i → ks[q]? = some k → A k = false)) (fun _ j _ => n - (intOf j).toNat)
  case atStart => exact ⟨0, rfl, by omega, Below.refl _ _, fun q k hq => by omega⟩
  case round =>
    obtain ⟨i, rfl, hi, hX⟩ := hrel
    by_cases hc : i < n
    · obtain ⟨s, hs⟩ : ∃ k, ks[i]? = some k := ⟨ks[i]'(by rw [← hn.out]; exact hc), by rw [List.getElem?_eq_getElem]⟩
      obtain ⟨hI, hall⟩ := hX.out
      obtain ⟨g1, o1, rfl, hr1⟩ := HR.out i s wr hs hI
      have hls := hlen s
      have HI : Hid (Below w.heap.size w wr) := hI
      have HL : Hid (∀ (q : Nat) (k : α), q < i → ks[q]? = some k → A k = false) := hall
      have hC := HA.out i s wr hs hI
      obtain ⟨b, hb⟩ : ∃ b, Hid (b = A s) := ⟨_, (rfl : A s = _)⟩
      rw [← hb.out] at hC
      clear hI hall hX HR HA
      go_wp2_with (first
        | ((with_reducible show wpList _ _ _ _ _ _); refine wpList_load_mid (P := Try.prog) rfl 49 (.tmp 14) rfl g1 (o1 + i * 5) (by first | rfl | (simp; done)) (cl s) _ hr1 Try.underlying49 rfl (by rw [hls]; exact i49) ?_))
      refine hC.mono ?_
      rintro r w6 ⟨rfl, hb6⟩
      have HY : Hid (Below w.heap.size w w6) := HI.out.trans (hb6.mono HI.out.size)
      clear hC hls hb6 HI hr1
      cases b with
      | true =>
        have HB : Hid (A s = true) := hb.out.symm
        clear hb
        go_wp2
        go_ret
        exact ⟨i, rfl, by rw [decide_eq_true (by omega), Eq.comm, List.any_eq_true]; exact ⟨s, List.mem_of_getElem? hs, HB.out⟩, HY.out⟩
      | false =>
        have HB : Hid (A s = false) := hb.out.symm
        clear hb
        go_wp2
        go_roundw
        case rel =>
          refine ⟨i + 1, by go_num, by omega, HY.out, fun q k hq hk => ?_⟩
          by_cases hqi : q = i
          · subst hqi
            rw [hs] at hk
            cases hk
            exact HB.out
          · exact HL.out q k (by omega) hk
        case measure => simp [intOf]; omega
    · have hin : i = n := by omega
      subst hin
      have HX := hX
      clear hX HR HA
      go_wp2
      go_ret
      refine ⟨-1, rfl, ?_, HX.out.1⟩
      rw [decide_eq_false (by omega), Eq.comm, List.any_eq_false]
      intro k hk
      obtain ⟨q, hq⟩ := List.getElem?_of_mem hk
      rw [HX.out.2 q k (by rw [hn.out]; exact (List.getElem?_eq_some_iff.1 hq).1) hq]
      decide

set_option maxRecDepth 100000 in
set_option maxHeartbeats 3200000 in
theorem any56_67 {α : Type} (cl : α → List Value) (hlen : ∀ k, (cl k).length = 5) (ks : List α) (a : Option Addr) (c : Nat) (hl : ks.length ≤ 1048576) (hcap : ks.length ≤ c) (w : World) (A : α → Bool)
    (hrow : ∀ (i : Nat) (k : α) (u : World), ks[i]? = some k → Below w.heap.size w u → ∃ g o, a = some ⟨g, o, none⟩ ∧ u.rangeAt g (o + i * 5) (cl k))
    (hask : ∀ (i : Nat) (k : α) (u : World), ks[i]? = some k → Below w.heap.size w u → Calls Try.prog 67 #[.agg (cl k).toArray] u fun e u' => e = .returned (.bool (A k)) ∧ Below u.heap.size u u') :
    Calls Try.prog 56 #[.slice a ks.length c, .func (.func 67) #[] #[]] w fun e w' => e = .returned (.bool (ks.any A)) ∧ Below w.heap.size w w' := by
  have hC := index74_67 cl hlen ks a c hl hcap w A hrow hask
  generalize ks.any A = B at *
  clear hrow hask
  go_enter Try.func56, Try.ntmps56
  go_wp2_with fail
  refine hC.mono ?_
  rintro r w1 ⟨z, rfl, hz, hb⟩
  go_wp2
  go_ret
  exact ⟨by rw [← hz]; rfl, hb⟩

set_option maxRecDepth 100000 in
set_option maxHeartbeats 3200000 in
theorem index74_57 {α : Type} (cl : α → List Value) (hlen : ∀ k, (cl k).length = 5) (ks : List α) (a : Option Addr) (c : Nat) (hl : ks.length ≤ 1048576) (hcap : ks.length ≤ c) (w : World) (A : α → Bool)
    (hrow : ∀ (i : Nat) (k : α) (u : World), ks[i]? = some k → Below w.heap.size w u → ∃ g o, a = some ⟨g, o, none⟩ ∧ u.rangeAt g (o + i * 5) (cl k))
    (hask : ∀ (i : Nat) (k : α) (u : World), ks[i]? = some k → Below w.heap.size w u → Calls Try.prog 57 #[.agg (cl k).toArray] u fun e u' => e = .returned (.bool (A k)) ∧ Below u.heap.size u u') :
    Calls Try.prog 74 #[.slice a ks.length c, .func (.func 57) #[] #[]] w fun e w' => ∃ z : Int, e = .returned (.int .i64 z) ∧ decide (0 ≤ z) = ks.any A ∧ Below w.heap.size w w' := by
  obtain ⟨n, hn⟩ : ∃ n, Hid (n = ks.length) := ⟨_, (rfl : ks.length = _)⟩
  rw [← hn.out] at hl hcap ⊢
  have HR : Hid (∀ (i : Nat) (k : α) (u : World), ks[i]? = some k → Below w.heap.size w u → ∃ g o, a = some ⟨g, o, none⟩ ∧ u.rangeAt g (o + i * 5) (cl k)) := hrow
  have HA : Hid (∀ (i : Nat) (k : α) (u : World), ks[i]? = some k → Below w.heap.size w u → Calls Try.prog 57 #[.agg (cl k).toArray] u fun e u' => e = .returned (.bool (A k)) ∧ Below u.heap.size u u') := hask
  clear hrow hask
  go_enter Try.func74, Try.ntmps74
  go_wp2_with fail
  go_loopw [5, 8] (fun _ j wr => ∃ i : Nat, j = .int .i64 (i : Int) ∧ i ≤ n ∧ Hid (Below w.heap.size w wr ∧ ∀ (q : Nat) (k : α), q < i → ks[q]? = some k → A k = false)) (fun _ j _ => n - (intOf j).toNat)
  case atStart => exact ⟨0, rfl, by omega, Below.refl _ _, fun q k hq => by omega⟩
  case round =>
    obtain ⟨i, rfl, hi, hX⟩ := hrel
    by_cases hc : i < n
    · obtain ⟨s, hs⟩ : ∃ k, ks[i]? = some k := ⟨ks[i]'(by rw [← hn.out]; exact hc), by rw [List.getElem?_eq_getElem]⟩
      obtain ⟨hI, hall⟩ := hX.out
      obtain ⟨g1, o1, rfl, hr1⟩ := HR.out i s wr hs hI
      have hls := hlen s
      have HI : Hid (Below w.heap.size w wr) := hI
      have HL : Hid (∀ (q : Nat) (k : α), q < i → ks[q]? = some k → A k = false) := hall
      have hC := HA.out i s wr hs hI
      obtain ⟨b, hb⟩ : ∃ b, Hid (b = A s) := ⟨_, (rfl : A s = _)⟩
      rw [← hb.out] at hC
      clear hI hall hX HR HA
      go_wp2_with (first
        | ((with_reducible show wpList _ _ _ _ _ _); refine wpList_load_mid (P := Try.prog) rfl 49 (.tmp 14) rfl g1 (o1 + i * 5) (by first | rfl | (simp; done)) (cl s) _ hr1 Try.underlying49 rfl (by rw [hls]; exact i49) ?_))
      refine hC.mono ?_
      rintro r w6 ⟨rfl, hb6⟩
      have HY : Hid (Below w.heap.size w w6) := HI.out.trans (hb6.mono HI.out.size)
      clear hC hls hb6 HI hr1
      cases b with
      | true =>
        have HB : Hid (A s = true) := hb.out.symm
        clear hb
        go_wp2
        go_ret
        exact ⟨i, rfl, by rw [decide_eq_true (by omega), Eq.comm, List.any_eq_true]; exact ⟨s, List.mem_of_getElem? hs, HB.out⟩, HY.out⟩
      | false =>
        have HB : Hid (A s = false) := hb.out.symm
        clear hb
        go_wp2
        go_roundw
        case rel =>
          refine ⟨i + 1, by go_num, by omega, HY.out, fun q k hq hk => ?_⟩
          by_cases hqi : q = i
          · subst hqi
            rw [hs] at hk
            cases hk
            exact HB.out
          · exact HL.out q k (by omega) hk
        case measure => simp [intOf]; omega
    · have hin : i = n := by omega
      subst hin
      have HX := hX
      clear hX HR HA
      go_wp2
      go_ret
      refine ⟨-1, rfl, ?_, HX.out.1⟩
      rw [decide_eq_false (by omega), Eq.comm, List.any_eq_false]
      intro k hk
      obtain ⟨q, hq⟩ := List.getElem?_of_mem hk
      rw [HX.out.2 q k (by rw [hn.out]; exact (List.getElem?_eq_some_iff.1 hq).1) hq]
      decide

set_option maxRecDepth 100000 in
set_option maxHeartbeats 3200000 in
theorem any56_57 {α : Type} (cl : α → List Value) (hlen : ∀ k, (cl k).length = 5) (ks : List α) (a : Option Addr) (c : Nat) (hl : ks.length ≤ 1048576) (hcap : ks.length ≤ c) (w : World) (A : α → Bool)
    (hrow : ∀ (i : Nat) (k : α) (u : World), ks[i]? = some k → Below w.heap.size w u → ∃ g o, a = some ⟨g, o, none⟩ ∧ u.rangeAt g (o + i * 5) (cl k))
    (hask : ∀ (i : Nat) (k : α) (u : World), ks[i]? = some k → Below w.heap.size w u → Calls Try.prog 57 #[.agg (cl k).toArray] u fun e u' => e = .returned (.bool (A k)) ∧ Below u.heap.size u u') :
    Calls Try.prog 56 #[.slice a ks.length c, .func (.func 57) #[] #[]] w fun e w' => e = .returned (.bool (ks.any A)) ∧ Below w.heap.size w w' := by
  have hC := index74_57 cl hlen ks a c hl hcap w A hrow hask
  generalize ks.any A = B at *
  clear hrow hask
  go_enter Try.func56, Try.ntmps56
  go_wp2_with fail
  refine hC.mono ?_
  rintro r w1 ⟨z, rfl, hz, hb⟩
  go_wp2
  go_ret
  exact ⟨by rw [← hz]; rfl, hb⟩

end Go.Proofs.Ytefklmckkigllaa
