/- Lists of values, nodes and codes written. -/
import Derived.Test.YtefklmckkigllaaWrB
namespace Go.Proofs.Ytefklmckkigllaa
open Go.RowKit
set_option linter.unusedVariables false

/-- How many values, and these. -/
def encVs (l : List Vl) : List UInt8 := ub l.length :: l.flatMap encV
theorem encV_len (v : Vl) : (encV v).length = 9 := by simp [encV, bytesOf_length]
theorem flat_len {α : Type} (f : α → List UInt8) (k : Nat) : ∀ l : List α, (∀ x ∈ l, (f x).length ≤ k) → (l.flatMap f).length ≤ l.length * k
  | [], _ => by simp
  | x :: r, h => by
    have h1 := flat_len f k r fun y hy => h y (List.mem_cons_of_mem _ hy)
    have h2 := h x List.mem_cons_self
    rw [List.flatMap_cons, List.length_append, List.length_cons, Nat.add_mul]
    omega
theorem encVs_len (l : List Vl) : (encVs l).length ≤ 1 + l.length * 9 := by
  have := flat_len encV 9 l fun x _ => by rw [encV_len]; exact Nat.le_refl _
  unfold encVs
  rw [List.length_cons]
  omega
theorem flat_take {α : Type} (f : α → List UInt8) (l : List α) (i : Nat) (x : α) (h : l[i]? = some x) : (l.take (i + 1)).flatMap f = (l.take i).flatMap f ++ f x := by
  rw [List.take_add_one, h, List.flatMap_append]
  simp
theorem flat_take_le {α : Type} (f : α → List UInt8) (l : List α) (i : Nat) : ((l.take i).flatMap f).length ≤ (l.flatMap f).length := by
  have e : l.flatMap f = (l.take i).flatMap f ++ (l.drop i).flatMap f := by rw [← List.flatMap_append, List.take_append_drop]
  rw [e, List.length_append]
  omega
theorem flat_step_le {α : Type} (f : α → List UInt8) (l : List α) (i : Nat) (x : α) (h : l[i]? = some x) : ((l.take i).flatMap f).length + (f x).length ≤ (l.flatMap f).length := by
  have := flat_take_le f l (i + 1)
  rwa [flat_take f l i x h, List.length_append] at this

set_option maxRecDepth 100000 in
set_option maxHeartbeats 3200000 in
theorem valsW_any (B A g : Nat) (v : Value) (out : List UInt8) (ks : List Vl) (hk : ks.length < 256) (a : Option Addr) (c : Nat) (w : World) (h : Wt A w g v out) (hr : RowVl B w a c ks) (hBA : B ≤ A) (hlen : out.length + (encVs ks).length ≤ 1099511627776) (hAw : A ≤ w.heap.size) :
    Calls Try.prog 58 #[.pointer (some ⟨g, 0, none⟩), .slice a ks.length c] w fun e w' => e = .returned (.tuple #[]) ∧ (∃ v', Wt A w' g v' (out ++ encVs ks)) ∧ Fb A g w w' := by
  have hlow := h.low
  have hcap := hr.2.1
  obtain ⟨n, hn⟩ : ∃ n, Hid (n = ks.length) := ⟨_, (rfl : ks.length = _)⟩
  have hE : (encVs ks).length = 1 + (ks.flatMap encV).length := by unfold encVs; rw [List.length_cons]; omega
  have HE : Hid (out.length + 1 + (ks.flatMap encV).length ≤ 1099511627776) := by show _ ≤ _; omega
  have HO : Hid (encVs ks = ub n :: ks.flatMap encV) := by show _ = _; rw [hn.out]; rfl
  rw [HO.out]
  rw [← hn.out] at hk hcap ⊢
  have HR : Hid (RowVl B w a c ks) := hr
  have HW : Hid (Wt A w g v out) := h
  have hl1 : out.length + 1 ≤ 1099511627776 := by have := HE.out; omega
  clear h hr hE hlen
  go_enter Try.func58, Try.ntmps58
  go_wp2_with (first
    | (go_at_call 59; refine (small_any A g v out n hk _ HW.out hl1 hAw).mono ?_; rintro _ w1 ⟨rfl, ⟨v1, hW1⟩, hF1⟩; refine Hid.out ?_))
  refine hidU ?_
  have HW1 : Hid (Wt A w1 g v1 (out ++ [ub n]) ∧ Fb A g w w1) := ⟨hW1, hF1⟩
  clear hW1 hF1 HW
  go_wp2_with fail
  go_loopw [12] (fun j wr => ∃ i : Nat, j = .int .i64 (i : Int) ∧ i ≤ n ∧ Hid ((∃ v', Wt A wr g v' (out ++ [ub n] ++ (ks.take i).flatMap encV)) ∧ Fb A g w wr)) (fun j _ => n - (intOf j).toNat)
  case atStart => exact ⟨0, rfl, by omega, ⟨v1, by simpa using HW1.out.1⟩, HW1.out.2⟩
  case round =>
    obtain ⟨i, rfl, hi, hX⟩ := hrel
    by_cases hc : i < n
    · obtain ⟨s, hs⟩ : ∃ k, ks[i]? = some k := ⟨ks[i]'(by rw [← hn.out]; exact hc), by rw [List.getElem?_eq_getElem]⟩
      obtain ⟨⟨v2, hWr⟩, hFr⟩ := hX.out
      obtain ⟨g1, o1, rfl, hlt, hr1, hok⟩ := (RowVl.old HR.out (hFr.old hlow hAw hBA)).at i s hs
      have hst := flat_step_le encV ks i s hs
      rw [encV_len] at hst
      have htk := flat_take encV ks i s hs
      have HWr : Hid (Wt A wr g v2 (out ++ [ub n] ++ (ks.take i).flatMap encV) ∧ Fb A g w wr) := ⟨hWr, hFr⟩
      have hgr : wr.heap.size ≠ g := by have := hWr.lt; omega
      have hAr : A ≤ wr.heap.size := Nat.le_trans hAw hFr.size
      have hl2 : (out ++ [ub n] ++ (ks.take i).flatMap encV).length + 9 ≤ 1099511627776 := by have := HE.out; rw [List.length_append, List.length_append]; simp only [List.length_singleton]; omega
      have HTk : Hid ((ks.take (i + 1)).flatMap encV = (ks.take i).flatMap encV ++ encV s) := htk
      have HS : Hid (∀ u v', Wt A u g v' (out ++ [ub n] ++ (ks.take i).flatMap encV) → A ≤ u.heap.size → Calls Try.prog 76 #[.pointer (some ⟨g, 0, none⟩), .agg s.cells.toArray] u fun e w' => e = .returned (.tuple #[]) ∧ (∃ v', Wt A w' g v' (out ++ [ub n] ++ (ks.take i).flatMap encV ++ encV s)) ∧ Fb A g u w') := fun u v' hu hA => valW_any A g v' _ s hok u hu hl2 hA
      have hone := s.one
      clear hX hWr hFr htk hst hok HR HE
      have hls : s.cells.length = 2 := rfl
      generalize s.cells = scs at *
      go_wp2_with (first
        | ((with_reducible show wpList _ _ _ _ _ _); refine wpList_load_mid (P := Try.prog) rfl 35 (.tmp 14) rfl g1 (o1 + i * 2) (by first | rfl | (simp; done)) scs _ hr1 Try.underlying35 rfl (by rw [hls]; exact i35) ?_)
        | ((with_reducible show wpList _ _ _ _ _ _); refine wpList_alloc_at rfl 35 rfl _ 2 z35 ?_; intro w2 hA2 hb2 hs2)
        | ((with_reducible show wpList _ _ _ _ _ _); refine wpList_store_at (P := Try.prog) rfl 35 (.tmp 5) (.tmp 15) rfl wr.heap.size scs rfl rfl 35 _ hA2 (by rw [hls]; exact i35) (by rw [hls]; rfl) hone ?_; intro w3 hA3 hb3 hs3; refine Hid.out ?_))
      refine hidU ?_
      have hB3 : Below wr.heap.size wr w3 := hb3.below hb2 (Nat.le_refl _) (by omega)
      have hW3 := HWr.out.1.below hB3
      have hF3 : Fb A g w w3 := HWr.out.2.trans (Fb.of_below hB3)
      have hs3' := hB3.size
      clear hb3 hb2 hA2 hr1 hs2 hs3 hB3 HWr hone
      go_wp2_with (first
        | ((with_reducible show wpList _ _ _ _ _ _); refine wpList_load_at (P := Try.prog) rfl 35 (.tmp 5) rfl wr.heap.size rfl 35 scs hA3 _ Try.underlying35 rfl (by rw [hls]; exact i35) ?_)
        | (go_at_call 76; refine (HS.out _ _ hW3 (by omega)).mono ?_; rintro _ w4 ⟨rfl, ⟨v4, hW4⟩, hF4⟩; refine Hid.out ?_))
      refine hidU ?_
      have HW4 : Hid (Wt A w4 g v4 (out ++ [ub n] ++ (ks.take i).flatMap encV ++ encV s) ∧ Fb A g w w4) := ⟨hW4, hF3.trans hF4⟩
      clear hW4 hF4 hF3 hW3 hA3 HS
      go_wp2
      go_roundw
      case rel => exact ⟨i + 1, by go_num, by omega, ⟨v4, by rw [HTk.out, ← List.append_assoc]; exact HW4.out.1⟩, HW4.out.2⟩
      case measure => simp [intOf]; omega
    · have hin : i = n := by omega
      have HX : Hid ((∃ v', Wt A wr g v' (out ++ ub n :: ks.flatMap encV)) ∧ Fb A g w wr) := by
        have := hX.out
        rw [hin, hn.out, List.take_length, ← hn.out] at this
        obtain ⟨⟨v', h1⟩, h2⟩ := this
        exact ⟨⟨v', by rw [List.append_assoc] at h1; exact h1⟩, h2⟩
      clear hX HR HE
      go_wp2
      go_end0
      exact ⟨rfl, HX.out⟩

end Go.Proofs.Ytefklmckkigllaa
