/- Whether a node touches two shared variables. -/
import Derived.Test.YtefklmckkigllaaCkF
namespace Go.Proofs.Ytefklmckkigllaa
open Go.RowKit
set_option linter.unusedVariables false

/-- How often a node touches a shared variable. -/
def cntF (x : Nd) : Nat := (if x.kind = 2 then 1 else 0) + (x.code.filter isF).length
/-- More than once. -/
def tang (x : Nd) : Bool := decide (1 < cntF x)

theorem filter_take_succ (ks : List Ir) (i : Nat) (s : Ir) (hs : ks[i]? = some s) : ((ks.take (i + 1)).filter isF).length = ((ks.take i).filter isF).length + (if isF s then 1 else 0) := by
  rw [List.take_add_one, hs, List.filter_append, List.length_append]
  congr 1
  cases h : isF s <;> simp [h]
theorem filter_le (ks : List Ir) (i : Nat) : ((ks.take i).filter isF).length ≤ i := by
  have h1 := List.length_filter_le isF (ks.take i)
  have h2 := List.length_take_le i ks
  omega

set_option maxRecDepth 100000 in
set_option maxHeartbeats 3200000 in
theorem tangled_any (B : Nat) (x : NT) (w : World) (hx : x.In B w) (hB : B ≤ w.heap.size) :
    Calls Try.prog 57 #[.agg x.cells.toArray] w fun e w' => e = .returned (.bool (tang x.nd)) ∧ Below w.heap.size w w' := by
  obtain ⟨a, c, ⟨ks, kind, arg, next, alt⟩⟩ := x
  have hr : RowIr B w a c ks := hx.1
  have hl : ks.length ≤ 1048576 := hr.1
  have hcap : ks.length ≤ c := hr.2.1
  obtain ⟨n, hn⟩ : ∃ n, Hid (n = ks.length) := ⟨_, (rfl : ks.length = _)⟩
  obtain ⟨R, hR⟩ : ∃ R, Hid (R = tang ⟨ks, kind, arg, next, alt⟩) := ⟨_, (rfl : _ = tang ⟨ks, kind, arg, next, alt⟩)⟩
  obtain ⟨k0, hk0⟩ : ∃ k0 : Nat, Hid (k0 = if kind = 2 then 1 else 0) := ⟨_, (rfl : _ = if kind = 2 then 1 else 0)⟩
  have hk1 : k0 ≤ 1 := by rw [hk0.out]; split <;> omega
  show Calls Try.prog 57 #[.agg (NT.cells ⟨a, c, ⟨ks, kind, arg, next, alt⟩⟩).toArray] w fun e w' => e = .returned (.bool (tang ⟨ks, kind, arg, next, alt⟩)) ∧ Below w.heap.size w w'
  rw [← hR.out]
  simp only [NT.cells]
  rw [← hn.out] at hl hcap ⊢
  have HR : Hid (RowIr B w a c ks) := hr
  clear hr hx
  have hkind : (kind == 2) = decide (kind = 2) := by rw [Bool.eq_iff_iff, beq_iff_eq, decide_eq_true_iff]
  have hend : ∀ i : Nat, ¬ i < n → i ≤ n → decide (((k0 + ((ks.take i).filter isF).length : Nat) : Int) > 1) = R := fun i h1 h2 => by
    rw [hR.out, tang, cntF, Bool.eq_iff_iff, decide_eq_true_iff, decide_eq_true_iff]
    have e : ks.take i = ks := List.take_of_length_le (by rw [← hn.out]; omega)
    rw [e, hk0.out]
    dsimp only
    omega
  have HE : Hid (∀ i : Nat, ¬ i < n → i ≤ n → decide (((k0 + ((ks.take i).filter isF).length : Nat) : Int) > 1) = R) := hend
  clear hend
  have hgo : ∀ (w1 : World), At 49 w1 w.heap.size [.slice a n c, .int .i64 kind, .int .i64 arg, .int .i64 next, .int .i64 alt] → w1.cell? ⟨w.heap.size, 0, none⟩ = some (.slice a n c) ∧ w1.cell? ⟨w.heap.size, 1, none⟩ = some (.int .i64 kind) := fun w1 h => by refine ⟨?_, ?_⟩ <;> (rw [h.cell]; rfl)
  by_cases hk : kind = 2
  · have hk2 : (kind == 2) = true := by rw [beq_iff_eq]; exact hk
    have h01 : k0 = 1 := by rw [hk0.out, if_pos hk]
    clear hk hkind hk0
    subst h01
    go_enter Try.func57, Try.ntmps57
    go_wp2_with (first
      | ((with_reducible show wpList _ _ _ _ _ _); refine wpList_box_at rfl 49 (.tmp 0) rfl [.slice a n c, .int .i64 kind, .int .i64 arg, .int .i64 next, .int .i64 alt] rfl ?_; intro w1 hA1 hb1 hs1; clear hs1; refine Hid.out ?_))
    refine hidU ?_
    obtain ⟨d0, d1⟩ := hgo w1 hA1
    clear hA1 hgo
    go_wp2_with fail
    go_loopw [3, 14] (fun u j wr => ∃ i : Nat, j = .int .i64 (i : Int) ∧ i ≤ n ∧ Hid (u = .int .i64 ((1 + ((ks.take i).filter isF).length : Nat) : Int) ∧ Below w.heap.size w wr)) (fun _ j _ => n - (intOf j).toNat)
    case atStart => exact ⟨0, rfl, by omega, by simp, hb1⟩
    case round =>
      obtain ⟨i, rfl, hi, hX⟩ := hrel
      obtain ⟨rfl, hbw⟩ := hX.out
      clear hX
      by_cases hc : i < n
      · obtain ⟨s, hs⟩ : ∃ k, ks[i]? = some k := ⟨ks[i]'(by rw [← hn.out]; exact hc), by rw [List.getElem?_eq_getElem]⟩
        obtain ⟨g1, o1, rfl, hr1⟩ := HR.out.see hB i s wr hs hbw
        have hF := fun u => isFetch_any s u
        have hT := filter_take_succ ks i s hs
        have hle := filter_le ks i
        generalize ((ks.take i).filter isF).length = m at *
        generalize hm2 : ((ks.take (i + 1)).filter isF).length = m2 at *
        have HM2 : Hid (((ks.take (i + 1)).filter isF).length = m2) := hm2
        clear hm2
        have hls : s.cells.length = 4 := rfl
        have hos := s.one
        have HBW : Hid (Below w.heap.size w wr) := hbw
        clear hbw d0 d1 hb1 hs HR
        generalize s.cells = scs at *
        go_wp2_with (first
          | ((with_reducible show wpList _ _ _ _ _ _); refine wpList_load_mid (P := Try.prog) rfl 37 (.tmp 16) rfl g1 (o1 + i * 4) (by first | rfl | (simp; done)) scs _ hr1 Try.underlying37 rfl (by rw [hls]; exact i37) ?_)
          | ((with_reducible show wpList _ _ _ _ _ _); refine wpList_alloc_at rfl 37 rfl _ 4 z37 ?_; intro w2 hA2 hb2 hs2)
          | ((with_reducible show wpList _ _ _ _ _ _); refine wpList_store_at (P := Try.prog) rfl 37 (.tmp 5) (.tmp 17) rfl wr.heap.size scs rfl rfl 37 _ hA2 (by rw [hls]; exact i37) (by rw [hls]; rfl) hos ?_; intro w3 hA3 hb3 hs3; refine Hid.out ?_))
        refine hidU ?_
        have hB3 : Below wr.heap.size wr w3 := hb3.below hb2 (Nat.le_refl _) (by omega)
        have hw3 : Below w.heap.size w w3 := HBW.out.trans (hB3.mono HBW.out.size)
        clear hb3 hb2 hA2 hr1 hs2 hs3 hB3 HBW hos
        cases hb : isF s with
        | true =>
          rw [hb] at hF
          rw [hb, if_pos rfl] at hT
          subst hT
          clear hb
          go_wp2_with (first
            | ((with_reducible show wpList _ _ _ _ _ _); refine wpList_load_at (P := Try.prog) rfl 37 (.tmp 5) rfl wr.heap.size rfl 37 scs hA3 _ Try.underlying37 rfl (by rw [hls]; exact i37) ?_)
            | (go_at_call 75; refine (hF _).mono ?_; rintro r w6 ⟨rfl, hb6⟩))
          have HW6 : Hid (Below w.heap.size w w6) := hw3.trans (hb6.mono hw3.size)
          go_roundw
          case rel => exact ⟨i + 1, by go_num, by omega, by rw [HM2.out]; go_num, HW6.out⟩
          case measure => simp [intOf]; omega
        | false =>
          rw [hb] at hF
          rw [hb, if_neg (by decide), Nat.add_zero] at hT
          subst hT
          clear hb
          go_wp2_with (first
            | ((with_reducible show wpList _ _ _ _ _ _); refine wpList_load_at (P := Try.prog) rfl 37 (.tmp 5) rfl wr.heap.size rfl 37 scs hA3 _ Try.underlying37 rfl (by rw [hls]; exact i37) ?_)
            | (go_at_call 75; refine (hF _).mono ?_; rintro r w6 ⟨rfl, hb6⟩))
          have HW6 : Hid (Below w.heap.size w w6) := hw3.trans (hb6.mono hw3.size)
          go_roundw
          case rel => exact ⟨i + 1, by go_num, by omega, by rw [HM2.out]; go_num, HW6.out⟩
          case measure => simp [intOf]; omega
      · have hE := HE.out i hc hi
        have HBW : Hid (Below w.heap.size w wr) := hbw
        generalize ((ks.take i).filter isF).length = m at *
        clear HR HE hbw
        go_wp2
        go_ret
        exact ⟨by rw [← hE]; rfl, HBW.out⟩
  · have hk2 : (kind == 2) = false := by rw [beq_eq_false_iff_ne]; exact hk
    have h01 : k0 = 0 := by rw [hk0.out, if_neg hk]
    clear hk hkind hk0
    subst h01
    go_enter Try.func57, Try.ntmps57
    go_wp2_with (first
      | ((with_reducible show wpList _ _ _ _ _ _); refine wpList_box_at rfl 49 (.tmp 0) rfl [.slice a n c, .int .i64 kind, .int .i64 arg, .int .i64 next, .int .i64 alt] rfl ?_; intro w1 hA1 hb1 hs1; clear hs1; refine Hid.out ?_))
    refine hidU ?_
    obtain ⟨d0, d1⟩ := hgo w1 hA1
    clear hA1 hgo
    go_wp2_with fail
    go_loopw [3, 14] (fun u j wr => ∃ i : Nat, j = .int .i64 (i : Int) ∧ i ≤ n ∧ Hid (u = .int .i64 ((0 + ((ks.take i).filter isF).length : Nat) : Int) ∧ Below w.heap.size w wr)) (fun _ j _ => n - (intOf j).toNat)
    case atStart => exact ⟨0, rfl, by omega, by simp, hb1⟩
    case round =>
      obtain ⟨i, rfl, hi, hX⟩ := hrel
      obtain ⟨rfl, hbw⟩ := hX.out
      clear hX
      by_cases hc : i < n
      · obtain ⟨s, hs⟩ : ∃ k, ks[i]? = some k := ⟨ks[i]'(by rw [← hn.out]; exact hc), by rw [List.getElem?_eq_getElem]⟩
        obtain ⟨g1, o1, rfl, hr1⟩ := HR.out.see hB i s wr hs hbw
        have hF := fun u => isFetch_any s u
        have hT := filter_take_succ ks i s hs
        have hle := filter_le ks i
        generalize ((ks.take i).filter isF).length = m at *
        generalize hm2 : ((ks.take (i + 1)).filter isF).length = m2 at *
        have HM2 : Hid (((ks.take (i + 1)).filter isF).length = m2) := hm2
        clear hm2
        have hls : s.cells.length = 4 := rfl
        have hos := s.one
        have HBW : Hid (Below w.heap.size w wr) := hbw
        clear hbw d0 d1 hb1 hs HR
        generalize s.cells = scs at *
        go_wp2_with (first
          | ((with_reducible show wpList _ _ _ _ _ _); refine wpList_load_mid (P := Try.prog) rfl 37 (.tmp 16) rfl g1 (o1 + i * 4) (by first | rfl | (simp; done)) scs _ hr1 Try.underlying37 rfl (by rw [hls]; exact i37) ?_)
          | ((with_reducible show wpList _ _ _ _ _ _); refine wpList_alloc_at rfl 37 rfl _ 4 z37 ?_; intro w2 hA2 hb2 hs2)
          | ((with_reducible show wpList _ _ _ _ _ _); refine wpList_store_at (P := Try.prog) rfl 37 (.tmp 5) (.tmp 17) rfl wr.heap.size scs rfl rfl 37 _ hA2 (by rw [hls]; exact i37) (by rw [hls]; rfl) hos ?_; intro w3 hA3 hb3 hs3; refine Hid.out ?_))
        refine hidU ?_
        have hB3 : Below wr.heap.size wr w3 := hb3.below hb2 (Nat.le_refl _) (by omega)
        have hw3 : Below w.heap.size w w3 := HBW.out.trans (hB3.mono HBW.out.size)
        clear hb3 hb2 hA2 hr1 hs2 hs3 hB3 HBW hos
        cases hb : isF s with
        | true =>
          rw [hb] at hF
          rw [hb, if_pos rfl] at hT
          subst hT
          clear hb
          go_wp2_with (first
            | ((with_reducible show wpList _ _ _ _ _ _); refine wpList_load_at (P := Try.prog) rfl 37 (.tmp 5) rfl wr.heap.size rfl 37 scs hA3 _ Try.underlying37 rfl (by rw [hls]; exact i37) ?_)
            | (go_at_call 75; refine (hF _).mono ?_; rintro r w6 ⟨rfl, hb6⟩))
          have HW6 : Hid (Below w.heap.size w w6) := hw3.trans (hb6.mono hw3.size)
          go_roundw
          case rel => exact ⟨i + 1, by go_num, by omega, by rw [HM2.out]; go_num, HW6.out⟩
          case measure => simp [intOf]; omega
        | false =>
          rw [hb] at hF
          rw [hb, if_neg (by decide), Nat.add_zero] at hT
          subst hT
          clear hb
          go_wp2_with (first
            | ((with_reducible show wpList _ _ _ _ _ _); refine wpList_load_at (P := Try.prog) rfl 37 (.tmp 5) rfl wr.heap.size rfl 37 scs hA3 _ Try.underlying37 rfl (by rw [hls]; exact i37) ?_)
            | (go_at_call 75; refine (hF _).mono ?_; rintro r w6 ⟨rfl, hb6⟩))
          have HW6 : Hid (Below w.heap.size w w6) := hw3.trans (hb6.mono hw3.size)
          go_roundw
          case rel => exact ⟨i + 1, by go_num, by omega, by rw [HM2.out]; go_num, HW6.out⟩
          case measure => simp [intOf]; omega
      · have hE := HE.out i hc hi
        have HBW : Hid (Below w.heap.size w wr) := hbw
        generalize ((ks.take i).filter isF).length = m at *
        clear HR HE hbw
        go_wp2
        go_ret
        exact ⟨by rw [← hE, Nat.zero_add]; rfl, HBW.out⟩

theorem touchBody_any (B : Nat) (y : BT) (w : World) (hy : y.In B w) (hB : B ≤ w.heap.size) :
    Calls Try.prog 55 #[.agg y.cells.toArray] w fun e w' => e = .returned (.bool (y.bd.nodes.any tang)) ∧ Below w.heap.size w w' := by
  obtain ⟨a1, c1, locals, stack, a2, c2, nodes⟩ := y
  have HA : Hid (∀ u, Below w.heap.size w u → Calls Try.prog 56 #[.slice a2 nodes.length c2, .func (.func 57) #[] #[]] u fun e w' => e = .returned (.bool (nodes.any fun y => tang y.nd)) ∧ Below u.heap.size u w') := fun u hu => by
    have hr : RowNT B u a2 c2 nodes := RowNT.old hy.2.2 (Old.of_below hu hB)
    have hBu : B ≤ u.heap.size := by have := hu.size; omega
    exact any56_57 NT.cells NT.len5 nodes a2 c2 hr.1 hr.2.1 u (fun y => tang y.nd) (hr.see hBu) (fun i k v hk hv => tangled_any B k v (NT.In.old (hr.all k (List.mem_of_getElem? hk)) (Old.of_below hv hBu)) (by have := hv.size; omega))
  have e : (BT.bd ⟨a1, c1, locals, stack, a2, c2, nodes⟩).nodes.any tang = nodes.any fun y => tang y.nd := by
    unfold BT.bd; simp only [List.any_map]; rfl
  rw [e]
  clear e hy
  simp only [BT.cells]
  generalize (nodes.any fun y => tang y.nd) = A at *
  generalize locals.length = n1 at *
  generalize nodes.length = n2 at *
  go_enter Try.func55, Try.ntmps55
  go_wp2_with (first
    | ((with_reducible show wpList _ _ _ _ _ _); refine wpList_box_at rfl 45 (.tmp 0) rfl [.slice a1 n1 c1, .int .i64 stack, .slice a2 n2 c2] rfl ?_; intro w1 hA1 hb1 hs1; clear hs1; refine Hid.out ?_))
  refine hidU ?_
  have c2' : w1.cell? ⟨w.heap.size, 2, none⟩ = some (.slice a2 n2 c2) := by rw [hA1.cell]; rfl
  clear hA1
  go_wp2_with (first
    | (go_at_call 56; refine (HA.out _ hb1).mono ?_; rintro r w2 ⟨rfl, hb2⟩))
  go_ret
  exact ⟨rfl, hb1.trans (hb2.mono hb1.size)⟩

/-- Whether a node of a code touches two. -/
def touchC (c : Cd) : Bool := c.bodies.any fun b => b.nodes.any tang

theorem touchesTwo_any (B : Nat) (x : CT) (w : World) (hx : x.In B w) (hB : B ≤ w.heap.size) :
    Calls Try.prog 34 #[.agg x.cells.toArray] w fun e w' => e = .returned (.bool (touchC x.cd)) ∧ Below w.heap.size w w' := by
  obtain ⟨a1, c1, shared, mu, a2, c2, bodies⟩ := x
  have HA : Hid (∀ u, Below w.heap.size w u → Calls Try.prog 43 #[.slice a2 bodies.length c2, .func (.func 55) #[] #[]] u fun e w' => e = .returned (.bool (bodies.any fun y => y.bd.nodes.any tang)) ∧ Below u.heap.size u w') := fun u hu => by
    have hr : RowBT B u a2 c2 bodies := RowBT.old hx.2.2 (Old.of_below hu hB)
    have hBu : B ≤ u.heap.size := by have := hu.size; omega
    exact any43_55 BT.cells BT.len3 bodies a2 c2 hr.1 hr.2.1 u (fun y => y.bd.nodes.any tang) (hr.see hBu) (fun i k v hk hv => touchBody_any B k v (BT.In.old (hr.all k (List.mem_of_getElem? hk)) (Old.of_below hv hBu)) (by have := hv.size; omega))
  have e : touchC (CT.cd ⟨a1, c1, shared, mu, a2, c2, bodies⟩) = bodies.any fun y => y.bd.nodes.any tang := by
    unfold touchC CT.cd; simp only [List.any_map]; rfl
  rw [e]
  clear e hx
  simp only [CT.cells]
  generalize (bodies.any fun y => y.bd.nodes.any tang) = A at *
  generalize shared.length = n1 at *
  generalize bodies.length = n2 at *
  go_enter Try.func34, Try.ntmps34
  go_wp2_with (first
    | ((with_reducible show wpList _ _ _ _ _ _); refine wpList_box_at rfl 25 (.tmp 0) rfl [.slice a1 n1 c1, .int .i64 mu, .slice a2 n2 c2] rfl ?_; intro w1 hA1 hb1 hs1; clear hs1; refine Hid.out ?_))
  refine hidU ?_
  have c2' : w1.cell? ⟨w.heap.size, 2, none⟩ = some (.slice a2 n2 c2) := by rw [hA1.cell]; rfl
  clear hA1
  go_wp2_with (first
    | (go_at_call 43; refine (HA.out _ hb1).mono ?_; rintro r w2 ⟨rfl, hb2⟩))
  go_ret
  exact ⟨rfl, hb1.trans (hb2.mono hb1.size)⟩
end Go.Proofs.Ytefklmckkigllaa
