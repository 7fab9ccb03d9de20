/- Bytes: a code that may be has room in its bytes. -/
import Derived.Test.YtefklmckkigllaaWrE
namespace Go.Proofs.Ytefklmckkigllaa
open Go.RowKit
set_option linter.unusedVariables false

theorem isP_iff {z m : Int} : isP z m = true ↔ 0 ≤ z ∧ z < m := by unfold isP; rw [Bool.and_eq_true, decide_eq_true_iff, decide_eq_true_iff]
theorem mayI_arg {nl ns : Nat} {x : Ir} (h : mayI nl ns x = true) (h1 : nl ≤ 256) (h2 : ns ≤ 256) : 0 ≤ x.arg ∧ x.arg < 256 := by
  unfold mayI at h
  split at h
  · rw [Bool.and_eq_true, decide_eq_true_iff] at h; omega
  · split at h
    · rw [Bool.and_eq_true, isP_iff] at h; omega
    · split at h
      · rw [Bool.and_eq_true, isP_iff] at h; omega
      · rw [Bool.and_eq_true, Bool.and_eq_true, Bool.and_eq_true, decide_eq_true_iff, decide_eq_true_iff, decide_eq_true_iff] at h; omega
theorem mayA_arg {nl ns : Nat} {mu : Int} {x : Nd} (h : mayA nl ns mu x = true) (h1 : nl ≤ 256) (h2 : ns ≤ 256) (h3 : mu ≤ 256) : (0 ≤ x.arg ∧ x.arg < 256) ∧ (0 ≤ x.kind ∧ x.kind < 256) := by
  unfold mayA at h
  split at h
  · rw [isP_iff] at h; omega
  · split at h
    · rw [isP_iff] at h; omega
    · split at h
      · rw [isP_iff] at h; omega
      · split at h
        · rw [decide_eq_true_iff] at h; omega
        · cases h
theorem mayL_alt {nn : Nat} {x : Nd} (h : mayL nn x = true) (h1 : nn < 65535) : 0 ≤ x.alt ∧ x.alt < 65536 := by
  unfold mayL at h
  rw [Bool.or_eq_true, Bool.and_eq_true, decide_eq_true_iff, isP_iff] at h
  omega

theorem check_zero {c : Cd} (h : checkC c = 0) : longC c = false ∧ partC c = false ∧ typeC c = false ∧ touchC c = false := by
  unfold checkC at h
  split at h
  · cases h
  · split at h
    · cases h
    · split at h
      · cases h
      · split at h
        · cases h
        · rename_i h1 h2 h3 h4
          exact ⟨by simpa using h1, by simpa using h2, by simpa using h3, by simpa using h4⟩

/-- How long a code that is not too long may be. -/
def Small (c : Cd) : Prop := c.bodies.length ≤ 16 ∧ c.shared.length ≤ 32 ∧ ∀ b ∈ c.bodies, b.locals.length ≤ 16 ∧ b.nodes.length ≤ 1024 ∧ ∀ n ∈ b.nodes, n.code.length ≤ 8192
theorem small_of {c : Cd} (h : longC c = false) : Small c := by
  unfold longC at h
  simp only [Bool.or_eq_false_iff, decide_eq_false_iff_not] at h
  obtain ⟨_, h1, h2, h3⟩ := h
  refine ⟨by omega, by omega, fun b hb => ?_⟩
  have hb := List.any_eq_false.1 h3 b hb
  have hb : longB b = false := by simpa using hb
  unfold longB at hb
  simp only [Bool.or_eq_false_iff, decide_eq_false_iff_not] at hb
  refine ⟨by omega, by omega, fun n hn => ?_⟩
  have hn := List.any_eq_false.1 hb.2.2 n hn
  unfold longN at hn
  simp at hn
  omega
/-- Values and instructions as cells hold them. -/
def OkC (c : Cd) : Prop := (∀ v ∈ c.shared, v.Ok) ∧ ∀ b ∈ c.bodies, (∀ v ∈ b.locals, v.Ok) ∧ ∀ n ∈ b.nodes, ∀ x ∈ n.code, x.Ok
theorem ok_of {B : Nat} {w : World} {x : CT} (h : x.In B w) : OkC x.cd := by
  refine ⟨RowG.all h.1, fun b hb => ?_⟩
  obtain ⟨y, hy, rfl⟩ := List.mem_map.1 hb
  have hI : y.In B w := RowG.all h.2.2 y hy
  refine ⟨RowG.all hI.1, fun n hn => ?_⟩
  obtain ⟨z, hz, rfl⟩ := List.mem_map.1 hn
  have hN : z.In B w := RowG.all hI.2.2 z hz
  exact RowG.all hN.1
theorem fit_of {c : Cd} (h : checkC c = 0) (hok : OkC c) : fitC c := by
  obtain ⟨h1, h2, -, -⟩ := check_zero h
  obtain ⟨s1, s2, s3⟩ := small_of h1
  unfold partC at h2
  rw [Bool.or_eq_false_iff, Bool.or_eq_false_iff] at h2
  obtain ⟨m1, m2, m3⟩ := h2
  have m1 : isP c.mutexes 17 = true := by simpa using m1
  have m3 : c.bodies.all (mayB c.shared.length c.mutexes) = true := by simpa using m3
  rw [isP_iff] at m1
  refine ⟨by omega, by omega, by omega, fun b hb => ?_⟩
  obtain ⟨t1, t2, t3⟩ := s3 b hb
  have mb := List.all_eq_true.1 m3 b hb
  unfold mayB at mb
  rw [Bool.and_eq_true, Bool.and_eq_true, isP_iff] at mb
  obtain ⟨_, mb2, mb3⟩ := mb
  refine ⟨by omega, by omega, by omega, fun n hn => ?_⟩
  have mn := List.all_eq_true.1 mb3 n hn
  unfold mayN at mn
  rw [Bool.and_eq_true, Bool.and_eq_true, Bool.and_eq_true, isP_iff] at mn
  obtain ⟨n1, n2, n3, n4⟩ := mn
  have hcl := t3 n hn
  refine ⟨by omega, fun x hx => ⟨(hok.2 b hb).2 n hn x hx, mayI_arg (List.all_eq_true.1 n1 x hx) (by omega) (by omega)⟩, (mayA_arg n2 (by omega) (by omega) (by omega)).2, (mayA_arg n2 (by omega) (by omega) (by omega)).1, by omega, mayL_alt n3 (by omega)⟩
theorem encN_len (n : Nd) (h : n.code.length ≤ 8192) : (encN n).length ≤ 90120 := by
  have := flat_len encI 11 n.code fun x _ => encI_len x
  unfold encN
  simp only [List.length_append, List.length_cons, bytesOf_length]
  omega
theorem encB_len (b : Bd) (h1 : b.locals.length ≤ 16) (h2 : b.nodes.length ≤ 1024) (h3 : ∀ n ∈ b.nodes, n.code.length ≤ 8192) : (encB b).length ≤ 92283148 := by
  have k1 := encVs_len b.locals
  have k2 := flat_len encN 90120 b.nodes fun n hn => encN_len n (h3 n hn)
  unfold encB
  simp only [List.length_append, List.length_cons, bytesOf_length]
  omega
theorem encC_len {c : Cd} (h : Small c) : (encC c).length ≤ 1476530700 := by
  obtain ⟨s1, s2, s3⟩ := h
  have k1 := encVs_len c.shared
  have k2 := flat_len encB 92283148 c.bodies fun b hb => encB_len b (s3 b hb).1 (s3 b hb).2.1 (s3 b hb).2.2
  unfold encC
  simp only [List.length_append, List.length_cons]
  omega

theorem i73 : (Try.prog.info? 73).map (·.size) = some 1 := by kernel_rfl

set_option maxRecDepth 100000 in
set_option maxHeartbeats 3200000 in
theorem bytesC_any (B : Nat) (x : CT) (w : World) (hx : x.In B w) (hB : B ≤ w.heap.size) :
    Calls Try.prog 16 #[.agg x.cells.toArray] w fun e w' => ((checkC x.cd ≠ 0 ∧ e = .returned (.tuple #[.slice none 0 0, .int .i64 (checkC x.cd : Int)])) ∨ (checkC x.cd = 0 ∧ ∃ v, e = .returned (.tuple #[v, .int .i64 0]) ∧ Own w.heap.size w' v (encC x.cd))) ∧ Below w.heap.size w w' := by
  have Q1 : Hid (∀ u, Below w.heap.size w u → Calls Try.prog 14 #[.agg x.cells.toArray] u fun e w' => e = .returned (.int .i64 (checkC x.cd : Int)) ∧ Below u.heap.size u w') := fun u hu => check_any B x u (hx.old (Old.of_below hu hB)) (by have := hu.size; omega)
  have Q2 : Hid (∀ u g v, checkC x.cd = 0 → Wt w.heap.size u g v [] → Below w.heap.size w u → Calls Try.prog 35 #[.pointer (some ⟨g, 0, none⟩), .agg x.cells.toArray] u fun e w' => e = .returned (.tuple #[]) ∧ (∃ v', Wt w.heap.size w' g v' (encC x.cd)) ∧ Fb w.heap.size g u w') := fun u g v hc hW hu => codeW_any B w.heap.size g v [] x (fit_of hc (ok_of hx)) u hW (hx.old (Old.of_below hu hB)) hB (by have := encC_len (small_of (check_zero hc).1); simp only [List.length_nil]; omega) hu.size
  have hlen : x.cells.length = 3 := rfl
  have hone := x.one
  generalize encC x.cd = E at *
  generalize checkC x.cd = k at *
  generalize x.cells = cs at *
  clear hx
  have hi : (Try.prog.info? 25).map (·.size) = some cs.length := by rw [hlen]; exact i25
  by_cases hk : k = 0
  · subst hk
    have Q2b : Hid (∀ u g v, Wt w.heap.size u g v [] → Below w.heap.size w u → Calls Try.prog 35 #[.pointer (some ⟨g, 0, none⟩), .agg cs.toArray] u fun e w' => e = .returned (.tuple #[]) ∧ (∃ v', Wt w.heap.size w' g v' E) ∧ Fb w.heap.size g u w') := fun u g v => Q2.out u g v rfl
    clear Q2
    have HP : Hid (∀ (e : Ending) (w' : World) (v : Value), e = .returned (.tuple #[v, .int .i64 0]) → Own w.heap.size w' v E → Below w.heap.size w w' → (((0 : Nat) ≠ 0 ∧ e = .returned (.tuple #[.slice none 0 0, .int .i64 ((0 : Nat) : Int)])) ∨ ((0 : Nat) = 0 ∧ ∃ v, e = .returned (.tuple #[v, .int .i64 0]) ∧ Own w.heap.size w' v E)) ∧ Below w.heap.size w w') := fun e w' v h1 h2 h3 => ⟨.inr ⟨rfl, v, h1, h2⟩, h3⟩
    go_enter Try.func16, Try.ntmps16
    go_wp2_with (first
      | ((with_reducible show wpList _ _ _ _ _ _); refine wpList_box_at rfl 25 (.tmp 0) rfl cs rfl ?_; intro w1 hA1 hb1 hs1; clear hs1; refine Hid.out ?_))
    refine hidU ?_
    go_wp2_with (first
      | ((with_reducible show wpList _ _ _ _ _ _); refine wpList_load_at (P := Try.prog) rfl 25 (.tmp 1) rfl w.heap.size rfl 25 cs (by first | exact hA1 | exact hA3) _ Try.underlying25 rfl hi ?_)
      | (go_at_call 14; refine (Q1.out _ hb1).mono ?_; rintro r w2 ⟨rfl, hb2⟩; have hA2 := hA1.below hb2; have hb12 := hb1.trans (hb2.mono hb1.size); clear hA1 hb2)
      | ((with_reducible show wpList _ _ _ _ _ _); refine wpList_build_at rfl 73 _ rfl [.slice none 0 0] (by kernel_rfl) ?_)
      | ((with_reducible show wpList _ _ _ _ _ _); refine wpList_box_at rfl 73 (.tmp 11) rfl [.slice none 0 0] rfl ?_; intro w3 hB3 hb3 hs3; clear hs3; have hA3 := hA2.below hb3; have hb13 := hb12.trans (hb3.mono hb12.size); have hW3 : Wt w.heap.size w3 w2.heap.size (.slice none 0 0) [] := ⟨hB3, Own.nil _ _, hb12.size⟩; clear hB3 hA2)
      | (go_at_call 35; refine (Q2b.out _ _ _ hW3 hb13).mono ?_; rintro _ w4 ⟨rfl, ⟨v4, hW4⟩, hF4⟩; refine Hid.out ?_))
    refine hidU ?_
    have q4 : w4.cell? ⟨w2.heap.size, 0, none⟩ = some v4 := by rw [hW4.cell.cell]; rfl
    have hB4 : Below w.heap.size w w4 := hb13.trans (hF4.below hb12.size hb13.size)
    have HO : Hid (Own w.heap.size w4 v4 E) := hW4.own
    clear hW4 hF4 hW3 hA3 hb3 Q1 Q2b
    go_wp2
    go_ret2
    exact HP.out _ _ v4 rfl HO.out hB4
  · have hk' : ((k : Int) != 0) = true := by rw [bne_iff_ne]; omega
    have HK : Hid (k ≠ 0) := hk
    clear hk Q2
    go_enter Try.func16, Try.ntmps16
    go_wp2_with (first
      | ((with_reducible show wpList _ _ _ _ _ _); refine wpList_box_at rfl 25 (.tmp 0) rfl cs rfl ?_; intro w1 hA1 hb1 hs1; clear hs1; refine Hid.out ?_))
    refine hidU ?_
    go_wp2_with (first
      | ((with_reducible show wpList _ _ _ _ _ _); refine wpList_load_at (P := Try.prog) rfl 25 (.tmp 1) rfl w.heap.size rfl 25 cs hA1 _ Try.underlying25 rfl hi ?_)
      | (go_at_call 14; refine (Q1.out _ hb1).mono ?_; rintro r w2 ⟨rfl, hb2⟩))
    go_ret2
    exact ⟨.inl ⟨HK.out, rfl⟩, hb1.trans (hb2.mono hb1.size)⟩
end Go.Proofs.Ytefklmckkigllaa
