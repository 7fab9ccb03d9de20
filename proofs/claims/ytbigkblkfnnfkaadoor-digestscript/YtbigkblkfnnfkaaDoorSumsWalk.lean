/- Digests compared, and the law DigestSums, walked. -/
import Derived.Test.YtbigkblkfnnfkaaDoorSum
import Derived.Test.YtbigkblkfnnfkaaDoorArg
import Derived.DeepKeys
namespace Go.Proofs.YtbigkblkfnnfkaaDoor
open Go.RowKit
set_option linter.unusedVariables false

theorem byte_beq (x y : UInt8) : (((x.toNat : Nat) : Int) == ((y.toNat : Nat) : Int)) = (x == y) := by
  by_cases h : x = y
  · subst h; simp
  · have h2 : x.toNat ≠ y.toNat := fun e => h (UInt8.toNat_inj.1 e)
    have h3 : ((x.toNat : Nat) : Int) ≠ ((y.toNat : Nat) : Int) := fun e => h2 (Int.ofNat.inj e)
    rw [beq_eq_false_iff_ne.2 h, beq_eq_false_iff_ne.2 h3]

def eqAt (l m : List UInt8) (i : Nat) : Bool := l.getD i 0 == m.getD i 0

theorem run_items (d : Nat) (l m : List UInt8) (hl : l.length = 32) (hm : m.length = 32) (w : World) : ∀ is : List Nat, (∀ i ∈ is, i < 32) →
    (Op.eqItems (d + 1) 5 1 (l.map B8).toArray (m.map B8).toArray is).run Tryd.prog w = .ok (is.all (eqAt l m)) w
  | [], _ => by simp [Op.eqItems]
  | i :: is, h => by
    have hi : i < 32 := h i (by simp)
    have ih := run_items d l m hl hm w is (fun j hj => h j (by simp [hj]))
    have p1 : (part 5 (l.map B8).toArray (i * 1)).run Tryd.prog w = .ok (.int .u8 ((l.getD i 0).toNat : Int)) w := by
      simp [part, B8, List.getD, List.getElem?_eq_getElem (show i < l.length by omega), go_sem]
    have p2 : (part 5 (m.map B8).toArray (i * 1)).run Tryd.prog w = .ok (.int .u8 ((m.getD i 0).toNat : Int)) w := by
      simp [part, B8, List.getD, List.getElem?_eq_getElem (show i < m.length by omega), go_sem]
    simp only [Op.eqItems, Sem.run_bind, p1, p2, Result.andThen_ok, run_equalIn_int w d 5 .u8 .u8 _ _ Tryd.underlying5, byte_beq]
    rw [show (l.getD i 0 == m.getD i 0) = eqAt l m i from rfl, List.all_cons]
    cases eqAt l m i
    · simp
    · simp [ih]

theorem all_eqAt (l m : List UInt8) (hl : l.length = 32) (hm : m.length = 32) : (List.range 32).all (eqAt l m) = (l == m) := by
  by_cases h : l = m
  · subst h
    simp [eqAt]
  · rw [beq_eq_false_iff_ne.2 h]
    rw [Bool.eq_false_iff]
    intro ha
    apply h
    apply List.ext_getElem (by omega)
    intro i h1 h2
    have := List.all_eq_true.1 ha i (List.mem_range.2 (by omega))
    simpa [eqAt, List.getD, List.getElem?_eq_getElem h1, List.getElem?_eq_getElem h2] using this

theorem run_same (l m : List UInt8) (hl : l.length = 32) (hm : m.length = 32) (w : World) : (Op.equalIn 10000 25 (.agg (l.map B8).toArray) (.agg (m.map B8).toArray)).run Tryd.prog w = .ok (l == m) w := by
  obtain ⟨i0, hi, _⟩ := info_parts Tryd.info5
  have hc : Tryd.prog.cellsOf 5 = 1 := by kernel_rfl
  rw [show (10000 : Nat) = 9998 + 1 + 1 from rfl, run_equalIn_array w (9998 + 1) _ _ Tryd.underlying25 hi, hc, run_items 9998 l m hl hm w _ (fun i h => List.mem_range.1 h), all_eqAt l m hl hm]

set_option maxRecDepth 100000 in
set_option maxHeartbeats 800000 in
theorem sums_walk (a : Option Addr) (cap : Nat) (m : List UInt8) (w : World) (hrow : Row w a m) (hnil : a = none → cap = 0) (hcap : m.length ≤ cap) (hmax : m.length ≤ 100000) (hR : Roots w) :
    Calls Tryd.prog 3 #[.slice a m.length cap] w fun e w' => e = .returned (.bool true) ∧ Below w.heap.size w w' := by
  have d1 : decide (100000 < (m.length : Int)) = false := by simp; omega
  have hsame := fun u => run_same (sha m) (sha m) (sha_length m) (sha_length m) u
  obtain ⟨ds, hds⟩ : ∃ ds, Hid (ds = sha m) := ⟨_, rfl⟩
  rw [← hds.out] at hsame
  have hbeq : (ds == ds) = true := by simp
  rw [hbeq] at hsame
  go_enter Tryd.func3, Tryd.ntmps3
  go_wp2_with (first | (go_at_call 9; refine (lent_any a cap m _ hrow (by omega)).mono ?_; rintro e w1 ⟨rfl, hblk1, hb1⟩) | (go_at_call 10; refine (sum_any (some ⟨w.heap.size, 0, none⟩) (m.length + 3) m _ (by have := hblk1.row m.length (by rw [lent_length]; omega); simpa [lent] using this) (by omega) (by omega) (hR.below hb1)).mono ?_; rintro e w2 ⟨rfl, hb2⟩; rw [← hds.out]) | (go_at_call 11; refine (refSum_any a cap m _ ((hrow.below hb1).below hb2) hnil (by omega)).mono ?_; rintro e w3 ⟨rfl, hb3⟩; rw [← hds.out]) | (go_at_call 12; refine (kept_any a cap w.heap.size m _ (((hrow.below hb1).below hb2).below hb3) ((hblk1.below hb2).below hb3) (by omega)).mono ?_; rintro e w4 ⟨rfl, hb4⟩))
  go_ret
  exact ⟨rfl, hb1.trans ((hb2.mono hb1.size).trans ((hb3.mono (Nat.le_trans hb1.size hb2.size)).trans (hb4.mono (Nat.le_trans hb1.size (Nat.le_trans hb2.size hb3.size)))))⟩
end Go.Proofs.YtbigkblkfnnfkaaDoor
