/- digest.mix: 64 rounds over the eight words, and their sums. -/
import Derived.Test.YtbigkblkfnnfkaaDoorArr
namespace Go.Proofs.YtbigkblkfnnfkaaDoor
open Go.RowKit
set_option linter.unusedVariables false

/-- The eight words on their way through a block. -/
structure St where
  a : Nat
  b : Nat
  c : Nat
  d : Nat
  e : Nat
  f : Nat
  g : Nat
  h : Nat

def St.list (s : St) : List Nat := [s.a, s.b, s.c, s.d, s.e, s.f, s.g, s.h]

def pOf (s : St) (k x : Nat) : Nat := (s.h + xor32 (xor32 (rot s.e 6) (rot s.e 11)) (rot s.e 25) + xor32 (and32 s.e s.f) (and32 (xor32 4294967295 s.e) s.g) + k + x) % 4294967296
def qOf (s : St) : Nat := (xor32 (xor32 (rot s.a 2) (rot s.a 13)) (rot s.a 22) + xor32 (xor32 (and32 s.a s.b) (and32 s.a s.c)) (and32 s.b s.c)) % 4294967296
def rnd (k x : Nat) (s : St) : St := ⟨(pOf s k x + qOf s) % 4294967296, s.a, s.b, s.c, (s.d + pOf s k x) % 4294967296, s.e, s.f, s.g⟩
def rnds (ks ws : List Nat) (s : St) : Nat → St
  | 0 => s
  | n + 1 => rnd (ks.getD n 0) (ws.getD n 0) (rnds ks ws s n)

/-- Words added to words, the first n. -/
def addTo (l m : List Nat) : Nat → List Nat
  | 0 => l
  | n + 1 => (addTo l m n).set n ((l.getD n 0 + m.getD n 0) % 4294967296)

theorem addTo_length (l m : List Nat) (n : Nat) : (addTo l m n).length = l.length := by
  induction n with
  | zero => rfl
  | succ n ih => simp [addTo, ih]
theorem addTo_get (l m : List Nat) (n j : Nat) (h : n ≤ j) : (addTo l m n)[j]? = l[j]? := by
  induction n with
  | zero => rfl
  | succ n ih => rw [addTo, List.getElem?_set_ne (by omega), ih (by omega)]

theorem addTo_step (l m : List Nat) (n : Nat) (h : n < l.length) (v : Value) (hv : v = U32 ((l.getD n 0 + m.getD n 0) % 4294967296)) : ((addTo l m n).map U32).set n v = (addTo l m (n + 1)).map U32 := by
  rw [addTo, List.map_set, hv]

attribute [local go_sem] xor32_eq and32_eq or32_eq not32_eq

set_option maxRecDepth 100000 in
set_option maxHeartbeats 1600000 in
theorem mix_any (s0 : St) (ws : List Nat) (w : World) (h64 : ws.length = 64) (hR : Roots w) :
    Calls Tryd.prog 43 #[.agg (s0.list.map U32).toArray, .agg (ws.map U32).toArray] w fun e w' => e = .returned (.agg ((addTo s0.list (rnds roots ws s0 64).list 8).map U32).toArray) ∧ Below w.heap.size w w' := by
  go_enter Tryd.func43, Tryd.ntmps43
  go_wp2_with (first | (refine wpList_box_at rfl 55 (.tmp 0) rfl (s0.list.map U32) rfl ?_; intro w1 hA1 hb1 hs1) | (refine wpList_box_at rfl 66 (.tmp 1) rfl (ws.map U32) rfl ?_; intro w2 hA2 hb2 hs2) | (refine wpList_alloc_at rfl 55 rfl _ 8 z55 ?_; intro w3 hA3 hb3 hs3))
  have hB1 : At 55 w3 w.heap.size (s0.list.map U32) := (hA1.below hb2).below hb3
  have hB2 : At 66 w3 w1.heap.size (ws.map U32) := hA2.below hb3
  have hR3 : Roots w3 := ((hR.below hb1).below hb2).below hb3
  have hbel : Below w.heap.size w w3 := hb1.trans ((hb2.mono (by omega)).trans (hb3.mono (by omega)))
  have hg1 : Hid (w.heap.size ≠ w2.heap.size) := by show _ ≠ _; omega
  have hg2 : Hid (w.heap.size ≤ w2.heap.size) := by show _ ≤ _; omega
  have hg3 : Hid (w.heap.size ≤ w3.heap.size) := by show _ ≤ _; omega
  have c0 : w3.cell? ⟨w.heap.size, 0, none⟩ = some (.int .u32 (s0.a : Int)) := by rw [hB1.cell]; rfl
  have c1 : w3.cell? ⟨w.heap.size, 1, none⟩ = some (.int .u32 (s0.b : Int)) := by rw [hB1.cell]; rfl
  have c2 : w3.cell? ⟨w.heap.size, 2, none⟩ = some (.int .u32 (s0.c : Int)) := by rw [hB1.cell]; rfl
  have c3 : w3.cell? ⟨w.heap.size, 3, none⟩ = some (.int .u32 (s0.d : Int)) := by rw [hB1.cell]; rfl
  have c4 : w3.cell? ⟨w.heap.size, 4, none⟩ = some (.int .u32 (s0.e : Int)) := by rw [hB1.cell]; rfl
  have c5 : w3.cell? ⟨w.heap.size, 5, none⟩ = some (.int .u32 (s0.f : Int)) := by rw [hB1.cell]; rfl
  have c6 : w3.cell? ⟨w.heap.size, 6, none⟩ = some (.int .u32 (s0.g : Int)) := by rw [hB1.cell]; rfl
  have c7 : w3.cell? ⟨w.heap.size, 7, none⟩ = some (.int .u32 (s0.h : Int)) := by rw [hB1.cell]; rfl
  clear hA1 hA2 hb1 hb2 hb3 hs1 hs2 hs3 hR
  go_wp2_with fail
  go_quiet (fail)
  go_wp2_with fail
  go_quiet (fail)
  clear c0 c1 c2 c3 c4 c5 c6 c7
  go_wp2_with fail
  go_loopw [5, 6, 7, 8, 9, 10, 11, 12, 36] (fun a b c d e f g h t wr => ∃ (k : Nat) (s : St) (n : Nat), k ≤ 64 ∧ t = .int .i64 k ∧ Hid (s = rnds roots ws s0 k) ∧ a = .int .u32 (s.a : Int) ∧ b = .int .u32 (s.b : Int) ∧ c = .int .u32 (s.c : Int) ∧ d = .int .u32 (s.d : Int) ∧ e = .int .u32 (s.e : Int) ∧ f = .int .u32 (s.f : Int) ∧ g = .int .u32 (s.g : Int) ∧ h = .int .u32 (s.h : Int) ∧ wr = w3.drewN n)
    (fun _ _ _ _ _ _ _ _ t _ => 64 - (intOf t).toNat)
  case atStart => exact ⟨0, s0, _, by omega, rfl, rfl, rfl, rfl, rfl, rfl, rfl, rfl, rfl, rfl, World.drewN_drewN _ _ _⟩
  case round =>
    obtain ⟨k, s, n, hk, rfl, hs, rfl, rfl, rfl, rfl, rfl, rfl, rfl, rfl, rfl⟩ := hrel
    by_cases hlt : k < 64
    · have hK : w3.cell? ⟨0, k, none⟩ = some (.int .u32 ((roots.getD k 0 : Nat) : Int)) := hR3 k hlt
      have hW : w3.cell? ⟨w1.heap.size, k, none⟩ = some (.int .u32 ((ws.getD k 0 : Nat) : Int)) := by
        rw [hB2.cell]; simp [U32, List.getD, List.getElem?_eq_getElem (show k < ws.length by omega)]
      obtain ⟨x, hx⟩ : ∃ x, Hid (x = ws.getD k 0) := ⟨_, rfl⟩
      obtain ⟨y, hy⟩ : ∃ y, Hid (y = roots.getD k 0) := ⟨_, rfl⟩
      rw [← hx.out] at hW
      rw [← hy.out] at hK
      clear hB1 hB2 hR3 hbel
      go_wp2_with (first | (go_at_call_of 47 (Value.int IntKind.u64 2); refine (turn_lit _ 2 _ _ rfl (by decide)).mono ?_; rintro e w9 ⟨rfl, rfl⟩) | (go_at_call_of 47 (Value.int IntKind.u64 13); refine (turn_lit _ 13 _ _ rfl (by decide)).mono ?_; rintro e w9 ⟨rfl, rfl⟩) | (go_at_call_of 47 (Value.int IntKind.u64 22); refine (turn_lit _ 22 _ _ rfl (by decide)).mono ?_; rintro e w9 ⟨rfl, rfl⟩) | (go_at_call_of 47 (Value.int IntKind.u64 6); refine (turn_lit _ 6 _ _ rfl (by decide)).mono ?_; rintro e w9 ⟨rfl, rfl⟩) | (go_at_call_of 47 (Value.int IntKind.u64 11); refine (turn_lit _ 11 _ _ rfl (by decide)).mono ?_; rintro e w9 ⟨rfl, rfl⟩) | (go_at_call_of 47 (Value.int IntKind.u64 25); refine (turn_lit _ 25 _ _ rfl (by decide)).mono ?_; rintro e w9 ⟨rfl, rfl⟩))
      go_quiet (fail)
      go_wp2_with fail
      go_roundw
      case rel => exact ⟨k + 1, rnd y x s, _, by omega, by go_num, (by rw [hs.out, hx.out, hy.out]; rfl), (by simp [rnd, pOf, qOf]), rfl, rfl, rfl, (by simp [rnd, pOf, qOf]), rfl, rfl, rfl, rfl⟩
      case measure => simp [intOf]; omega
    · obtain rfl : k = 64 := by omega
      clear hR3 hB2
      go_wp2_with (first | (refine wpList_build_at rfl 55 _ rfl (s.list.map U32) (by rfl) ?_))
      go_loopw [110] (fun t wr => ∃ k : Nat, k ≤ 8 ∧ t = .int .i64 k ∧ At 55 wr w.heap.size ((addTo s0.list s.list k).map U32) ∧ At 55 wr w2.heap.size (List.replicate 8 (Value.int .u32 0)) ∧ Below w.heap.size w wr)
        (fun t _ => 8 - (intOf t).toNat)
      case atStart => exact ⟨0, by omega, rfl, hB1.drewN _, hA3.drewN _, ⟨hbel.os, hbel.tape, hbel.output, hbel.size, hbel.block⟩⟩
      case round =>
        obtain ⟨k, hk, rfl, hC1, hC2, hbl⟩ := hrel
        clear hB1 hA3 hbel
        by_cases hlt : k < 8
        · have hI : (s.list.map U32)[k]? = some (.int .u32 ((s.list.getD k 0 : Nat) : Int)) := by simp [U32, List.getD, List.getElem?_eq_getElem (show k < s.list.length from hlt)]
          have hW : wr.cell? ⟨w.heap.size, k, none⟩ = some (.int .u32 ((s0.list.getD k 0 : Nat) : Int)) := by
            rw [hC1.cell, List.getElem?_map, addTo_get _ _ _ _ (Nat.le_refl _)]
            simp [U32, List.getD, List.getElem?_eq_getElem (show k < s0.list.length from hlt)]
          have hF := hC1.frozen k
          obtain ⟨x, hx⟩ : ∃ x, Hid (x = s.list.getD k 0) := ⟨_, rfl⟩
          obtain ⟨y, hy⟩ : ∃ y, Hid (y = s0.list.getD k 0) := ⟨_, rfl⟩
          rw [← hx.out] at hI
          have hJ : ∀ u, (Instr.index 55 (.agg #[.int .u32 (s.a : Int), .int .u32 (s.b : Int), .int .u32 (s.c : Int), .int .u32 (s.d : Int), .int .u32 (s.e : Int), .int .u32 (s.f : Int), .int .u32 (s.g : Int), .int .u32 (s.h : Int)]) (.int .i64 (k : Int))).run Tryd.prog u = .ok (.int .u32 (x : Int)) u := fun u => run_index55 (s.list.map U32) k _ u hlt hI
          clear hI
          rw [← hy.out] at hW
          have HS : Hid _ := addTo_step s0.list s.list k hlt (U32 ((y + x) % 4294967296)) (by rw [hx.out, hy.out])
          go_wp2
          go_roundw
          case rel => exact ⟨k + 1, by omega, by go_num, by rw [← HS.out]; simpa [U32] using hC1.set k _, hC2.setOther _ _ (fun e => hg1.out e.symm), hbl.setCell (Nat.le_refl _) _⟩
          case measure => simp [intOf]; omega
        · obtain rfl : k = 8 := by omega
          have hl : ((addTo s0.list s.list 8).map U32).length = 8 := by simp [addTo_length]; rfl
          go_wp2_with (first | (refine wpList_load_at rfl 55 (.tmp 2) rfl w.heap.size rfl 55 _ hC1 _ Tryd.underlying55 rfl (by rw [hl]; exact i55) ?_) | (refine wpList_store_at rfl 55 (.tmp 4) (.tmp 121) rfl w2.heap.size _ rfl rfl 55 _ hC2 (by rw [hl]; exact i55) (by rw [hl]; rfl) (by intro v hv; simp at hv; obtain ⟨x, _, rfl⟩ := hv; rfl) ?_; intro w5 hA5 hb5 hs5))
          refine bodyPost_ret (results_at rfl _ _ w2.heap.size 55 _ _ rfl hA5 Tryd.underlying55 rfl (by rw [hl]; exact i55)) rfl ?_
          exact ⟨by rw [hs.out], hb5.below hbl hg2.out (Nat.le_trans hbl.size (Nat.le_refl _))⟩
end Go.Proofs.YtbigkblkfnnfkaaDoor
