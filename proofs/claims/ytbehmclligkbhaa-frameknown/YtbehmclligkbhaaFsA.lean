/- The landed frame: pieces of a slice, its size, a number's four bytes told and read, where a record stands, a copy of bytes. -/
import Derived.Test.YtbehmclligkbhaaFrE
import Derived.Test.YtbehmclligkbhaaFrH
import Derived.Lib.SliceRun
namespace Go.Proofs.Ytbehmclligkbhaa
open Go.RowKit
set_option linter.unusedVariables false
set_option maxRecDepth 100000
set_option maxHeartbeats 3200000

/-- Where a piece of a slice begins. -/
def dropA (a : Option Addr) (cap h : Nat) : Option Addr := if cap = h then a else a.map (·.add h)
theorem addr_zero (a : Option Addr) : a.map (fun p => p.add 0) = a := by
  cases a with
  | none => rfl
  | some p => cases p; simp [Addr.add]
theorem run_slice_lhm22 (w : World) (a : Option Addr) (len cap l h m : Nat) (x y z : Int) (hx : x = (l : Int)) (hy : y = (h : Int)) (hz : z = (m : Int)) (h1 : l ≤ h) (h2 : h ≤ m) (h3 : m ≤ cap) :
    (Instr.slice 22 (.slice a len cap) (some (.int .i64 x)) (some (.int .i64 y)) (some (.int .i64 z))).run Try.prog w = .ok (.slice (dropA a m l) (h - l) (m - l)) w := by
  subst hx hy hz
  have he : Try.prog.elem 22 = 5 := by simp [Program.elem, Try.underlying22]
  have hr := run_slice_lhm (P := Try.prog) w 22 a len cap (by rw [he]; exact Try.underlying22) .i64 .i64 .i64 (l : Int) (h : Int) (m : Int) (by omega) (by omega) (by omega) (by omega)
  rw [he, size5] at hr
  simp only [Result.andThen, Int.toNat_natCast] at hr
  rw [hr]
  unfold sliced dropA
  rw [Nat.mul_one]
theorem run_slice_hm22 (w : World) (a : Option Addr) (len cap h m : Nat) (y z : Int) (hy : y = (h : Int)) (hz : z = (m : Int)) (h2 : h ≤ m) (h3 : m ≤ cap) :
    (Instr.slice 22 (.slice a len cap) none (some (.int .i64 y)) (some (.int .i64 z))).run Try.prog w = .ok (.slice a h m) w := by
  subst hy hz
  have he : Try.prog.elem 22 = 5 := by simp [Program.elem, Try.underlying22]
  have hr := run_slice_hm (P := Try.prog) w 22 a len cap (by rw [he]; exact Try.underlying22) .i64 .i64 (h : Int) (m : Int) (by omega) (by omega) (by omega)
  rw [he, size5] at hr
  simp only [Result.andThen, Int.toNat_natCast] at hr
  rw [hr]
  unfold sliced
  rw [Nat.zero_mul, addr_zero, ite_self, Nat.sub_zero, Nat.sub_zero]
theorem run_slice_l22 (w : World) (a : Option Addr) (len cap h : Nat) (x : Int) (hx : x = (h : Int)) (hh : h ≤ len) :
    (Instr.slice 22 (.slice a len cap) (some (.int .i64 x)) none none).run Try.prog w = .ok (.slice (dropA a cap h) (len - h) (cap - h)) w := by
  subst hx
  have he : Try.prog.elem 22 = 5 := by simp [Program.elem, Try.underlying22]
  have hr := run_slice_l (P := Try.prog) w 22 a len cap (by rw [he]; exact Try.underlying22) .i64 (h : Int) (by omega) (by omega)
  rw [he, size5] at hr
  simp only [Result.andThen, Int.toNat_natCast] at hr
  rw [hr]
  unfold sliced dropA
  rw [Nat.mul_one]
theorem Row.drop {w : World} {a : Option Addr} {bs : List UInt8} (h : Row w a bs) (k : Nat) : Row w (a.map (·.add k)) (bs.drop k) := by
  rcases h with rfl | ⟨b, off, rfl, hc⟩
  · exact .inl (by simp)
  · refine .inr ⟨b, off + k, by simp only [Option.map_some, add_none], fun j hj => ?_⟩
    rw [List.length_drop] at hj
    rw [Nat.add_assoc, hc (k + j) (by omega)]
    congr 3
    simp [List.getD]
/-- A piece of a row is a row. -/
theorem Row.piece {w : World} {a : Option Addr} {bs : List UInt8} (h : Row w a bs) (m l n : Nat) (hm : l + n ≤ m) : Row w (Ytbehmclligkbhaa.dropA a m l) ((bs.drop l).take n) := by
  unfold Ytbehmclligkbhaa.dropA
  split
  · have : n = 0 := by omega
    subst this
    exact .inl (by simp)
  · exact (h.drop l).take n
theorem Row.dropA {w : World} {a : Option Addr} {bs : List UInt8} (h : Row w a bs) (c k : Nat) (hc : bs.length ≤ c) (hk : k ≤ bs.length) : Row w (Ytbehmclligkbhaa.dropA a c k) (bs.drop k) := by
  unfold Ytbehmclligkbhaa.dropA
  split
  · exact .inl (List.drop_eq_nil_iff.2 (by omega))
  · exact h.drop k
theorem dropA_nil {a : Option Addr} {c k : Nat} (h : a = none → c = 0) (hk : k ≤ c) (e : dropA a c k = none) : c - k = 0 := by
  unfold dropA at e
  split at e
  · omega
  · cases a with
    | none => have := h rfl; omega
    | some x => simp at e
theorem dropA_some {a : Option Addr} {c k : Nat} (h : a ≠ none) : dropA a c k ≠ none := by
  unfold dropA
  split
  · exact h
  · cases a with
    | none => exact absurd rfl h
    | some x => simp

theorem size_any (z : Int) (w : World) : Calls Try.prog 15 #[.int .i64 z] w fun r w' => r = .returned (.int .i64 (sizeZ z)) ∧ w' = w := by
  by_cases h1 : z < 0
  · have e : sizeZ z = 0 := by unfold sizeZ; rw [if_pos (.inl h1)]
    rw [e]
    go_enter Try.func15, Try.ntmps15
    go_wp2
    go_ret
    exact ⟨rfl, rfl⟩
  by_cases h2 : 65536 < z
  · have e : sizeZ z = 0 := by unfold sizeZ; rw [if_pos (.inr h2)]
    rw [e]
    go_enter Try.func15, Try.ntmps15
    go_wp2
    go_ret
    exact ⟨rfl, rfl⟩
  · have e : sizeZ z = z + 12 := by unfold sizeZ; rw [if_neg (by omega)]
    rw [e]
    have hw : IntKind.i64.wrap (z + 12) = z + 12 := by rw [IntKind.wrap_i64]; omega
    go_enter Try.func15, Try.ntmps15
    go_wp2
    go_ret
    exact ⟨rfl, rfl⟩
theorem told_any (n : Nat) (hn : n < 4294967296) (w : World) :
    Calls Try.prog 27 #[.int .u32 n] w fun r w' => ∃ v, r = .returned v ∧ OwnX eB w.heap.size w' v (bytesOf 4 n) ∧ Below w.heap.size w w' := by
  have H1 := hidU (bytes_ok n 4 (by omega) (by decide) (by decide) (by rw [show 256 ^ 4 = 4294967296 from rfl]; omega) w)
  have hw : IntKind.u64.wrap (n : Int) = (n : Int) := by rw [IntKind.wrap_u64]; omega
  go_enter Try.func27, Try.ntmps27
  go_wp2_with (go_at_call 33; refine H1.out.mono ?_; rintro _ w1 ⟨v, rfl, ho, hb⟩; refine Hid.out ?_)
  refine hidU ?_
  have HO := hidU (ownB.2 ho)
  have HB := hidU hb
  clear ho hb H1
  go_wp2
  go_ret
  exact ⟨v, rfl, HO.out, HB.out⟩
theorem read_any (a : Option Addr) (c : Nat) (bs : List UInt8) (w : World) (hr : Row w a bs) (hl : bs.length = 4) :
    Calls Try.prog 34 #[.slice a 4 c] w fun r w' => r = .returned (.int .u32 (number bs)) ∧ w' = w := by
  have h := number_ok a c bs w hr (by omega) (by omega)
  rw [hl] at h
  have H1 := hidU h
  have hlt : number bs < 4294967296 := by have := number_lt bs; rw [hl] at this; exact this
  obtain ⟨N, hN⟩ : ∃ x, Hid (x = number bs) := ⟨_, (rfl : number bs = _)⟩
  rw [← hN.out] at h hlt H1 ⊢
  clear h hr
  have hw : IntKind.u32.wrap (N : Int) = (N : Int) := by rw [IntKind.wrap_u32]; omega
  go_enter Try.func34, Try.ntmps34
  go_wp2_with (go_at_call 39; refine H1.out.mono ?_; rintro _ w1 ⟨rfl, rfl⟩; refine Hid.out ?_)
  refine hidU ?_
  clear H1
  go_wp2
  go_ret
  exact ⟨rfl, rfl⟩
theorem inner_any (a : Option Addr) (n : Nat) (hn : n ≤ 65536) (w : World) :
    Calls Try.prog 35 #[.slice a (n + 12) (n + 12)] w fun r w' => r = .returned (.slice (dropA a (n + 8) 8) n n) ∧ w' = w := by
  have hs := fun w => run_slice_lhm22 w a (n + 12) (n + 12) 8 (n + 8) (n + 8) 8 ((n : Int) + 12 - 4) ((n : Int) + 12 - 4) rfl (by omega) (by omega) (by omega) (by omega) (by omega)
  rw [Nat.add_sub_cancel] at hs
  go_enter Try.func35, Try.ntmps35
  go_wp2
  go_ret
  exact ⟨rfl, rfl⟩
theorem clone_nil (n c : Nat) (w : World) : Calls Try.prog 36 #[.slice none n c] w fun r w' => r = .returned (.slice none 0 0) ∧ w' = w := by
  have hq : (binOp .eql 22 (.slice none n c) (.slice none 0 0)).run Try.prog w = .ok (.bool true) w := Lib.run_eql_slice_nil w 22 _ none n c 0 0 Try.underlying22
  go_enter Try.func36, Try.ntmps36
  go_wp2
  go_ret
  exact ⟨rfl, rfl⟩
theorem clone_some (ad : Addr) (n c : Nat) (bs : List UInt8) (w : World) (h : Row w (some ad) bs) (hn : bs.length = n) (hc : n ≤ c) (hm : n ≤ 140737488355328) :
    Calls Try.prog 36 #[.slice (some ad) n c] w fun r w' => ∃ v, r = .returned v ∧ OwnX eB w.heap.size w' v bs ∧ Below w.heap.size w w' := by
  have HR := hidU (rowB.2 h)
  have hq : (binOp .eql 22 (.slice (some ad) n c) (.slice none 0 0)).run Try.prog w = .ok (.bool false) w := Lib.run_eql_slice_nil w 22 _ (some ad) n c 0 0 Try.underlying22
  clear h
  go_enter Try.func36, Try.ntmps36
  go_wp2_with (refine wpList_layB0 rfl rfl ?_; intro w1 hO hb hs; refine Hid.out ?_)
  have HR1 := hidU (HR.out.below hb)
  have HO := hidU hO
  have HB := hidU hb
  have hbase : w.heap.size ≤ w1.heap.size := hb.size
  refine hidU ?_
  clear hs hO hb
  go_wp2_with (refine wpList_appX eB rfl (.tmp 5) (.tmp 6) rfl w.heap.size _ _ n c rfl rfl HO.out hn (fun h => by cases h) hc HR1.out (by unfold maxLen; simp; omega) (by show (_ + n) * 1 ≤ _; simp; omega) hbase ?_; intro v' w2 hO2 hg; refine Hid.out ?_)
  have HB2 : Hid (Below w.heap.size w w2) := by
    refine HB.out.trans ?_
    exact (Chg.of_grown (K := fun k => w.heap.size ≤ k) hg (fun k hk => (HO.out.block k hk).1)).below hbase (fun k hk => hk)
  rw [List.nil_append] at hO2
  refine hidU ?_
  clear hg
  go_wp2
  go_ret
  exact ⟨_, rfl, hO2, HB2.out⟩
theorem clone_any (a : Option Addr) (n c : Nat) (bs : List UInt8) (w : World) (h : Row w a bs) (hn : bs.length = n) (hc : n ≤ c) (h0 : a = none → c = 0) (hm : n ≤ 140737488355328) :
    Calls Try.prog 36 #[.slice a n c] w fun r w' => ∃ v, r = .returned v ∧ OwnX eB w.heap.size w' v bs ∧ Below w.heap.size w w' := by
  cases a with
  | none =>
    have h1 := h0 rfl
    have h2 : bs = [] := List.eq_nil_of_length_eq_zero (by omega)
    subst h2
    refine (clone_nil n c w).mono ?_
    rintro _ _ ⟨rfl, rfl⟩
    exact ⟨_, rfl, OwnX.nil _ _ _, Below.refl _ _⟩
  | some ad => exact clone_some ad n c bs w h hn hc hm
/-- A frame's record, copied. -/
theorem record_any (a : Option Addr) (n : Nat) (bs : List UInt8) (w : World) (h : Row w a bs) (hn : n ≤ 65536) (hl : n + 8 ≤ bs.length) :
    Calls Try.prog 29 #[.slice a (n + 12) (n + 12)] w fun r w' => ∃ v, r = .returned v ∧ OwnX eB w.heap.size w' v ((bs.drop 8).take n) ∧ Below w.heap.size w w' := by
  have H1 := hidU (inner_any a n hn w)
  have hlen : ((bs.drop 8).take n).length = n := by rw [List.length_take, List.length_drop]; omega
  by_cases h0 : dropA a (n + 8) 8 = none ∧ n ≠ 0
  · exfalso
    obtain ⟨g, hg⟩ := h0
    rcases h with rfl | ⟨b, off, rfl, _⟩
    · simp at hl
    · exact dropA_some (by simp) g
  have hz : dropA a (n + 8) 8 = none → n = 0 := fun q => Decidable.byContradiction fun r => h0 ⟨q, r⟩
  have H2 := hidU (clone_any (dropA a (n + 8) 8) n n ((bs.drop 8).take n) w (h.piece (n + 8) 8 n (by omega)) hlen (Nat.le_refl _) hz (by omega))
  clear h h0 hz
  go_enter Try.func29, Try.ntmps29
  go_wp2_with (go_at_call 35; refine H1.out.mono ?_; rintro _ w1 ⟨rfl, rfl⟩; refine Hid.out ?_)
  refine hidU ?_
  clear H1
  go_wp2_with (go_at_call 36; refine H2.out.mono ?_; rintro _ w2 ⟨v, rfl, ho, hb⟩; refine Hid.out ?_)
  refine hidU ?_
  have HO := hidU ho
  have HB := hidU hb
  clear ho hb H2
  go_wp2
  go_ret
  exact ⟨v, rfl, HO.out, HB.out⟩
end Go.Proofs.Ytbehmclligkbhaa
