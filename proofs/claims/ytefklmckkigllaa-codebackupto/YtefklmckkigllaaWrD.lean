/- A node written. -/
import Derived.Test.YtefklmckkigllaaWrC
namespace Go.Proofs.Ytefklmckkigllaa
open Go.RowKit
set_option linter.unusedVariables false

/-- An instruction's bytes. -/
def encI (x : Ir) : List UInt8 := ub x.op :: ub x.arg.toNat :: (if x.op = 1 then encV x.v else [])
/-- A node's bytes. -/
def encN (x : Nd) : List UInt8 := bytesOf 2 x.code.length ++ x.code.flatMap encI ++ (ub x.kind.toNat :: ub x.arg.toNat :: (bytesOf 2 x.next.toNat ++ bytesOf 2 x.alt.toNat))
/-- What has room in its bytes. -/
def fitI (x : Ir) : Prop := x.Ok ∧ 0 ≤ x.arg ∧ x.arg < 256
def fitN (x : Nd) : Prop := x.code.length < 65536 ∧ (∀ y ∈ x.code, fitI y) ∧ (0 ≤ x.kind ∧ x.kind < 256) ∧ (0 ≤ x.arg ∧ x.arg < 256) ∧ (0 ≤ x.next ∧ x.next < 65536) ∧ (0 ≤ x.alt ∧ x.alt < 65536)
theorem encI_len (x : Ir) : (encI x).length ≤ 11 := by
  unfold encI
  split
  · simp [encV_len]
  · simp
theorem encI_one {x : Ir} (h : x.op = 1) : encI x = ub x.op :: ub x.arg.toNat :: encV x.v := by unfold encI; rw [if_pos h]
theorem encI_not {x : Ir} (h : ¬ x.op = 1) : encI x = [ub x.op, ub x.arg.toNat] := by unfold encI; rw [if_neg h]

set_option maxRecDepth 100000 in
set_option maxHeartbeats 6400000 in
theorem nodeW_any (B A g : Nat) (v : Value) (out : List UInt8) (x : NT) (hf : fitN x.nd) (w : World) (h : Wt A w g v out) (hx : x.In B w) (hBA : B ≤ A) (hlen : out.length + (encN x.nd).length ≤ 1099511627776) (hAw : A ≤ w.heap.size) :
    Calls Try.prog 61 #[.pointer (some ⟨g, 0, none⟩), .agg x.cells.toArray] w fun e w' => e = .returned (.tuple #[]) ∧ (∃ v', Wt A w' g v' (out ++ encN x.nd)) ∧ Fb A g w w' := by
  obtain ⟨a, c, ⟨ks, kind, arg, next, alt⟩⟩ := x
  obtain ⟨hk, hfi, ⟨hk1, hk2⟩, ⟨ha1, ha2⟩, ⟨hx1, hx2⟩, hl1, hl2⟩ := hf
  dsimp only at hk hfi hk1 hk2 ha1 ha2 hx1 hx2 hl1 hl2
  obtain ⟨kind, rfl⟩ : ∃ k : Nat, kind = (k : Int) := ⟨kind.toNat, by omega⟩
  obtain ⟨arg, rfl⟩ : ∃ k : Nat, arg = (k : Int) := ⟨arg.toNat, by omega⟩
  obtain ⟨next, rfl⟩ : ∃ k : Nat, next = (k : Int) := ⟨next.toNat, by omega⟩
  obtain ⟨alt, rfl⟩ : ∃ k : Nat, alt = (k : Int) := ⟨alt.toNat, by omega⟩
  have hkind : kind < 256 := by omega
  have harg : arg < 256 := by omega
  have hnext : next < 65536 := by omega
  have halt : alt < 65536 := by omega
  clear hk1 hk2 ha1 ha2 hx1 hx2 hl1 hl2
  have hlow := h.low
  have hgw : w.heap.size ≠ g := by have := h.lt; omega
  have hr : RowIr B w a c ks := hx.1
  have hcap : ks.length ≤ c := hr.2.1
  obtain ⟨n, hn⟩ : ∃ n, Hid (n = ks.length) := ⟨_, (rfl : ks.length = _)⟩
  have hEq : encN ⟨ks, (kind : Int), (arg : Int), (next : Int), (alt : Int)⟩ = bytesOf 2 n ++ ks.flatMap encI ++ (ub kind :: ub arg :: (bytesOf 2 next ++ bytesOf 2 alt)) := by rw [hn.out]; rfl
  rw [hEq] at hlen
  have HL : Hid (out.length + 2 + (ks.flatMap encI).length + 6 ≤ 1099511627776) := by
    simp only [List.length_append, List.length_cons, bytesOf_length] at hlen
    show _ ≤ _
    omega
  show Calls Try.prog 61 #[.pointer (some ⟨g, 0, none⟩), .agg (NT.cells ⟨a, c, ⟨ks, (kind : Int), (arg : Int), (next : Int), (alt : Int)⟩⟩).toArray] w fun e w' => e = .returned (.tuple #[]) ∧ (∃ v', Wt A w' g v' (out ++ encN ⟨ks, (kind : Int), (arg : Int), (next : Int), (alt : Int)⟩)) ∧ Fb A g w w'
  rw [hEq]
  simp only [NT.cells]
  rw [← hn.out] at hk hcap ⊢
  have HR : Hid (RowIr B w a c ks) := hr
  have HFI : Hid (∀ y ∈ ks, fitI y) := hfi
  have HW : Hid (Wt A w g v out) := h
  have hl2 : out.length + 2 ≤ 1099511627776 := by have := HL.out; omega
  clear h hr hEq hlen hfi hx
  go_enter Try.func61, Try.ntmps61
  go_wp2_with (first
    | ((with_reducible show wpList _ _ _ _ _ _); refine wpList_box_at rfl 49 (.tmp 1) rfl [.slice a n c, .int .i64 (kind : Int), .int .i64 (arg : Int), .int .i64 (next : Int), .int .i64 (alt : Int)] rfl ?_; intro w1 hA1 hb1 hs1; clear hs1; refine Hid.out ?_))
  refine hidU ?_
  have hW1 := HW.out.below hb1
  have hs1 := hb1.size
  obtain ⟨c0, -⟩ := node_box hA1
  clear HW
  go_wp2_with (first
    | (go_at_call 60; refine (big_any A g v out n hk _ hW1 hl2 (by omega)).mono ?_; rintro _ w2 ⟨rfl, ⟨v2, hW2⟩, hF2⟩; refine Hid.out ?_))
  refine hidU ?_
  have hA2 := hF2.at hA1 hgw (by decide)
  have hF2w : Fb A g w w2 := (Fb.of_below hb1).trans hF2
  have HW2 : Hid (Wt A w2 g v2 (out ++ bytesOf 2 n) ∧ Fb A g w w2) := ⟨hW2, hF2w⟩
  have HA2 : Hid (At 49 w2 w.heap.size [.slice a n c, .int .i64 (kind : Int), .int .i64 (arg : Int), .int .i64 (next : Int), .int .i64 (alt : Int)]) := hA2
  clear c0
  obtain ⟨c0, -⟩ := node_box hA2
  have hs2 := hF2.size
  clear hW1 hA1 hb1 hW2 hF2 hA2 hF2w
  go_wp2_with fail
  clear c0
  go_loopw [14] (fun j wr => ∃ i : Nat, j = .int .i64 (i : Int) ∧ i ≤ n ∧ Hid ((∃ v', Wt A wr g v' (out ++ bytesOf 2 n ++ (ks.take i).flatMap encI)) ∧ Fb A g w wr ∧ Fb A g w2 wr)) (fun j _ => n - (intOf j).toNat)
  case atStart => exact ⟨0, rfl, by omega, ⟨v2, by simpa using HW2.out.1⟩, HW2.out.2, Fb.refl _ _ _⟩
  case round =>
    obtain ⟨i, rfl, hi, hX⟩ := hrel
    by_cases hc : i < n
    · obtain ⟨s, hs⟩ : ∃ k, ks[i]? = some k := ⟨ks[i]'(by rw [← hn.out]; exact hc), by rw [List.getElem?_eq_getElem]⟩
      obtain ⟨⟨v3, hWr⟩, hFr, hFr2⟩ := hX.out
      obtain ⟨g1, o1, rfl, hlt, hr1, hok⟩ := (RowIr.old HR.out (hFr.old hlow hAw hBA)).at i s hs
      obtain ⟨hIok, hg0, hg1⟩ := HFI.out s (List.mem_of_getElem? hs)
      have hst := flat_step_le encI ks i s hs
      have htk := flat_take encI ks i s hs
      have hgr : wr.heap.size ≠ g := by have := hWr.lt; omega
      have hAr : A ≤ wr.heap.size := Nat.le_trans hAw hFr.size
      have hone := s.one
      obtain ⟨op, sa, ⟨st, sb⟩⟩ := s
      obtain ⟨ho, hia, hsv⟩ := hIok
      dsimp only at ho hg0 hg1
      obtain ⟨sa, rfl⟩ : ∃ k : Nat, sa = (k : Int) := ⟨sa.toNat, by omega⟩
      have hsa : sa < 256 := by omega
      have HTk : Hid ((ks.take (i + 1)).flatMap encI = (ks.take i).flatMap encI ++ encI ⟨op, (sa : Int), ⟨st, sb⟩⟩) := htk
      obtain ⟨O, hO⟩ : ∃ O, Hid (O = out ++ bytesOf 2 n ++ (ks.take i).flatMap encI) := ⟨_, (rfl : _ = out ++ bytesOf 2 n ++ (ks.take i).flatMap encI)⟩
      have hOl : O.length + (encI ⟨op, (sa : Int), ⟨st, sb⟩⟩).length ≤ 1099511627776 := by
        have := HL.out
        rw [hO.out]
        simp only [List.length_append, bytesOf_length]
        omega
      rw [← hO.out] at hWr
      have HWr : Hid (Wt A wr g v3 O ∧ Fb A g w wr ∧ Fb A g w2 wr) := ⟨hWr, hFr, hFr2⟩
      have HRel : Hid (∀ u v', Wt A u g v' (O ++ encI ⟨op, (sa : Int), ⟨st, sb⟩⟩) → Fb A g wr u → (∃ v', Wt A u g v' (out ++ bytesOf 2 n ++ (ks.take (i + 1)).flatMap encI)) ∧ Fb A g w u ∧ Fb A g w2 u) := fun u v' h1 h2 => ⟨⟨v', by rw [HTk.out, ← List.append_assoc, ← hO.out]; exact h1⟩, hFr.trans h2, hFr2.trans h2⟩
      have HV : Hid (∀ u v' P, Wt A u g v' P → P.length + 9 ≤ 1099511627776 → A ≤ u.heap.size → Calls Try.prog 76 #[.pointer (some ⟨g, 0, none⟩), .agg #[.int .u8 (st : Int), .int .u64 (sb : Int)]] u fun e w' => e = .returned (.tuple #[]) ∧ (∃ v', Wt A w' g v' (P ++ encV ⟨st, sb⟩)) ∧ Fb A g u w') := fun u v' P hu hl hA => valW_any A g v' P ⟨st, sb⟩ hsv u hu hl hA
      clear hX hWr hFr hFr2 htk hst hok HR HL hia hg0 hg1 HTk hO HFI hsv hs
      simp only [Ir.cells] at hr1 hone
      go_wp2_with (first
        | ((with_reducible show wpList _ _ _ _ _ _); refine wpList_load_mid (P := Try.prog) rfl 37 (.tmp 16) rfl g1 (o1 + i * 4) (by first | rfl | (simp; done)) [.int .u8 (op : Int), .int .i64 (sa : Int), .int .u8 (st : Int), .int .u64 (sb : Int)] _ hr1 Try.underlying37 rfl i37 ?_)
        | ((with_reducible show wpList _ _ _ _ _ _); refine wpList_alloc_at rfl 37 rfl _ 4 z37 ?_; intro y2 yA2 yb2 ys2)
        | ((with_reducible show wpList _ _ _ _ _ _); refine wpList_store_at (P := Try.prog) rfl 37 (.tmp 5) (.tmp 17) rfl wr.heap.size [.int .u8 (op : Int), .int .i64 (sa : Int), .int .u8 (st : Int), .int .u64 (sb : Int)] rfl rfl 37 _ yA2 i37 rfl hone ?_; intro w3 hA3 hb3 hs3; refine Hid.out ?_))
      refine hidU ?_
      have hB3 : Below wr.heap.size wr w3 := hb3.below yb2 (Nat.le_refl _) (by omega)
      have hW3 := HWr.out.1.below hB3
      have hF3 : Fb A g wr w3 := Fb.of_below hB3
      have hs3' := hB3.size
      clear hb3 yb2 yA2 hr1 ys2 hs3 hB3 hone
      have d0 : w3.cell? ⟨wr.heap.size, 0, none⟩ = some (.int .u8 (op : Int)) := by rw [hA3.cell]; rfl
      by_cases h1 : op = 1
      · have e1 : ((op : Int) == 1) = true := by rw [beq_iff_eq]; omega
        rw [encI_one (x := ⟨op, (sa : Int), ⟨st, sb⟩⟩) h1] at hOl HRel
        simp only [List.length_cons, encV_len] at hOl
        have HRel : Hid (∀ u v', Wt A u g v' (O ++ ub op :: ub sa :: encV ⟨st, sb⟩) → Fb A g wr u → (∃ v', Wt A u g v' (out ++ bytesOf 2 n ++ (ks.take (i + 1)).flatMap encI)) ∧ Fb A g w u ∧ Fb A g w2 u) := HRel
        clear h1
        go_wp2_with (first
          | (go_at_call 59; refine (small_any A g v3 O op ho _ hW3 (by omega) (by omega)).mono ?_; rintro _ w4 ⟨rfl, ⟨v4, hW4⟩, hF4⟩; refine Hid.out ?_))
        refine hidU ?_
        have hA4 := hF4.at hA3 hgr (by decide)
        have d1 : w4.cell? ⟨wr.heap.size, 1, none⟩ = some (.int .i64 (sa : Int)) := by rw [hA4.cell]; rfl
        have hs4 := hF4.size
        have hF34 := hF3.trans hF4
        clear d0 hA3 hF3 hF4 hW3
        go_wp2_with (first
          | (go_at_call 59; refine (small_any A g v4 _ sa hsa _ hW4 (by simp only [List.length_append, List.length_singleton]; omega) (by omega)).mono ?_; rintro _ w5 ⟨rfl, ⟨v5, hW5⟩, hF5⟩; refine Hid.out ?_))
        refine hidU ?_
        have hA5 := hF5.at hA4 hgr (by decide)
        have d0 : w5.cell? ⟨wr.heap.size, 0, none⟩ = some (.int .u8 (op : Int)) := by rw [hA5.cell]; rfl
        have d2 : w5.cell? ⟨wr.heap.size, 2, none⟩ = some (.int .u8 (st : Int)) := by rw [hA5.cell]; rfl
        have d3 : w5.cell? ⟨wr.heap.size, 3, none⟩ = some (.int .u64 (sb : Int)) := by rw [hA5.cell]; rfl
        have hs5 := hF5.size
        have hF35 := hF34.trans hF5
        clear d1 hA4 hF34 hF5 hW4 hA5
        go_wp2_with (first
          | (go_at_call 76; refine (HV.out _ _ _ hW5 (by simp only [List.length_append, List.length_singleton]; omega) (by omega)).mono ?_; rintro _ w6 ⟨rfl, ⟨v6, hW6⟩, hF6⟩; refine Hid.out ?_))
        refine hidU ?_
        have HQ := HRel.out w6 v6 (by have := hW6; simp only [List.append_assoc, List.singleton_append] at this; exact this) (hF35.trans hF6)
        have HQQ : Hid ((∃ v', Wt A w6 g v' (out ++ bytesOf 2 n ++ (ks.take (i + 1)).flatMap encI)) ∧ Fb A g w w6 ∧ Fb A g w2 w6) := HQ
        clear HQ hW6 hF6 hW5 hF35 d0 d2 d3 HV HRel HWr
        go_wp2
        go_roundw
        case rel => exact ⟨i + 1, by go_num, by omega, HQQ.out⟩
        case measure => simp [intOf]; omega
      · have e1 : ((op : Int) == 1) = false := by rw [beq_eq_false_iff_ne]; omega
        rw [encI_not (x := ⟨op, (sa : Int), ⟨st, sb⟩⟩) h1] at hOl HRel
        simp only [List.length_cons, List.length_nil] at hOl
        have HRel : Hid (∀ u v', Wt A u g v' (O ++ [ub op, ub sa]) → Fb A g wr u → (∃ v', Wt A u g v' (out ++ bytesOf 2 n ++ (ks.take (i + 1)).flatMap encI)) ∧ Fb A g w u ∧ Fb A g w2 u) := HRel
        clear h1
        go_wp2_with (first
          | (go_at_call 59; refine (small_any A g v3 O op ho _ hW3 (by omega) (by omega)).mono ?_; rintro _ w4 ⟨rfl, ⟨v4, hW4⟩, hF4⟩; refine Hid.out ?_))
        refine hidU ?_
        have hA4 := hF4.at hA3 hgr (by decide)
        have d1 : w4.cell? ⟨wr.heap.size, 1, none⟩ = some (.int .i64 (sa : Int)) := by rw [hA4.cell]; rfl
        have hs4 := hF4.size
        have hF34 := hF3.trans hF4
        clear d0 hA3 hF3 hF4 hW3
        go_wp2_with (first
          | (go_at_call 59; refine (small_any A g v4 _ sa hsa _ hW4 (by simp only [List.length_append, List.length_singleton]; omega) (by omega)).mono ?_; rintro _ w5 ⟨rfl, ⟨v5, hW5⟩, hF5⟩; refine Hid.out ?_))
        refine hidU ?_
        have hA5 := hF5.at hA4 hgr (by decide)
        have d0 : w5.cell? ⟨wr.heap.size, 0, none⟩ = some (.int .u8 (op : Int)) := by rw [hA5.cell]; rfl
        have HQ := HRel.out w5 v5 (by have := hW5; simp only [List.append_assoc, List.singleton_append] at this; exact this) (hF34.trans hF5)
        have HQQ : Hid ((∃ v', Wt A w5 g v' (out ++ bytesOf 2 n ++ (ks.take (i + 1)).flatMap encI)) ∧ Fb A g w w5 ∧ Fb A g w2 w5) := HQ
        clear HQ d1 hA4 hF34 hF5 hW4 hA5 hW5 HV HRel HWr
        go_wp2
        go_roundw
        case rel => exact ⟨i + 1, by go_num, by omega, HQQ.out⟩
        case measure => simp [intOf]; omega
    · have hin : i = n := by omega
      obtain ⟨⟨v3, hWr⟩, hFr, hFr2⟩ := hX.out
      rw [hin, hn.out, List.take_length, ← hn.out] at hWr
      have hA3 := hFr2.at HA2.out hgw (by decide)
      obtain ⟨-, c1, c2, c3, c4⟩ := node_box hA3
      have hAr : A ≤ wr.heap.size := Nat.le_trans hAw hFr.size
      obtain ⟨O, hO⟩ : ∃ O, Hid (O = out ++ bytesOf 2 n ++ ks.flatMap encI) := ⟨_, (rfl : _ = out ++ bytesOf 2 n ++ ks.flatMap encI)⟩
      have hOl : O.length + 6 ≤ 1099511627776 := by
        have := HL.out
        rw [hO.out]
        simp only [List.length_append, bytesOf_length]
        omega
      rw [← hO.out] at hWr
      have HEnd : Hid (∀ u v', Wt A u g v' (O ++ [ub kind] ++ [ub arg] ++ bytesOf 2 next ++ bytesOf 2 alt) → ∃ v', Wt A u g v' (out ++ (bytesOf 2 n ++ ks.flatMap encI ++ ub kind :: ub arg :: (bytesOf 2 next ++ bytesOf 2 alt)))) := fun u v' h => ⟨v', by
        rw [hO.out] at h
        simp only [List.append_assoc, List.cons_append, List.nil_append] at h ⊢
        exact h⟩
      clear hX HR HL hFr2 HA2 HW2 hO HFI hin
      go_wp2_with (first
        | (go_at_call 59; refine (small_any A g v3 O kind hkind _ hWr (by omega) hAr).mono ?_; rintro _ w4 ⟨rfl, ⟨v4, hW4⟩, hF4⟩; refine Hid.out ?_))
      refine hidU ?_
      have hA4 := hF4.at hA3 hgw (by decide)
      have hs4 := hF4.size
      have hFw4 := hFr.trans hF4
      clear c1 c2 c3 c4 hA3 hFr hF4 hWr
      obtain ⟨-, c1, c2, c3, c4⟩ := node_box hA4
      go_wp2_with (first
        | (go_at_call 59; refine (small_any A g v4 _ arg harg _ hW4 (by simp only [List.length_append, List.length_singleton]; omega) (by omega)).mono ?_; rintro _ w5 ⟨rfl, ⟨v5, hW5⟩, hF5⟩; refine Hid.out ?_))
      refine hidU ?_
      have hA5 := hF5.at hA4 hgw (by decide)
      have hs5 := hF5.size
      have hFw5 := hFw4.trans hF5
      clear c1 c2 c3 c4 hA4 hFw4 hF5 hW4
      obtain ⟨-, c1, c2, c3, c4⟩ := node_box hA5
      go_wp2_with (first
        | (go_at_call 60; refine (big_any A g v5 _ next hnext _ hW5 (by simp only [List.length_append, List.length_singleton]; omega) (by omega)).mono ?_; rintro _ w6 ⟨rfl, ⟨v6, hW6⟩, hF6⟩; refine Hid.out ?_))
      refine hidU ?_
      have hA6 := hF6.at hA5 hgw (by decide)
      have hs6 := hF6.size
      have hFw6 := hFw5.trans hF6
      clear c1 c2 c3 c4 hA5 hFw5 hF6 hW5
      obtain ⟨-, c1, c2, c3, c4⟩ := node_box hA6
      go_wp2_with (first
        | (go_at_call 60; refine (big_any A g v6 _ alt halt _ hW6 (by simp only [List.length_append, List.length_singleton, bytesOf_length]; omega) (by omega)).mono ?_; rintro _ w7 ⟨rfl, ⟨v7, hW7⟩, hF7⟩; refine Hid.out ?_))
      refine hidU ?_
      have hFw7 := hFw6.trans hF7
      have hEnd := HEnd.out w7 v7 hW7
      have HE2 : Hid (_ ∧ _) := ⟨hEnd, hFw7⟩
      clear c1 c2 c3 c4 hA6 hFw6 hF7 hW6 hW7 HEnd hEnd hFw7
      go_wp2
      go_end0
      exact ⟨rfl, HE2.out⟩

end Go.Proofs.Ytefklmckkigllaa
