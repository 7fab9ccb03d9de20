/- What of the library octet.Words calls: strings.Count and bytes.Cut at one byte. -/
import Derived.Lib.BytesEntry
import Derived.Test.YtjjojlfhliecnabWordsMath
namespace Go.Proofs.Ytjjojlfhliecnab
open Go.RowKit
set_option linter.unusedVariables false

theorem idx_first (l : List UInt8) (c : UInt8) : (Lib.indexByte l c = -1 ∧ ∀ j, j < l.length → l.getD j 0 ≠ c) ∨ ∃ i : Nat, Lib.indexByte l c = (i : Int) ∧ i < l.length ∧ l.getD i 0 = c ∧ ∀ j, j < i → l.getD j 0 ≠ c := by
  induction l with
  | nil => left; exact ⟨rfl, fun j h => by simp at h⟩
  | cons b l ih =>
    by_cases hb : b = c
    · right
      refine ⟨0, by simp [Lib.indexByte, hb], by simp, by simp [List.getD, hb], fun j h => by omega⟩
    · have hb' : (b == c) = false := by simpa using hb
      rcases ih with ⟨h1, h2⟩ | ⟨i, h1, h2, h3, h4⟩
      · left
        refine ⟨by simp [Lib.indexByte, hb', h1], fun j h => ?_⟩
        cases j with
        | zero => simpa [List.getD] using hb
        | succ j => have := h2 j (by simpa using h); simpa [List.getD] using this
      · right
        have hne : ((i : Int) == -1) = false := by rw [beq_eq_false_iff_ne]; omega
        refine ⟨i + 1, by simp [Lib.indexByte, hb', h1, hne], by simpa using h2, by simpa [List.getD] using h3, fun j h => ?_⟩
        cases j with
        | zero => simpa [List.getD] using hb
        | succ j => have := h4 j (by omega); simpa [List.getD] using this

set_option maxRecDepth 100000 in
set_option maxHeartbeats 800000 in
theorem count_any (s : ByteArray) (w : World) :
    Calls Try.prog 21 #[.string s, .string { data := #[32] }] w fun e w' => e = .returned (.int .i64 ((bytes s).count 32 : Nat)) ∧ w' = w := by
  have hcf : ∀ w, Sem.run Try.prog (callFunc 33 #[.string s, .int .u8 32]) w = .ok (.value (.int .i64 ((bytes s).count 32 : Nat))) w := fun w => by
    rw [run_callFunc_extern Try.func33 (by kernel_rfl) (by kernel_rfl) (by kernel_rfl) (e := Extern.BytealgCount.count) (by kernel_rfl), Lib.run_countString]
    rfl
  have h0 : (({ data := #[32] } : ByteArray)[0]'(by decide)).toNat = 32 := rfl
  go_enter Try.func21, Try.ntmps21
  go_wp2
  go_ret
  exact ⟨rfl, rfl⟩

/-- bytes.IndexByte and bytes.Index at one byte. -/
theorem index_run (b off cap : Nat) (bs : List UInt8) (w : World) (hc : ∀ j, j < bs.length → w.cell? ⟨b, off + j, none⟩ = some (.int .u8 ((bs.getD j 0).toNat : Int))) :
    Sem.run Try.prog (callFunc 52 #[.slice (some ⟨b, off, none⟩) bs.length cap, .int .u8 32]) w = .ok (.value (.int .i64 (Lib.indexByte bs 32))) w := by
  have e : Lib.bytesOf (bs.map fun b => (b.toNat : Int)) = bs := by
    unfold Lib.bytesOf
    rw [List.map_map]
    conv => rhs; rw [← List.map_id bs]
    apply List.map_congr_left
    intro x _
    simp
  rw [run_callFunc_extern Try.func52 (by kernel_rfl) (by kernel_rfl) (by kernel_rfl) (e := Extern.BytealgIndexByte.indexByte) (by kernel_rfl), Lib.run_indexByteSlice w b off bs.length cap (bs.map fun b => (b.toNat : Int)) (by simp) (fun i hi => by rw [hc i hi]; simp [List.getD, List.getElem?_map, List.getElem?_eq_getElem hi]), e]
  rfl

set_option maxRecDepth 100000 in
set_option maxHeartbeats 1600000 in
theorem bindex_any (b off cap g2 : Nat) (bs : List UInt8) (w : World) (hc : ∀ j, j < bs.length → w.cell? ⟨b, off + j, none⟩ = some (.int .u8 ((bs.getD j 0).toNat : Int))) (h2 : w.cell? ⟨g2, 0, none⟩ = some (.int .u8 32)) (i : Int) (hi : Hid (Lib.indexByte bs 32 = i)) :
    Calls Try.prog 35 #[.slice (some ⟨b, off, none⟩) bs.length cap, .slice (some ⟨g2, 0, none⟩) 1 1] w fun e w' => e = .returned (.int .i64 i) ∧ w' = w := by
  have hcf := index_run b off cap bs w hc
  rw [hi.out] at hcf
  clear hc hi
  go_enter Try.func35, Try.ntmps35
  go_wp2
  go_ret
  exact ⟨rfl, rfl⟩

theorem run_slice_from (w : World) (b off len cap l : Nat) (x : Int) (hx : x = (l : Int)) (hl : l ≤ len) (hlc : len ≤ cap) :
    (Instr.slice 22 (.slice (some ⟨b, off, none⟩) len cap) (some (.int .i64 x)) none none).run Try.prog w = .ok (.slice (some ⟨b, if cap = l then off else off + l, none⟩) (len - l) (cap - l)) w := by
  have he : Try.prog.elem 22 = 5 := by simp [Program.elem, Try.underlying22]
  rw [Go.run_slice_l w 22 _ len cap (by rw [he]; exact Try.underlying22) .i64 x (by omega) (by omega), he, size5]
  simp only [Result.andThen, sliced, Nat.mul_one]
  rw [show x.toNat = l by omega]
  by_cases h : cap = l
  · simp [h]
  · have ha : (⟨b, off, none⟩ : Addr).add l = ⟨b, off + l, none⟩ := by unfold Addr.add; split <;> simp_all
    simp [h, ha]

set_option maxRecDepth 100000 in
set_option maxHeartbeats 1600000 in
theorem cut_any (b off cap g2 : Nat) (bs : List UInt8) (w : World) (hc : ∀ j, j < bs.length → w.cell? ⟨b, off + j, none⟩ = some (.int .u8 ((bs.getD j 0).toNat : Int))) (h2 : w.cell? ⟨g2, 0, none⟩ = some (.int .u8 32)) (hcap : bs.length ≤ cap) (hmax : bs.length ≤ 1099511627776) :
    Calls Try.prog 22 #[.slice (some ⟨b, off, none⟩) bs.length cap, .slice (some ⟨g2, 0, none⟩) 1 1] w fun e w' =>
      ((e = .returned (.tuple #[.slice (some ⟨b, off, none⟩) bs.length cap, .slice none 0 0, .bool false]) ∧ Hid (splitB bs = [bs])) ∨
       ∃ (i off' : Nat), e = .returned (.tuple #[.slice (some ⟨b, off, none⟩) i cap, .slice (some ⟨b, off', none⟩) (bs.length - (i + 1)) (cap - (i + 1)), .bool true]) ∧ i < bs.length ∧ (i + 1 < bs.length → off' = off + (i + 1)) ∧ Hid (splitB bs = bs.take i :: splitB (bs.drop (i + 1)))) ∧ ∃ q, w' = w.drewN q := by
  rcases idx_first bs 32 with ⟨h1, hno⟩ | ⟨i, h1, hib, hat, hno⟩
  · have HI : Hid (Lib.indexByte bs 32 = -1) := h1
    have HS : Hid (splitB bs = [bs]) := splitB_last bs (fun j hj e => hno j hj (by apply UInt8.toNat_inj.1; rw [e]; rfl))
    clear h1 hno
    have HC : Hid (∀ j, j < bs.length → w.cell? ⟨b, off + j, none⟩ = some (.int .u8 ((bs.getD j 0).toNat : Int))) := hc
    clear hc
    go_enter Try.func22, Try.ntmps22
    go_wp2_with fail
    refine (bindex_any b off cap g2 bs w HC.out h2 (-1) HI).mono ?_
    rintro e w1 ⟨rfl, rfl⟩
    go_wp2
    go_ret3
    exact ⟨.inl ⟨rfl, HS⟩, 0, rfl⟩
  · have HI : Hid (Lib.indexByte bs 32 = (i : Int)) := h1
    have HS : Hid (splitB bs = bs.take i :: splitB (bs.drop (i + 1))) := splitB_cut bs i hib (fun j hj e => hno j hj (by apply UInt8.toNat_inj.1; rw [e]; rfl)) (by rw [hat]; rfl)
    clear h1 hno hat
    have HC : Hid (∀ j, j < bs.length → w.cell? ⟨b, off + j, none⟩ = some (.int .u8 ((bs.getD j 0).toNat : Int))) := hc
    clear hc
    have hs1 := fun W => run_slice_to W (some ⟨b, off, none⟩) bs.length cap i (i : Int) rfl (by omega)
    have hs2 := fun W => run_slice_from W b off bs.length cap (i + 1) ((i : Int) + 1) (by omega) (by omega) hcap
    have hw1 : IntKind.i64.wrap ((i : Int) + 1) = (i : Int) + 1 := by rw [IntKind.wrap_i64]; omega
    obtain ⟨off', hoff⟩ : ∃ o, o = if cap = i + 1 then off else off + (i + 1) := ⟨_, rfl⟩
    rw [← hoff] at hs2
    have HOFF : Hid (i + 1 < bs.length → off' = off + (i + 1)) := by
      show _ → _
      intro h
      rw [hoff, if_neg (by omega)]
    clear hoff
    go_enter Try.func22, Try.ntmps22
    go_wp2_with fail
    refine (bindex_any b off cap g2 bs w HC.out h2 (i : Int) HI).mono ?_
    rintro e w1 ⟨rfl, rfl⟩
    go_wp2
    go_quiet (fail)
    go_wp2
    go_ret3
    exact ⟨.inr ⟨i, off', rfl, hib, HOFF.out, HS⟩, _, rfl⟩

set_option maxRecDepth 100000 in
set_option maxHeartbeats 1600000 in
theorem isLine_any (s : ByteArray) (w : World) (hs : s.size ≤ 1099511627776) :
    Calls Try.prog 20 #[.string s] w fun e w' => e = .returned (.bool (lineOk true (bytes s))) ∧ w' = w := by
  go_enter Try.func20, Try.ntmps20
  go_wp2
  go_loop [3, 7] (fun t i => ∃ (k : Nat) (b : Bool), k ≤ s.size ∧ i = .int .i64 k ∧ t = .bool b ∧ Hid (lineOk true (bytes s) = lineOk b ((bytes s).drop k))) (fun _ i => s.size - (intOf i).toNat)
  case atStart => exact ⟨0, true, Nat.zero_le _, rfl, rfl, rfl⟩
  case round =>
    obtain ⟨k, b, hk, rfl, rfl, hl⟩ := hrel
    by_cases hlt : k < s.size
    · obtain ⟨c, hc⟩ : ∃ c : Nat, s[k].toNat = c := ⟨_, rfl⟩
      have hcl : c < 256 := by rw [← hc]; exact UInt8.toNat_lt _
      have hdr : (bytes s).drop k = (bytes s).getD k 0 :: (bytes s).drop (k + 1) := by
        rw [List.drop_eq_getElem_cons (show k < (bytes s).length by rw [bytes_length]; exact hlt)]
        simp [List.getD, List.getElem?_eq_getElem (show k < (bytes s).length by rw [bytes_length]; exact hlt)]
      have hcn : ((bytes s).getD k 0).toNat = c := by rw [bytes_at s k hlt]; exact hc
      have HL : Hid (lineOk true (bytes s) = if c < 32 ∨ 126 < c ∨ (c = 32 ∧ b = true) then false else lineOk (c == 32) ((bytes s).drop (k + 1))) := by
        show _ = _
        rw [hl.out, hdr, lineOk, hcn]
      clear hl hdr hcn
      by_cases h32 : c < 32
      · have HF : Hid (lineOk true (bytes s) = false) := by show _ = _; rw [HL.out, if_pos (.inl h32)]
        clear HL
        go_wp2
        go_ret
        exact ⟨by rw [HF.out]; rfl, rfl⟩
      · have g1 : decide ((c : Int) < 32) = false := by simp; omega
        by_cases h126 : 126 < c
        · have HF : Hid (lineOk true (bytes s) = false) := by show _ = _; rw [HL.out, if_pos (.inr (.inl h126))]
          clear HL
          go_wp2
          go_ret
          exact ⟨by rw [HF.out]; rfl, rfl⟩
        · have g2 : decide (126 < (c : Int)) = false := by simp; omega
          by_cases he : c = 32
          · have g3 : ((c : Int) == 32) = true := by rw [beq_iff_eq]; omega
            cases b with
            | true =>
              have HF : Hid (lineOk true (bytes s) = false) := by show _ = _; rw [HL.out, if_pos (.inr (.inr ⟨he, rfl⟩))]
              clear HL he
              go_wp2
              go_ret
              exact ⟨by rw [HF.out]; rfl, rfl⟩
            | false =>
              have HF : Hid (lineOk true (bytes s) = lineOk true ((bytes s).drop (k + 1))) := by
                show _ = _
                rw [HL.out, if_neg (by simp; omega)]
                simp [he]
              clear HL he
              go_wp2
              go_round
              case rel => exact ⟨k + 1, true, by omega, by go_num, rfl, HF⟩
              case measure => simp [intOf]; omega
          · have g3 : ((c : Int) == 32) = false := by rw [beq_eq_false_iff_ne]; omega
            have HF : Hid (lineOk true (bytes s) = lineOk false ((bytes s).drop (k + 1))) := by
              show _ = _
              rw [HL.out, if_neg (by omega)]
              congr 1
              simpa using he
            clear HL he
            go_wp2
            go_round
            case rel => exact ⟨k + 1, false, by omega, by go_num, rfl, HF⟩
            case measure => simp [intOf]; omega
    · have HF : Hid (lineOk true (bytes s) = !b) := by show _ = _; rw [hl.out, List.drop_eq_nil_of_le (by rw [bytes_length]; omega)]; rfl
      clear hl
      go_wp2
      go_ret
      exact ⟨by rw [HF.out]; rfl, rfl⟩

end Go.Proofs.Ytjjojlfhliecnab
