/- The law DigestPieces, walked. -/
import Derived.Test.YtbigkblkfnnfkaaDoorKnown
namespace Go.Proofs.YtbigkblkfnnfkaaDoor
open Go.RowKit
set_option linter.unusedVariables false

theorem hexOf_at (d : List UInt8) : ∀ k, k < d.length → (hexOf d).getD (2 * k) 0 = ub (hdN ((d.getD k 0).toNat / 16)) ∧ (hexOf d).getD (2 * k + 1) 0 = ub (hdN ((d.getD k 0).toNat % 16)) := by
  induction d with
  | nil => intro k h; simp at h
  | cons b l ih =>
    intro k h
    cases k with
    | zero => exact ⟨rfl, rfl⟩
    | succ k =>
      have := ih k (by simpa using h)
      rw [show 2 * (k + 1) = 2 * k + 1 + 1 by omega]
      exact this

theorem dv_hd : ∀ j : Nat, j < 16 → dv (ub (hdN j)).toNat = j := by decide +kernel

theorem unz_hex (d : List UInt8) (h : d.length = 32) (k : Nat) (hk : k ≤ 32) : unz (hexOf d) k = d.take k ++ List.replicate (32 - k) 0 := by
  induction k with
  | zero => simp [unz]
  | succ k ih =>
    have h2 := hexOf_at d k (by omega)
    have hb := UInt8.toNat_lt (d.getD k 0)
    rw [unz, ih (by omega), h2.1, h2.2, dv_hd _ (by omega), dv_hd _ (by omega), show 32 - k = (32 - (k + 1)) + 1 by omega, List.replicate_succ, List.set_append_right _ _ (by simp; omega)]
    have hl : (d.take k).length = k := by rw [List.length_take]; omega
    rw [hl, Nat.sub_self, List.set_cons_zero, take_snoc d k (by omega), List.append_assoc]
    congr 2
    rw [show 16 * ((d.getD k 0).toNat / 16) + (d.getD k 0).toNat % 16 = (d.getD k 0).toNat by omega]
    simp [ub]

theorem parsed_hex (d : List UInt8) (h : d.length = 32) : parsed (hexOf d) = .tuple #[.agg (d.map B8).toArray, .int .i64 0] := by
  have hu := unz_hex d h 32 (Nat.le_refl _)
  rw [Nat.sub_self, List.take_of_length_le (by omega)] at hu
  simp at hu
  have hall : (List.range 64).all (fun i => decide (dv ((hexOf d).getD i 0).toNat < 16)) = true := by
    refine List.all_eq_true.2 (fun i hi => decide_eq_true ?_)
    have hi := List.mem_range.1 hi
    have hb := UInt8.toNat_lt (d.getD (i / 2) 0)
    have h2 := hexOf_at d (i / 2) (by omega)
    rcases Nat.mod_two_eq_zero_or_one i with hm | hm
    · rw [show i = 2 * (i / 2) by omega, h2.1, dv_hd _ (by omega)]; omega
    · rw [show i = 2 * (i / 2) + 1 by omega, h2.2, dv_hd _ (by omega)]; omega
  unfold parsed parse
  rw [if_pos ⟨by rw [hexOf_length, h], hall⟩, hu]

theorem write_or (g : Nat) (a : Option Addr) (cap n : Nat) (m bs : List UInt8) (hn : bs.length = n) (w : World) (hH : HashIs w g m) (hrow : Row w a bs) (hbg : ∀ b off, a = some ⟨b, off, none⟩ → b ≠ g ∨ bs = []) (hcap : bs.length ≤ cap) (hmax : m.length + bs.length ≤ 1099511627776) (hR : Roots w) (hg0 : 0 < g) :
    Calls Tryd.prog 24 #[.pointer (some ⟨g, 0, none⟩), .slice a n cap] w fun e w' => e = .returned (.int .i64 0) ∧ HashIs w' g (m ++ bs) ∧ But g w w' := by
  subst hn
  by_cases h0 : bs = []
  · subst h0
    go_enter Tryd.func24, Tryd.ntmps24
    go_wp2_with (first | (go_at_call 42; refine (isMade_yes g m _ hH).mono ?_; rintro e w9 ⟨rfl, hw9⟩; have hw9' := hw9.symm; subst hw9') | (go_at_call 32; refine (put_none g a cap _).mono ?_; rintro e w8 ⟨rfl, hw8⟩; have hw8' := hw8.symm; subst hw8'))
    go_ret
    exact ⟨rfl, by simpa using hH, But.refl _ _⟩
  · exact write_yes g a cap m bs w hH hrow (fun b off h => (hbg b off h).resolve_right h0) hcap hmax hR hg0

theorem slice_any (ad : Option Addr) (R c n : Nat) (hn : n ≤ R) : ∃ A : Option Addr, (∀ u, (Instr.slice 22 (.slice ad R c) (some (.int .i64 (n : Int))) none none).run Tryd.prog u = .ok (.slice A (R - n) (c - n)) u) ∧ (∀ b off, ad = some ⟨b, off, none⟩ → n < R → R ≤ c → A = some ⟨b, off + n, none⟩) := by
  have he : Tryd.prog.elem 22 = 5 := by simp [Program.elem, Tryd.underlying22]
  refine ⟨if c = n then ad else ad.map (fun p => p.add n), fun u => ?_, fun b off h h1 h2 => by rw [if_neg (by omega), h]; simp [Addr.add_mid]⟩
  rw [run_slice_l u 22 ad R c (by rw [he]; exact Tryd.underlying22) .i64 (n : Int) (by omega) (by omega), he, size5]
  by_cases h : c = n
  · simp [Result.andThen, sliced, h]
  · simp [Result.andThen, sliced, h]

theorem Row.take {w : World} {a : Option Addr} {bs : List UInt8} (h : Row w a bs) (n : Nat) : Row w a (bs.take n) := by
  rcases h with rfl | ⟨b, off, rfl, hc⟩
  · exact .inl (by simp)
  · refine .inr ⟨b, off, rfl, fun j hj => ?_⟩
    have hj' : j < bs.length := by simp at hj; omega
    have hjn : j < n := by simp at hj; omega
    rw [hc j hj']
    simp [List.getD, List.getElem?_take_of_lt hjn]

set_option maxRecDepth 100000 in
set_option maxHeartbeats 1600000 in
theorem pieces_walk (a : Option Addr) (cap : Nat) (bs : List UInt8) (a2 : Option Addr) (cap2 : Nat) (zs : List Int) (w : World) (hrow : Row w a bs) (hcap : bs.length ≤ cap) (hmax : bs.length ≤ 20000)
    (hcut : zs = [] ∨ ∃ b off, a2 = some ⟨b, off, none⟩ ∧ ∀ j, j < zs.length → w.cell? ⟨b, off + j, none⟩ = some (.int .i64 (zs.getD j 0))) (hzs : zs.length ≤ 100) (hwf : ∀ z ∈ zs, -9223372036854775808 ≤ z ∧ z ≤ 9223372036854775807) (hR : Roots w) :
    Calls Tryd.prog 8 #[.slice a bs.length cap, .slice a2 zs.length cap2] w fun e w' => e = .returned (.bool true) ∧ Below w.heap.size w w' := by
  have hpos := hR.pos
  have d1 : decide (20000 < (bs.length : Int)) = false := by simp; omega
  have d2 : decide (100 < (zs.length : Int)) = false := by simp; omega
  have HC : Hid (zs = [] ∨ ∃ b off, a2 = some ⟨b, off, none⟩ ∧ ∀ j, j < zs.length → w.cell? ⟨b, off + j, none⟩ = some (.int .i64 (zs.getD j 0))) := hcut
  have HW : Hid (∀ z ∈ zs, -9223372036854775808 ≤ z ∧ z ≤ 9223372036854775807) := hwf
  clear hcut hwf
  go_enter Tryd.func8, Tryd.ntmps8
  go_wp2_with (first | (go_at_call 30; refine (known_walk _ hR).mono ?_; rintro e w1 ⟨rfl, hb1⟩) | (go_at_call 23; refine (new_any _).mono ?_; rintro e w2 ⟨g, rfl, hg2, hH2, hb2⟩))
  have hg0 : 0 < g := by have := hb1.size; omega
  have hgw : Hid (w.heap.size ≤ g) := Nat.le_trans hb1.size hg2
  have hbw2 : Below w.heap.size w w2 := hb1.trans (hb2.mono hb1.size)
  clear hb1 hb2 hg2
  go_loopw [7, 8] (fun v t wr => ∃ (k j : Nat) (ad : Option Addr) (c : Nat), k ≤ zs.length ∧ t = .int .i64 k ∧ j ≤ bs.length ∧ v = .slice ad (bs.length - j) c ∧ bs.length - j ≤ c ∧ Hid (Row w ad (bs.drop j) ∧ (∀ b off, ad = some ⟨b, off, none⟩ → b ≠ g ∨ bs.drop j = [])) ∧ HashIs wr g (bs.take j) ∧ Below w.heap.size w wr) (fun _ t _ => zs.length - (intOf t).toNat)
  case atStart =>
    refine ⟨0, 0, a, cap, Nat.zero_le _, rfl, Nat.zero_le _, rfl, hcap, ⟨by simpa using hrow, fun b off h => ?_⟩, by simpa using hH2, hbw2⟩
    rcases hrow with h0 | ⟨b', off', e, hc⟩
    · right; rw [h0]; rfl
    · by_cases h0 : bs.length = 0
      · right; rw [List.eq_nil_of_length_eq_zero h0]; rfl
      · left
        rw [h] at e
        cases e
        have := lt_of_cell (hc 0 (by omega))
        have := hgw.out
        simp at *
        omega
  case round =>
    obtain ⟨k, j, ad, c, hk, rfl, hj, rfl, hcj, hrest, hH, hbl⟩ := hrel
    clear hH2 hbw2
    obtain ⟨R, hRr⟩ : ∃ R, Hid (R = bs.length - j) := ⟨_, rfl⟩
    have hRb : R ≤ 20000 := by rw [hRr.out]; omega
    have hRc : R ≤ c := by rw [hRr.out]; exact hcj
    rw [← hRr.out]
    by_cases hlt : k < zs.length
    · obtain ⟨b, off, rfl, hcs⟩ : ∃ b off, a2 = some ⟨b, off, none⟩ ∧ ∀ j, j < zs.length → w.cell? ⟨b, off + j, none⟩ = some (.int .i64 (zs.getD j 0)) := by
        rcases HC.out with h0 | h
        · rw [h0] at hlt; simp at hlt
        · exact h
      have hz := HW.out (zs.getD k 0) (by simp [List.getD, List.getElem?_eq_getElem hlt])
      have hcell : wr.cell? ⟨b, off + k, none⟩ = some (.int .i64 (zs.getD k 0)) := by rw [hbl.cell (lt_of_cell (hcs k hlt))]; exact hcs k hlt
      obtain ⟨z, hzz⟩ : ∃ z, Hid (z = zs.getD k 0) := ⟨_, rfl⟩
      rw [← hzz.out] at hcell hz
      clear hcs
      by_cases hneg : z < 0
      · have t1 : decide (z < 0) = true := by simp; omega
        go_wp2
        go_roundw
        case rel => exact ⟨k + 1, j, ad, c, by omega, by go_num, hj, by rw [hRr.out], hcj, hrest, hH, hbl⟩
        case measure => simp [intOf]; omega
      · obtain ⟨n, rfl⟩ : ∃ n : Nat, z = (n : Int) := ⟨z.toNat, by omega⟩
        have t1 : decide ((n : Int) < 0) = false := decide_eq_false (by omega)
        by_cases hbig : R < n
        · have t2 : decide ((R : Int) < (n : Int)) = true := by simp; omega
          go_wp2
          go_roundw
          case rel => exact ⟨k + 1, j, ad, c, by omega, by go_num, hj, by rw [hRr.out], hcj, hrest, hH, hbl⟩
          case measure => simp [intOf]; omega
        · have t2 : decide ((R : Int) < (n : Int)) = false := by simp; omega
          have hsl1 := fun u => run_slice_to u ad R c n (n : Int) rfl (by omega)
          obtain ⟨A, hsl2, hA⟩ := slice_any ad R c n (by omega)
          have hA' : Hid _ := hA
          clear hA
          obtain ⟨ch, hch⟩ : ∃ ch, Hid (ch = (bs.drop j).take n) := ⟨_, rfl⟩
          have hcl : Hid (ch.length = n) := by show _ = _; rw [hch.out, List.length_take, List.length_drop, ← hRr.out]; omega
          have hmore : Hid (bs.take (j + n) = bs.take j ++ ch) := by show _ = _; rw [hch.out, List.take_add]
          have hrowc : Row wr ad ch := by rw [hch.out]; exact (hrest.out.1.take n).below hbl
          have hbgc : Hid (∀ b off, ad = some ⟨b, off, none⟩ → b ≠ g ∨ ch = []) := by
            intro b off h
            rcases hrest.out.2 b off h with h1 | h1
            · exact .inl h1
            · right; rw [hch.out, h1]; simp
          have hnext : Hid (Row w A (bs.drop (j + n)) ∧ (∀ b off, A = some ⟨b, off, none⟩ → b ≠ g ∨ bs.drop (j + n) = [])) := by
            by_cases hnR : n < R
            · rcases hrest.out.1 with h0 | ⟨b, off, e, hc⟩
              · exfalso
                have := congrArg List.length h0
                simp at this
                have := hRr.out
                omega
              · have hAe := hA'.out b off e hnR hRc
                refine ⟨.inr ⟨b, off + n, hAe, fun i hi => ?_⟩, fun b' off' h => ?_⟩
                · have := hc (n + i) (by simp at hi ⊢; omega)
                  rw [Nat.add_assoc, this]
                  simp [List.getD, Nat.add_assoc]
                · rw [hAe] at h
                  cases h
                  rcases hrest.out.2 b off e with h1 | h1
                  · exact .inl h1
                  · exfalso
                    have := congrArg List.length h1
                    simp at this
                    have := hRr.out
                    omega
            · have h0 : bs.drop (j + n) = [] := List.drop_of_length_le (by have := hRr.out; omega)
              exact ⟨.inl h0, fun _ _ _ => .inr h0⟩
          have hRw := hR.below hbl
          have hjn : Hid (j + n ≤ bs.length ∧ R - n = bs.length - (j + n) ∧ bs.length - (j + n) ≤ c - n) := by have := hRr.out; show _ ∧ _; omega
          have hlen : (bs.take j).length + ch.length ≤ 1099511627776 := by have := hcl.out; simp; omega
          clear hrow hrest
          go_wp2_with (first | (go_at_call 24; refine (write_or g ad c n (bs.take j) ch hcl.out _ hH hrowc hbgc.out (by have := hcl.out; omega) hlen hRw hg0).mono ?_; rintro e w5 ⟨rfl, hH5, hb5⟩))
          go_roundw
          case rel => exact ⟨k + 1, j + n, A, c - n, by omega, by go_num, hjn.out.1, by rw [← hjn.out.2.1], hjn.out.2.2, hnext, by rw [hmore.out]; exact hH5, hb5.below hbl hgw.out hbl.size⟩
          case measure => simp [intOf]; omega
    · have hRw := hR.below hbl
      have hlen : (bs.take j).length + (bs.drop j).length ≤ 1099511627776 := by simp; omega
      have hrowc : Row wr ad (bs.drop j) := hrest.out.1.below hbl
      have hbgc : Hid (∀ b off, ad = some ⟨b, off, none⟩ → b ≠ g ∨ bs.drop j = []) := hrest.out.2
      obtain ⟨ds, hds⟩ : ∃ ds, Hid (ds = sha bs) := ⟨_, rfl⟩
      have hdl : ds.length = 32 := by rw [hds.out]; exact sha_length _
      have hid := i25' ds hdl
      have hod : dig0.length = (ds.map B8).length := by rw [List.length_map, hdl]; rfl
      have hpx := parsed_hex ds hdl
      obtain ⟨tx, htx⟩ : ∃ tx, Hid (hexOf ds = tx) := ⟨_, rfl⟩
      have htl : tx.length = 64 := by rw [← htx.out, hexOf_length, hdl]
      rw [htx.out] at hpx
      have hpx' : Hid _ := hpx
      clear hpx hrest
      go_wp2_with (first | (go_at_call 24; refine (write_or g ad c R (bs.take j) (bs.drop j) (by rw [hRr.out]; simp) _ hH hrowc hbgc.out (by rw [List.length_drop, ← hRr.out]; exact hRc) hlen hRw hg0).mono ?_; rintro e w5 ⟨rfl, hH5, hb5⟩; rw [List.take_append_drop] at hH5; have hbl5 := hb5.below hbl hgw.out hbl.size) | (go_at_call 10; refine (sum_hid a cap bs ds hds _ (hrow.below hbl5) hcap (by omega) (hR.below hbl5)).mono ?_; rintro e w6 ⟨rfl, hb6⟩) | ((with_reducible show wpList _ _ _ _ _ _); refine wpList_alloc_at (o := { dst := some 10, .. }) rfl 25 rfl dig0 32 z25 ?_; intro w7 hA7 hb7 hs7) | ((with_reducible show wpList _ _ _ _ _ _); refine wpList_store_at (P := Tryd.prog) rfl 25 (.tmp 10) (.tmp 59) rfl w6.heap.size (ds.map B8) rfl rfl 25 dig0 hA7 hid hod (b8_one _) ?_; intro w8 hA8 hb8 hs8) | ((with_reducible show wpList _ _ _ _ _ _); refine wpList_load_at (P := Tryd.prog) rfl 25 (.tmp 10) rfl w6.heap.size rfl 25 (ds.map B8) hA8 _ Tryd.underlying25 rfl hid ?_) | (go_at_call 19; refine (text_lit ds hdl tx htx _).mono ?_; rintro e w9 ⟨rfl, hb9⟩) | (go_at_call 15; refine (parse_lit tx _ hpx' (by omega) _).mono ?_; rintro e w10 ⟨rfl, hb10⟩) | ((with_reducible show wpList _ _ _ _ _ _); refine wpList_alloc_at rfl 25 rfl dig0 32 z25 ?_; intro w11 hA11 hb11 hs11) | ((with_reducible show wpList _ _ _ _ _ _); refine wpList_store_at (P := Tryd.prog) rfl 25 (.tmp 11) (.tmp 64) rfl w10.heap.size (ds.map B8) rfl rfl 25 dig0 hA11 hid hod (b8_one _) ?_; intro w12 hA12 hb12 hs12))
      have z6 := hb6.size
      have z9 := hb9.size
      have z10 := hb10.size
      have hgl : g < w5.heap.size := hH5.lt
      have hbw8 : Below w.heap.size w w8 := hb8.below ((hbl5.trans (hb6.mono hbl5.size)).trans (hb7.mono (Nat.le_trans hbl5.size z6))) (Nat.le_trans hbl5.size z6) (by have := hbl5.size; omega)
      have zw := hbw8.size
      have hbw12 : Below w.heap.size w w12 := hb12.below (((hbw8.trans (hb9.mono (by omega))).trans (hb10.mono (by omega))).trans (hb11.mono (by omega))) (by omega) (by omega)
      have hH8 : HashIs w8 g bs := ((hH5.below hb6).below hb7).but hb8 (by omega)
      have hH12 : HashIs w12 g bs := (((hH8.below hb9).below hb10).below hb11).but hb12 (by omega)
      have hA812 : At 25 w12 w6.heap.size (ds.map B8) := hb12.at (((hA8.below hb9).below hb10).below hb11) (by omega)
      have hRB : Roots w12 := hR.below hbw12
      have hS12 : w12.rangeAt w6.heap.size 0 (ds.map B8) ∧ w12.rangeAt w10.heap.size 0 (ds.map B8) ∧ w12.rangeAt w6.heap.size 0 (ds.map B8) ∧ Below w12.heap.size w12 w12 := ⟨hA812.range, hA12.range, hA812.range, Below.refl _ _⟩
      obtain ⟨g6, hg6⟩ : ∃ g6, g6 = w6.heap.size := ⟨_, rfl⟩
      obtain ⟨g10, hg10⟩ : ∃ g10, g10 = w10.heap.size := ⟨_, rfl⟩
      obtain ⟨wB, hwB⟩ : ∃ wB, wB = w12 := ⟨_, rfl⟩
      rw [← hg6, ← hg10] at hS12
      rw [← hg6, ← hg10, ← hwB]
      rw [← hwB] at hS12 hRB hH12 hbw12
      have hSB := drewS hS12
      have qdd : ∀ u, (Op.equalIn 10000 25 (.agg (ds.map B8).toArray) (.agg (ds.map B8).toArray)).run Tryd.prog u = .ok true u := fun u => by rw [run_same ds ds hdl hdl u]; simp
      have hts : (⟨tx.toArray⟩ : ByteArray).size = 64 := by rw [← htl]; simp [ByteArray.size]
      have hLL : ((bs.length : Int) == (bs.length : Int)) = true := by simp
      have cHsum : Hid (∀ u : World, (u.rangeAt g6 0 (ds.map B8) ∧ u.rangeAt g10 0 (ds.map B8) ∧ u.rangeAt g6 0 (ds.map B8) ∧ Below wB.heap.size wB u) → Calls Tryd.prog 27 #[.pointer (some ⟨g, 0, none⟩)] u fun e w' => e = .returned (.agg (ds.map B8).toArray) ∧ Below u.heap.size u w') := fun u h => hsum_hid g bs ds hds u (hH12.below h.2.2.2) (by omega) (hRB.below h.2.2.2)
      have cLen : Hid (∀ u : World, (u.rangeAt g6 0 (ds.map B8) ∧ u.rangeAt g10 0 (ds.map B8) ∧ u.rangeAt g6 0 (ds.map B8) ∧ Below wB.heap.size wB u) → Calls Tryd.prog 29 #[.pointer (some ⟨g, 0, none⟩)] u fun e w' => e = .returned (.int .i64 (bs.length : Int)) ∧ Below u.heap.size u w') := fun u h => (len_yes g bs u (hH12.below h.2.2.2)).mono fun e w' ⟨h1, h2⟩ => ⟨h1, by rw [h2]; exact Below.refl _ _⟩
      clear hA7 hA8 hA11 hA12 hb5 hb6 hb7 hb8 hb9 hb10 hb11 hb12 hs7 hs8 hs11 hs12 hH hH5 hH8 hbl hbl5 hbw8 hA812 hS12 hg6 hg10 hwB z6 z9 z10 zw hgl hrowc hRw hlen hrow hod htl
      refine wp_region_held_drew (S := fun w' => w'.rangeAt g6 0 (ds.map B8) ∧ w'.rangeAt g10 0 (ds.map B8) ∧ w'.rangeAt g6 0 (ds.map B8) ∧ Below wB.heap.size wB w') (by kernel_rfl) hSB (fun _ => ?_)
      refine wpAnyH_take (i := 0) (oi := { dst := some 66, op := .move (.tmp 5), type := _, pos := _, after := _, guard := none }) (v := .bool true) rfl (by kernel_rfl) (by kernel_rfl) (by kernel_rfl) (fun _ _ _ h => h) (Or.inl ⟨by rfl, ?_⟩) hSB ?_
      · intro w hSw
        go_simp
      simp only [Act.put, List.setIfInBounds_toArray, List.set_cons_zero, List.set_cons_succ]
      refine wpAnyH_take (i := 1) (oi := { dst := some 67, op := .move (.tmp 66), type := _, pos := _, after := _, guard := none }) (v := .bool true) rfl (by kernel_rfl) (by kernel_rfl) (by kernel_rfl) (fun _ _ _ h => h) (Or.inl ⟨by rfl, ?_⟩) hSB ?_
      · intro w hSw
        go_simp
      simp only [Act.put, List.setIfInBounds_toArray, List.set_cons_zero, List.set_cons_succ]
      refine wpAnyH_take (i := 2) (oi := { dst := some 68, op := .move (.tmp 6), type := _, pos := _, after := _, guard := some (1, true) }) (v := .pointer (some ⟨g, 0, none⟩)) rfl (by kernel_rfl) (by kernel_rfl) (by kernel_rfl) (fun _ _ _ h => h) (Or.inl ⟨by rfl, ?_⟩) hSB ?_
      · intro w hSw
        go_simp
      simp only [Act.put, List.setIfInBounds_toArray, List.set_cons_zero, List.set_cons_succ]
      refine wpAnyH_take (i := 4) (oi := { dst := some 70, op := .load 25 (.tmp 10), type := _, pos := _, after := _, guard := some (1, true) }) rfl (by kernel_rfl) (by kernel_rfl) (by kernel_rfl) (fun _ _ _ h => h) (yieldsIf_load_mid (by rfl) 25 (.tmp 10) rfl g6 0 rfl (ds.map B8) _ (fun w hSw => hSw.1) Tryd.underlying25 rfl hid) hSB ?_
      simp only [Act.put, List.setIfInBounds_toArray, List.set_cons_zero, List.set_cons_succ]
      refine wpAnyH_ready (rs := [3]) (by kernel_rfl) (by simp) ?_
      refine AllReadyH.cons (o := { dst := some 69, op := .call { callee := .value (.func 27), args := #[.tmp 68], argTypes := #[44] }, type := _, pos := _, after := _, guard := some (1, true) }) rfl (fun K hK => ?_) AllReadyH.nil
      rw [if_pos (by rfl)]
      go_wp2_with (go_at_call 27; refine (cHsum.out _ hSB).mono ?_; rintro e w20 ⟨rfl, hb20⟩)
      have hS20 := keepS hb20 hSB
      refine hK.out _ _ hS20 (fun _ => ?_)
      refine wpAnyH_take (i := 5) (oi := { dst := some 71, op := .binOp .eql 25 (.tmp 69) (.tmp 70) 25, type := _, pos := _, after := _, guard := some (1, true) }) (v := .bool true) rfl (by kernel_rfl) (by kernel_rfl) (by kernel_rfl) (fun _ _ _ h => h) (Or.inl ⟨by rfl, ?_⟩) hS20 ?_
      · intro w hSw
        go_simp
      simp only [Act.put, List.setIfInBounds_toArray, List.set_cons_zero, List.set_cons_succ]
      refine wpAnyH_take (i := 6) (oi := { dst := some 72, op := .pick (.tmp 67) (.tmp 71) (.const (.bool false)), type := _, pos := _, after := _, guard := none }) (v := .bool true) rfl (by kernel_rfl) (by kernel_rfl) (by kernel_rfl) (fun _ _ _ h => h) (Or.inl ⟨by rfl, ?_⟩) hS20 ?_
      · intro w hSw
        go_simp
      simp only [Act.put, List.setIfInBounds_toArray, List.set_cons_zero, List.set_cons_succ]
      refine wpAnyH_take (i := 7) (oi := { dst := some 73, op := .move (.tmp 72), type := _, pos := _, after := _, guard := none }) (v := .bool true) rfl (by kernel_rfl) (by kernel_rfl) (by kernel_rfl) (fun _ _ _ h => h) (Or.inl ⟨by rfl, ?_⟩) hS20 ?_
      · intro w hSw
        go_simp
      simp only [Act.put, List.setIfInBounds_toArray, List.set_cons_zero, List.set_cons_succ]
      refine wpAnyH_take (i := 8) (oi := { dst := some 74, op := .move (.tmp 6), type := _, pos := _, after := _, guard := some (7, true) }) (v := .pointer (some ⟨g, 0, none⟩)) rfl (by kernel_rfl) (by kernel_rfl) (by kernel_rfl) (fun _ _ _ h => h) (Or.inl ⟨by rfl, ?_⟩) hS20 ?_
      · intro w hSw
        go_simp
      simp only [Act.put, List.setIfInBounds_toArray, List.set_cons_zero, List.set_cons_succ]
      refine wpAnyH_take (i := 10) (oi := { dst := some 76, op := .move (.tmp 0), type := _, pos := _, after := _, guard := some (7, true) }) (v := .slice a bs.length cap) rfl (by kernel_rfl) (by kernel_rfl) (by kernel_rfl) (fun _ _ _ h => h) (Or.inl ⟨by rfl, ?_⟩) hS20 ?_
      · intro w hSw
        go_simp
      simp only [Act.put, List.setIfInBounds_toArray, List.set_cons_zero, List.set_cons_succ]
      refine wpAnyH_take (i := 11) (oi := { dst := some 77, op := .call { callee := .builtin .len, args := #[.tmp 76], argTypes := #[22] }, type := _, pos := _, after := _, guard := some (7, true) }) (v := .int .i64 (bs.length : Int)) rfl (by kernel_rfl) (by kernel_rfl) (by kernel_rfl) (fun _ _ _ h => h) (Or.inl ⟨by rfl, ?_⟩) hS20 ?_
      · intro w hSw
        go_simp
      simp only [Act.put, List.setIfInBounds_toArray, List.set_cons_zero, List.set_cons_succ]
      refine wpAnyH_ready (rs := [9]) (by kernel_rfl) (by simp) ?_
      refine AllReadyH.cons (o := { dst := some 75, op := .call { callee := .value (.func 29), args := #[.tmp 74], argTypes := #[44] }, type := _, pos := _, after := _, guard := some (7, true) }) rfl (fun K hK => ?_) AllReadyH.nil
      rw [if_pos (by rfl)]
      go_wp2_with (go_at_call 29; refine (cLen.out _ hS20).mono ?_; rintro e w21 ⟨rfl, hb21⟩)
      have hS21 := keepS hb21 hS20
      refine hK.out _ _ hS21 (fun _ => ?_)
      refine wpAnyH_take (i := 12) (oi := { dst := some 78, op := .binOp .eql 3 (.tmp 75) (.tmp 77) 3, type := _, pos := _, after := _, guard := some (7, true) }) (v := .bool true) rfl (by kernel_rfl) (by kernel_rfl) (by kernel_rfl) (fun _ _ _ h => h) (Or.inl ⟨by rfl, ?_⟩) hS21 ?_
      · intro w hSw
        go_simp
      simp only [Act.put, List.setIfInBounds_toArray, List.set_cons_zero, List.set_cons_succ]
      refine wpAnyH_take (i := 13) (oi := { dst := some 79, op := .pick (.tmp 73) (.tmp 78) (.const (.bool false)), type := _, pos := _, after := _, guard := none }) (v := .bool true) rfl (by kernel_rfl) (by kernel_rfl) (by kernel_rfl) (fun _ _ _ h => h) (Or.inl ⟨by rfl, ?_⟩) hS21 ?_
      · intro w hSw
        go_simp
      simp only [Act.put, List.setIfInBounds_toArray, List.set_cons_zero, List.set_cons_succ]
      refine wpAnyH_take (i := 14) (oi := { dst := some 80, op := .move (.tmp 79), type := _, pos := _, after := _, guard := none }) (v := .bool true) rfl (by kernel_rfl) (by kernel_rfl) (by kernel_rfl) (fun _ _ _ h => h) (Or.inl ⟨by rfl, ?_⟩) hS21 ?_
      · intro w hSw
        go_simp
      simp only [Act.put, List.setIfInBounds_toArray, List.set_cons_zero, List.set_cons_succ]
      refine wpAnyH_take (i := 15) (oi := { dst := some 81, op := .move (.tmp 12), type := _, pos := _, after := _, guard := some (14, true) }) (v := .int .i64 0) rfl (by kernel_rfl) (by kernel_rfl) (by kernel_rfl) (fun _ _ _ h => h) (Or.inl ⟨by rfl, ?_⟩) hS21 ?_
      · intro w hSw
        go_simp
      simp only [Act.put, List.setIfInBounds_toArray, List.set_cons_zero, List.set_cons_succ]
      refine wpAnyH_take (i := 16) (oi := { dst := some 82, op := .binOp .eql 32 (.tmp 81) (.const (.int .i64 0)) 32, type := _, pos := _, after := _, guard := some (14, true) }) (v := .bool true) rfl (by kernel_rfl) (by kernel_rfl) (by kernel_rfl) (fun _ _ _ h => h) (Or.inl ⟨by rfl, ?_⟩) hS21 ?_
      · intro w hSw
        go_simp
      simp only [Act.put, List.setIfInBounds_toArray, List.set_cons_zero, List.set_cons_succ]
      refine wpAnyH_take (i := 17) (oi := { dst := some 83, op := .pick (.tmp 80) (.tmp 82) (.const (.bool false)), type := _, pos := _, after := _, guard := none }) (v := .bool true) rfl (by kernel_rfl) (by kernel_rfl) (by kernel_rfl) (fun _ _ _ h => h) (Or.inl ⟨by rfl, ?_⟩) hS21 ?_
      · intro w hSw
        go_simp
      simp only [Act.put, List.setIfInBounds_toArray, List.set_cons_zero, List.set_cons_succ]
      refine wpAnyH_take (i := 18) (oi := { dst := some 84, op := .move (.tmp 83), type := _, pos := _, after := _, guard := none }) (v := .bool true) rfl (by kernel_rfl) (by kernel_rfl) (by kernel_rfl) (fun _ _ _ h => h) (Or.inl ⟨by rfl, ?_⟩) hS21 ?_
      · intro w hSw
        go_simp
      simp only [Act.put, List.setIfInBounds_toArray, List.set_cons_zero, List.set_cons_succ]
      refine wpAnyH_take (i := 19) (oi := { dst := some 85, op := .load 25 (.tmp 11), type := _, pos := _, after := _, guard := some (18, true) }) rfl (by kernel_rfl) (by kernel_rfl) (by kernel_rfl) (fun _ _ _ h => h) (yieldsIf_load_mid (by rfl) 25 (.tmp 11) rfl g10 0 rfl (ds.map B8) _ (fun w hSw => hSw.2.1) Tryd.underlying25 rfl hid) hS21 ?_
      simp only [Act.put, List.setIfInBounds_toArray, List.set_cons_zero, List.set_cons_succ]
      refine wpAnyH_take (i := 20) (oi := { dst := some 86, op := .load 25 (.tmp 10), type := _, pos := _, after := _, guard := some (18, true) }) rfl (by kernel_rfl) (by kernel_rfl) (by kernel_rfl) (fun _ _ _ h => h) (yieldsIf_load_mid (by rfl) 25 (.tmp 10) rfl g6 0 rfl (ds.map B8) _ (fun w hSw => hSw.1) Tryd.underlying25 rfl hid) hS21 ?_
      simp only [Act.put, List.setIfInBounds_toArray, List.set_cons_zero, List.set_cons_succ]
      refine wpAnyH_take (i := 21) (oi := { dst := some 87, op := .binOp .eql 25 (.tmp 85) (.tmp 86) 25, type := _, pos := _, after := _, guard := some (18, true) }) (v := .bool true) rfl (by kernel_rfl) (by kernel_rfl) (by kernel_rfl) (fun _ _ _ h => h) (Or.inl ⟨by rfl, ?_⟩) hS21 ?_
      · intro w hSw
        go_simp
      simp only [Act.put, List.setIfInBounds_toArray, List.set_cons_zero, List.set_cons_succ]
      refine wpAnyH_take (i := 22) (oi := { dst := some 88, op := .pick (.tmp 84) (.tmp 87) (.const (.bool false)), type := _, pos := _, after := _, guard := none }) (v := .bool true) rfl (by kernel_rfl) (by kernel_rfl) (by kernel_rfl) (fun _ _ _ h => h) (Or.inl ⟨by rfl, ?_⟩) hS21 ?_
      · intro w hSw
        go_simp
      simp only [Act.put, List.setIfInBounds_toArray, List.set_cons_zero, List.set_cons_succ]
      refine wpAnyH_take (i := 23) (oi := { dst := some 89, op := .move (.tmp 88), type := _, pos := _, after := _, guard := none }) (v := .bool true) rfl (by kernel_rfl) (by kernel_rfl) (by kernel_rfl) (fun _ _ _ h => h) (Or.inl ⟨by rfl, ?_⟩) hS21 ?_
      · intro w hSw
        go_simp
      simp only [Act.put, List.setIfInBounds_toArray, List.set_cons_zero, List.set_cons_succ]
      refine wpAnyH_take (i := 24) (oi := { dst := some 90, op := .load 25 (.tmp 10), type := _, pos := _, after := _, guard := some (23, true) }) rfl (by kernel_rfl) (by kernel_rfl) (by kernel_rfl) (fun _ _ _ h => h) (yieldsIf_load_mid (by rfl) 25 (.tmp 10) rfl g6 0 rfl (ds.map B8) _ (fun w hSw => hSw.1) Tryd.underlying25 rfl hid) hS21 ?_
      simp only [Act.put, List.setIfInBounds_toArray, List.set_cons_zero, List.set_cons_succ]
      refine wpAnyH_ready (rs := [25]) (by kernel_rfl) (by simp) ?_
      refine AllReadyH.cons (o := { dst := some 91, op := .call { callee := .value (.func 19), args := #[.tmp 90], argTypes := #[25] }, type := _, pos := _, after := _, guard := some (23, true) }) rfl (fun K hK => ?_) AllReadyH.nil
      rw [if_pos (by rfl)]
      go_wp2_with (go_at_call 19; refine (text_lit ds hdl tx htx _).mono ?_; rintro e w22 ⟨rfl, hb22⟩)
      have hS22 := keepS hb22 hS21
      refine hK.out _ _ hS22 (fun _ => ?_)
      refine wpAnyH_take (i := 26) (oi := { dst := some 92, op := .call { callee := .builtin .len, args := #[.tmp 91], argTypes := #[9] }, type := _, pos := _, after := _, guard := some (23, true) }) (v := .int .i64 64) rfl (by kernel_rfl) (by kernel_rfl) (by kernel_rfl) (fun _ _ _ h => h) (Or.inl ⟨by rfl, ?_⟩) hS22 ?_
      · intro w hSw
        go_simp
      simp only [Act.put, List.setIfInBounds_toArray, List.set_cons_zero, List.set_cons_succ]
      refine wpAnyH_take (i := 27) (oi := { dst := some 93, op := .binOp .eql 3 (.tmp 92) (.const (.int .i64 64)) 3, type := _, pos := _, after := _, guard := some (23, true) }) (v := .bool true) rfl (by kernel_rfl) (by kernel_rfl) (by kernel_rfl) (fun _ _ _ h => h) (Or.inl ⟨by rfl, ?_⟩) hS22 ?_
      · intro w hSw
        go_simp
      simp only [Act.put, List.setIfInBounds_toArray, List.set_cons_zero, List.set_cons_succ]
      refine wpAnyH_take (i := 28) (oi := { dst := some 94, op := .pick (.tmp 89) (.tmp 93) (.const (.bool false)), type := _, pos := _, after := _, guard := none }) (v := .bool true) rfl (by kernel_rfl) (by kernel_rfl) (by kernel_rfl) (fun _ _ _ h => h) (Or.inl ⟨by rfl, ?_⟩) hS22 ?_
      · intro w hSw
        go_simp
      simp only [Act.put, List.setIfInBounds_toArray, List.set_cons_zero, List.set_cons_succ]
      refine wpAnyH_take (i := 29) (oi := { dst := some 4, op := .assign (.tmp 94), type := _, pos := _, after := _, guard := none }) (v := .bool true) rfl (by kernel_rfl) (by kernel_rfl) (by kernel_rfl) (fun _ _ _ h => h) (Or.inl ⟨by rfl, ?_⟩) hS22 ?_
      · intro w hSw
        go_simp
      simp only [Act.put, List.setIfInBounds_toArray, List.set_cons_zero, List.set_cons_succ]
      refine wpAnyH_done (by kernel_rfl) ?_ _
      go_wp2
      go_ret
      exact ⟨rfl, hbw12.trans (hS22.2.2.2.mono hbw12.size)⟩
end Go.Proofs.YtbigkblkfnnfkaaDoor
