/-
  PROVED: gauger/gaugerlaw01.UtfSmall returns true for every input, and each argument reads afterwards as it read before.
  Conditions: those of the given row and card alone (package variable utf.beginnings starts as the program's text lays it; the card ties that to the text).
-/
import Derived.Test.YtdgpbminmlpebaaDoorLaw
import Derived.Test.YtdgpbminmlpebaaDoorSmall
import Derived.Test.YtdgpbminmlpebaaDoorOpen

namespace Go.Proofs.YtdgpbminmlpebaaDoor.utfSmall
open Go.ChangeShapes Go.WideShapes Go.ChangeAt Go.RowKit Go.WideMaps Go.WideElems Mt
open Go.ChangeMaps (shut_map_nil open_string shut_string)


theorem params_ok : ∀ t ∈ Tryd.f6.params.toList, Tryd.prog.readableRec t = true ∧ t < Tryd.prog.types.size := by
  have h : Tryd.f6.params.toList.all (fun t => Tryd.prog.readableRec t && decide (t < Tryd.prog.types.size)) = true := by kernel_rfl
  intro t ht
  have := List.all_eq_true.1 h t ht
  simpa using this

set_option maxRecDepth 100000 in
set_option maxHeartbeats 8000000 in
theorem walk (w : World) (hT : Tab w) :
    Calls Tryd.prog 6 #[] w fun e w' => e = .returned (.bool true) ∧ Below w.heap.size w w' := by
  obtain ⟨W0, hW0⟩ : ∃ W0, W0 = w.alloc (.cells (someL.map Value.string).toArray 9) := ⟨_, rfl⟩
  have hWs : W0.heap.size = w.heap.size + 1 := by rw [hW0]; simp
  have hWB : Below w.heap.size w W0 := by rw [hW0]; exact (Below.refl _ _).alloc (Nat.le_refl _) _
  have hcs : ∀ j, j < 12 → W0.cell? ⟨w.heap.size, j, none⟩ = some (.string (someS j)) := fun j hj => by
    rw [hW0]
    have := cells_new w (someL.map Value.string) 9 j _ (some_all j hj).1
    rwa [add0] at this
  have Hcs := Lib.hid hcs; have HW0 := Lib.hid hW0; have HWs := Lib.hid hWs
  clear hcs hW0 hWs
  have hTab : ∀ wr, Below (w.heap.size + 1) W0 wr → Tab wr := fun wr h => hT.below (hWB.trans (h.mono (by omega)))
  have HTab := Lib.hid hTab
  clear hTab
  go_enter Tryd.func6, Tryd.ntmps6
  go_wp2_with fail
  go_loopw [28] (fun v wr => ∃ k : Nat, k ≤ 256 ∧ v = .int .i64 k ∧ Below (w.heap.size + 1) W0 wr) (fun v _ => 256 - (intOf v).toNat)
  case atStart => exact ⟨0, by omega, rfl, by rw [HW0.out]; exact Below.refl _ _⟩
  case round =>
    obtain ⟨k1, hk1, rfl, hb1⟩ := hrel
    by_cases hk1' : k1 < 256
    · have hk1i : (k1 : Int) < 256 := by omega
      go_wp2_with fail
      go_loopw [33] (fun v wr => ∃ k : Nat, k ≤ 12 ∧ v = .int .i64 k ∧ Below (w.heap.size + 1) W0 wr) (fun v _ => 12 - (intOf v).toNat)
      case atStart => exact ⟨0, by omega, rfl, hb1⟩
      case round =>
        obtain ⟨k2, hk2, rfl, hb2⟩ := hrel
        by_cases hk2' : k2 < 12
        · have hk2i : (k2 : Int) < 12 := by omega
          have ca := (hb2.cell (p := ⟨w.heap.size, k2, none⟩) (by show w.heap.size < _; omega)).trans (Hcs.out k2 hk2')
          have ha := (some_all k2 hk2').2
          generalize someS k2 = a at *
          go_wp2_with fail
          clear ca
          go_loopw [39] (fun v wr => ∃ k : Nat, k ≤ 12 ∧ v = .int .i64 k ∧ Below (w.heap.size + 1) W0 wr) (fun v _ => 12 - (intOf v).toNat)
          case atStart => exact ⟨0, by omega, rfl, hb2⟩
          case round =>
            obtain ⟨k3, hk3, rfl, hb3⟩ := hrel
            by_cases hk3' : k3 < 12
            · have hk3i : (k3 : Int) < 12 := by omega
              have cb := (hb3.cell (p := ⟨w.heap.size, k3, none⟩) (by show w.heap.size < _; omega)).trans (Hcs.out k3 hk3')
              have hbz := (some_all k3 hk3').2
              generalize someS k3 = b at *
              by_cases hm : 0 < ((k1 : Int) + k3) % 3
              · go_wp2
                go_roundw
                case rel => exact ⟨k3 + 1, by omega, by go_num, hb3⟩
                case measure => simp [intOf]; omega
              · have hs3 := hb3.size
                rw [HWs.out] at hs3
                obtain ⟨X, hX⟩ : ∃ X, strOfNums [(k1 : Int)] = X := ⟨_, rfl⟩
                have hXs : X.size = 1 := by rw [← hX]; exact one_size _
                have hcv := conv1 wr (k1 : Int)
                rw [hX] at hcv
                have n1 : ¬ (9223372036854775807 < X.size + a.size) := by omega
                have n2 : ¬ (9223372036854775807 < (X ++ a).size + b.size) := by rw [ByteArray.size_append]; omega
                have hS : ((X ++ a) ++ b).size ≤ 3 := by rw [ByteArray.size_append, ByteArray.size_append]; omega
                have HS := Lib.hid hS
                clear hX hXs hS
                have cR := fun (w : World) (hT : Tab w) => reads_any ((X ++ a) ++ b) 0 2 (by omega) w hT
                have CR := Lib.hid cR
                clear cR
                go_wp2_with fail
                have hb4 := hb3.alloc (o := .cells #[.int .u8 (k1 : Int)] 5) (by omega)
                refine (CR.out _ (HTab.out _ hb4)).mono ?_
                rintro e w5 ⟨rfl, hbr5⟩
                have hb5 : Below (w.heap.size + 1) W0 w5 := hb4.trans (hbr5.mono (by simp; omega))
                clear hbr5 hb4 hcv n1 n2 CR
                obtain ⟨m12, hm12⟩ : ∃ m : Nat, ((k1 : Int) + k3) % 12 = m := ⟨(((k1 : Int) + k3) % 12).toNat, by omega⟩
                obtain ⟨m4, hm4⟩ : ∃ m : Nat, (k3 : Int) % 4 = m := ⟨((k3 : Int) % 4).toNat, by omega⟩
                obtain ⟨m5, hm5⟩ : ∃ m : Nat, (k3 : Int) % 5 = m := ⟨((k3 : Int) % 5).toNat, by omega⟩
                have hm12' : m12 < 12 := by omega
                have cc := (hb5.cell (p := ⟨w.heap.size, m12, none⟩) (by show w.heap.size < _; omega)).trans (Hcs.out m12 hm12')
                have hcz := (some_all m12 hm12').2
                generalize someS m12 = c at *
                obtain ⟨S, hSe⟩ : ∃ S, (X ++ a) ++ b = S := ⟨_, rfl⟩
                have hSz := HS.out
                rw [hSe] at hSz ⊢
                clear hSe HS
                have n3 : ¬ (9223372036854775807 < S.size + c.size) := by omega
                have cR := fun (w : World) (hT : Tab w) => reads_any (S ++ c) (m4 : Int) (m5 : Int) (by omega) w hT
                have CR := Lib.hid cR
                clear cR
                go_wp2_with fail
                refine (CR.out _ (HTab.out _ hb5)).mono ?_
                rintro e w6 ⟨rfl, hbr6⟩
                have hb6 : Below (w.heap.size + 1) W0 w6 := hb5.trans (hbr6.mono (by have := hb5.size; rw [HWs.out] at this; omega))
                clear hbr6 CR
                go_wp2
                go_roundw
                case rel => exact ⟨k3 + 1, by omega, by go_num, hb6⟩
                case measure => simp [intOf]; omega
            · have h1 : ¬ (k3 : Int) < 12 := by omega
              go_wp2
              go_roundw
              case rel => exact ⟨k2 + 1, by omega, by go_num, hb3⟩
              case measure => simp [intOf]; omega
        · have h1 : ¬ (k2 : Int) < 12 := by omega
          go_wp2
          go_roundw
          case rel => exact ⟨k1 + 1, by omega, by go_num, hb2⟩
          case measure => simp [intOf]; omega
    · have h1 : ¬ (k1 : Int) < 256 := by omega
      have hB1 : Below w.heap.size w wr := hWB.trans (hb1.mono (by omega))
      clear hb1 HW0 HWs Hcs HTab hWB
      generalize wr = wa at *
      obtain ⟨W1, hW1⟩ : ∃ W1, W1 = wa.alloc (.cells (i64s bordL).toArray 3) := ⟨_, rfl⟩
      have hWs : W1.heap.size = wa.heap.size + 1 := by rw [hW1]; simp
      have hWB : Below w.heap.size w W1 := by rw [hW1]; exact hB1.alloc hB1.size _
      have hcs : ∀ j, j < 19 → W1.cell? ⟨wa.heap.size, j, none⟩ = some (.int .i64 (bordL.getD j 0)) := fun j hj => by
        rw [hW1]
        have := cells_new wa (i64s bordL) 3 j _ (bord_all j hj).1
        rwa [add0] at this
      have hTab : ∀ wr, Below (wa.heap.size + 1) W1 wr → Below w.heap.size w wr ∧ Tab wr := fun wr h => by
        have := hWB.trans (h.mono (by have := hB1.size; omega))
        exact ⟨this, hT.below this⟩
      have Hcs := Lib.hid hcs; have HW1 := Lib.hid hW1; have HWs := Lib.hid hWs; have HTab := Lib.hid hTab
      clear hcs hW1 hWs hTab
      go_wp2_with fail
      go_loopw [83] (fun v wr => ∃ k : Nat, k ≤ 19 ∧ v = .int .i64 k ∧ Below (wa.heap.size + 1) W1 wr) (fun v _ => 19 - (intOf v).toNat)
      case atStart => exact ⟨0, by omega, rfl, by rw [HW1.out]; exact Below.refl _ _⟩
      case round =>
        obtain ⟨k1, hk1, rfl, hb1⟩ := hrel
        by_cases hk1' : k1 < 19
        · have hk1i : (k1 : Int) < 19 := by omega
          have cx := (hb1.cell (p := ⟨wa.heap.size, k1, none⟩) (by show wa.heap.size < _; omega)).trans (Hcs.out k1 hk1')
          obtain ⟨_, hx0, hx1⟩ := bord_all k1 hk1'
          generalize bordL.getD k1 0 = x at *
          go_wp2_with fail
          clear cx
          go_loopw [89] (fun v wr => ∃ k : Nat, k ≤ 19 ∧ v = .int .i64 k ∧ Below (wa.heap.size + 1) W1 wr) (fun v _ => 19 - (intOf v).toNat)
          case atStart => exact ⟨0, by omega, rfl, hb1⟩
          case round =>
            obtain ⟨k2, hk2, rfl, hb2⟩ := hrel
            by_cases hk2' : k2 < 19
            · have hk2i : (k2 : Int) < 19 := by omega
              have cy := (hb2.cell (p := ⟨wa.heap.size, k2, none⟩) (by show wa.heap.size < _; omega)).trans (Hcs.out k2 hk2')
              obtain ⟨_, hy0, hy1⟩ := bord_all k2 hk2'
              generalize bordL.getD k2 0 = y at *
              have cR := fun (w : World) => reftext_in [x, y] (some ⟨w.heap.size, 0, none⟩) 2 2 _ (rdNew w (i64s [x, y]) 3) (by omega)
              obtain ⟨E0, E1⟩ := textR_bd [x, y]
              have hS8 : (textR [x, y]).1.size ≤ 8 := textR_size [x, y]
              generalize textR [x, y] = R at *
              obtain ⟨S, E⟩ := R
              unfold TextOk at cR
              dsimp only at *
              have CR := Lib.hid cR
              clear cR
              have hs2 := hb2.size
              rw [HWs.out] at hs2
              go_wp2_with fail
              refine (tells_any x y ⟨hx0, hx1⟩ ⟨hy0, hy1⟩ _ 2 2 [1, 2] (by omega) (by unfold maxLen; omega) _ (rdNew wr (u8s [1, 2]) 5)).mono ?_
              rintro e w5 ⟨rfl, hbr5⟩
              have hb5 : Below (wa.heap.size + 1) W1 w5 := (hb2.alloc (by omega) _).trans (hbr5.mono (by simp; omega))
              clear hbr5
              have hs5 := hb5.size
              rw [HWs.out] at hs5
              go_wp2_with fail
              refine (texts_any [x, y, 65] _ 3 3 _ (rdNew w5 (i64s [x, y, 65]) 3)).mono ?_
              rintro e w6 ⟨rfl, hbr6⟩
              have hb6 : Below (wa.heap.size + 1) W1 w6 := (hb5.alloc (by omega) _).trans (hbr6.mono (by simp; omega))
              clear hbr6
              have hs6 := hb6.size
              rw [HWs.out] at hs6
              go_wp2_with fail
              refine (CR.out w6).mono ?_
              rintro e w7 ⟨rfl, hbr7⟩
              have hb7 : Below (wa.heap.size + 1) W1 w7 := (hb6.alloc (by omega) _).trans (hbr7.mono (by simp; omega))
              clear hbr7 CR hs2 hs5 hs6 cy
              by_cases hE : E = 0
              · have e1 : (E == 0) = true := by rw [hE]; rfl
                clear hE
                go_wp2_with fail
                go_loopw [15] (fun v wr => ∃ j : Nat, j ≤ S.size + 3 ∧ v = .int .i64 ((j : Int) - 1) ∧ Below (wa.heap.size + 1) W1 wr) (fun v _ => S.size + 3 - (intOf v + 1).toNat)
                case atStart => exact ⟨0, by omega, rfl, hb7⟩
                case round =>
                  obtain ⟨j, hj, rfl, hb8⟩ := hrel
                  by_cases hjS : j < S.size + 3
                  · have h1 : (j : Int) - 1 < S.size + 2 := by omega
                    have cR := fun (w : World) (hT : Tab w) => reads_any S ((j : Int) - 1) ((j : Int) - 1) (by omega) w hT
                    have CR := Lib.hid cR
                    clear cR
                    go_wp2_with fail
                    refine (CR.out _ (HTab.out _ hb8).2).mono ?_
                    rintro e w9 ⟨rfl, hbr9⟩
                    have hb9 : Below (wa.heap.size + 1) W1 w9 := hb8.trans (hbr9.mono (by have := hb8.size; rw [HWs.out] at this; omega))
                    clear hbr9 CR
                    go_wp2
                    go_roundw
                    case rel => exact ⟨j + 1, by omega, by congr 1; omega, hb9⟩
                    case measure => simp [intOf]; omega
                  · have h1 : ¬ (j : Int) - 1 < S.size + 2 := by omega
                    go_wp2
                    go_roundw
                    case rel => exact ⟨k2 + 1, by omega, by go_num, hb8⟩
                    case measure => simp [intOf]; omega
              · have e1 : (E == 0) = false := by rw [beq_eq_false_iff_ne]; exact hE
                go_wp2
                go_roundw
                case rel => exact ⟨k2 + 1, by omega, by go_num, hb7⟩
                case measure => simp [intOf]; omega
            · have h1 : ¬ (k2 : Int) < 19 := by omega
              go_wp2
              go_roundw
              case rel => exact ⟨k1 + 1, by omega, by go_num, hb2⟩
              case measure => simp [intOf]; omega
        · have h1 : ¬ (k1 : Int) < 19 := by omega
          have hB2 := (HTab.out _ hb1).1
          clear hb1 HW1 HWs Hcs HTab hWB hB1
          generalize wr = wb at *
          obtain ⟨i0, hi, hz0, hz1, hz2⟩ := info_parts info5
          obtain ⟨j0, ki, kz0, kz1, kz2⟩ := info_parts info3
          obtain ⟨N, Z, S1, hN, hZ, d1, d2, d3, dsl, d4, d5, d6, d7, d9, hZs⟩ := zeros_facts
          have hNi : (1048576 : Int) = (N : Int) := by omega
          have hNj : (1048577 : Int) = ((N + 1 : Nat) : Int) := by omega
          have e1 : ((N : Int) != 1048576) = false := by rw [hN]; rfl
          have e2 : ((N : Int) == 1048576) = true := by rw [hN]; rfl
          have n1 : ¬ (9223372036854775807 < Z.size + (⟨#[255]⟩ : ByteArray).size) := by rw [hZs]; show ¬ (_ < N + 1); omega
          have hNl : N ≤ maxLen := by unfold maxLen; omega
          have hNl1 : N + 1 ≤ maxLen := by unfold maxLen; omega
          have hNb : i0.bytes * N ≤ 281474976710656 := by rw [hz2]; omega
          have hNb1 : j0.bytes * (N + 1) ≤ 281474976710656 := by rw [kz2]; omega
          have hNt : 1048576 < N + 1 := by omega
          have D1 := Lib.hid d1; have D2 := Lib.hid d2; have D3 := Lib.hid d3; have D4 := Lib.hid d4; have D5 := Lib.hid d5; have D6 := Lib.hid d6; have D7 := Lib.hid d7; have D9 := Lib.hid d9; have HZ := Lib.hid hZ
          have HNi := Lib.hid hNi; have HNj := Lib.hid hNj
          clear hN d1 d2 d3 d4 d5 d6 d7 d9 hZ hNi hNj hZs
          go_wp2_with (at_make; refine wpList_make_full _ rfl _ _ 22 rfl wb.heap.size 5 i0 (.int .u8 0) 1 Tryd.underlying22 hi hz0 hz1 .i64 .i64 _ _ N rfl rfl HNi.out HNi.out hNb hNl (Nat.le_refl _) ?_; intro w0 hown0 hg0; rw [made_zeros] at hown0; have hcv := conv_own w0 hown0; rw [HZ.out] at hcv; have Hg0 := Lib.hid hg0; clear hown0 hg0)
          have hB0 : Below w.heap.size w w0 := hB2.grown Hg0.out hB2.size (fun k e => by cases e)
          clear hB2 Hg0 hcv
          refine (D1.out _ (hT.below hB0)).mono ?_
          rintro e w1 ⟨A1, k1, rfl, hr1, hb1⟩
          have hB1 : Below w.heap.size w w1 := hB0.trans (hb1.mono hB0.size)
          have Hr1 := Lib.hid hr1
          clear hr1
          go_wp2_with fail
          refine (D2.out _ (hT.below hB1)).mono ?_
          rintro e w2 ⟨rfl, hb2⟩
          have hB2 : Below w.heap.size w w2 := hB1.trans (hb2.mono hB1.size)
          go_wp2_with fail
          refine (D3.out _ (hT.below hB2)).mono ?_
          rintro e w3 ⟨rfl, hb3⟩
          have hB3 : Below w.heap.size w w3 := hB2.trans (hb3.mono hB2.size)
          go_wp2_with fail
          have b13 : Below w1.heap.size w1 w3 := hb2.trans (hb3.mono hb2.size)
          refine (D4.out A1 k1 w3 ((Hr1.out.below b13).more b13.size)).mono ?_
          rintro e w4 ⟨rfl, hb4⟩
          have hB4 : Below w.heap.size w w4 := hB3.trans (hb4.mono hB3.size)
          clear b13 Hr1
          go_wp2_with fail
          refine (D5.out _ (hT.below hB4)).mono ?_
          rintro e w5 ⟨rfl, hb5⟩
          have hB5 : Below w.heap.size w w5 := hB4.trans (hb5.mono hB4.size)
          go_wp2_with fail
          refine (D6.out _ (hT.below hB5)).mono ?_
          rintro e w6 ⟨rfl, hb6⟩
          have hB6 : Below w.heap.size w w6 := hB5.trans (hb6.mono hB5.size)
          go_wp2_with fail
          refine (D7.out _ (hT.below hB6)).mono ?_
          rintro e w7 ⟨rfl, hb7⟩
          have hB7 : Below w.heap.size w w7 := hB6.trans (hb7.mono hB6.size)
          go_wp2_with (at_make; refine wpList_make_full _ rfl _ _ 26 rfl w7.heap.size 3 j0 (.int .i64 0) 1 Tryd.underlying26 ki kz0 kz1 .i64 .i64 _ _ (N + 1) rfl rfl HNj.out HNj.out hNb1 hNl1 (Nat.le_refl _) ?_; intro w8 _ hg8; have Hg8 := Lib.hid hg8; clear hg8)
          have hB8 : Below w.heap.size w w8 := hB7.grown Hg8.out hB7.size (fun k e => by cases e)
          refine (text_long _ (N + 1) (N + 1) w8 hNt).mono ?_
          rintro e w9 ⟨rfl, hb9⟩
          have hB9 : Below w.heap.size w w9 := hB8.trans (hb9.mono hB8.size)
          clear Hg8
          go_wp2_with fail
          refine (D9.out _ (hT.below hB9)).mono ?_
          rintro e w10 ⟨rfl, hb10⟩
          have hB10 : Below w.heap.size w w10 := hB9.trans (hb10.mono hB9.size)
          go_wp2_with fail
          refine (awake_any _ (hT.below hB10)).mono ?_
          rintro e w11 ⟨rfl, hb11⟩
          have hB11 : Below w.heap.size w w11 := hB10.trans (hb11.mono hB10.size)
          go_wp2_with fail
          go_ret
          exact ⟨rfl, hB11⟩

set_option maxRecDepth 100000 in
/-- WHAT THE WALK GIVES, for every argument and every world that holds the table. -/
theorem contract (H : Type) (enc : TypeId × Value → H) (W : World) (base : Nat) (args : Array Value) (ds gs : List (DataW H)) (before : List MemPlace)
    (hval : ∀ (j : Nat) t v, Tryd.f6.params[j]? = some t → args[j]? = some v → Value.okWide Tryd.prog W .any base t v)
    (hW : DataW.Whole enc Tryd.prog Tryd.f6.params.toList Rows.utfSmallSpec.vars false W args.toList ds gs before) (hL : laidMetH Tryd.prog Rows.utfSmallRow.laid W) :
    Calls Tryd.prog 6 args W fun e W' => ∃ v, e = .returned v ∧ Rows.utfSmallSpec.post enc Tryd.prog Tryd.f6 false true false false W args v W' := by
  have hW' := hW
  have hT : Tab W := tab_of_laid hL
  obtain ⟨p, q, hA0, hV, rfl, hfz, hnd⟩ := hW
  have hA : DataW.TrodAll enc Tryd.prog W 0 (fun _ => true) true Tryd.f6.params.toList args.toList ds p := hA0
  rw [Tryd.params6] at hA hval
  obtain ⟨hargs, rfl, rfl⟩ := trodAll_nil hA
  obtain rfl : args = #[] := by cases args; simp_all
  obtain ⟨rfl, rfl⟩ := trodVars_none hV
  refine (walk W hT).mono fun e W' ⟨he, hb⟩ => ?_
  subst he
  exact ⟨_, rfl, law_post rfl rfl params_ok hW' rfl hb⟩

/-- A WORLD FOR THE WITNESS: the settled one, the table holding what its initialiser lays. -/
noncomputable def laidWorld (os : Os) : World :=
  { World.holding Tryd.prog os ⟨#[], #[], []⟩ with heap := (World.holding Tryd.prog os ⟨#[], #[], []⟩).heap.modify 0 fun
      | .cells _ t frozen => .cells tabV t frozen
      | o => o }
theorem laid_met (os : Os) : laidMet Tryd.prog Rows.utfSmallRow.laid ((laidWorld os).forCall (fun _ _ => 0) ⟨#[], #[], []⟩).memory :=
  laidMet_of_run' 8 (by kernel_rfl) (by kernel_rfl)
theorem reads (os : Os) {H : Type} (enc : TypeId × Value → H) : ∃ places, DataW.whole enc Tryd.prog ((laidWorld os).forCall (fun _ _ => 0) ⟨#[], #[], []⟩).memory Tryd.f6.params.toList Rows.utfSmallSpec.vars false (#[] : Array Value).toList 8 = some ([], [], places) :=
  ⟨[], by kernel_rfl⟩

set_option maxRecDepth 100000 in
/-- THE FIRST FORM's STEP. -/
theorem lifted (os : Os) (started : os.Started) (H : Type) (enc : TypeId × Value → H) (F : Stop.Interp) :
    ReturnsInHanded {} Tryd.checked os 6 .any ((OpenSpec.ofChange Rows.utfSmallSpec).preRow enc Tryd.prog Tryd.f6 Rows.utfSmallRow.domain false Rows.utfSmallRow.laid) (((OpenSpec.ofChange Rows.utfSmallSpec).at F).post enc Tryd.prog Tryd.f6 false true false false) := by
  obtain ⟨places, hx⟩ := reads os enc
  refine returnsInHanded_of_row (C := Tryd.checked) (s := OpenSpec.ofChange Rows.utfSmallSpec) gOwn started (by kernel_rfl) Tryd.func6
    (witness_row_at (enc := enc) (C := Tryd.checked) false (laidWorld os) #[] rfl (by kernel_rfl) (by kernel_rfl) (by kernel_rfl)
      (OpenSpec.preRow_of_cond 8 hx (by kernel_rfl) (fun k hk => by cases hk) (by kernel_rfl) (laid_met os))) ?_
  intro W base args ds gs before hval hW _ _ _ hL _ _
  exact contract H enc W base args ds gs before hval hW hL

theorem said : Rows.UtfSmallSaid :=
  OpenClaim.holds_of_cond 6 Tryd.f6 rfl rfl rfl rfl rfl rfl rfl ⟨rfl, rfl, rfl, rfl, rfl⟩ rfl rfl rfl rfl rfl (by kernel_rfl) Tryd.func6 (by kernel_rfl)
    (of_decide_eq_true (by kernel_rfl)) (by unfold Func.isWrapper; first | (rw [if_pos (by decide +kernel)]; kernel_rfl) | (rw [if_neg (by decide +kernel)]; exact ⟨rfl, rfl⟩))
    (fun os started H enc _ F => by rw [OpenClaim.pre_eq_preRow]; exact lifted os started H enc F)

/-- No parameter wants a stand-in; the program's own looks are off: what the card asks. -/
theorem plain (f : FuncId) (fn : Func) (hf : Tryd.pinned.checked.prog.funcNamed "gauger/gaugerlaw01.UtfSmall" = some f) (hfn : Tryd.pinned.checked.prog.funcs[f]? = some fn) :
    false = Tryd.pinned.checked.prog.looks [] ∧ ∀ (j : Nat) t, fn.params[j]? = some t → Tryd.pinned.checked.prog.wantsStandIn t = false := by
  obtain rfl : f = 6 := Option.some.inj ((show Tryd.prog.funcNamed "gauger/gaugerlaw01.UtfSmall" = some 6 by kernel_rfl).symm.trans hf) |>.symm
  obtain rfl : fn = Tryd.f6 := (Option.some.inj (Tryd.func6.symm.trans hfn)).symm
  refine ⟨by kernel_rfl, fun j t ht => ?_⟩
  have hm : t ∈ Tryd.f6.params := Array.mem_of_getElem? ht
  have hall : Tryd.f6.params.all (fun t => !Tryd.prog.wantsStandIn t) = true := by kernel_rfl
  have := (Array.all_eq_true_iff_forall_mem.1 hall) t hm
  have h2 : Tryd.prog.wantsStandIn t = false := by simpa using this
  exact h2

/-- THE CARD. -/
theorem card : Rows.UtfSmallCardSaid :=
  Claim7.holds_tied_plain_at .later [] _ _ _ _ said (fun _ h => by cases h) (by kernel_rfl) (fun _ h => by cases h) utfSmall_row_tie rfl ⟨rfl, rfl⟩ (by kernel_rfl) rfl plain (by kernel_rfl)
end Go.Proofs.YtdgpbminmlpebaaDoor.utfSmall
