import Derived.Test.YtnffjoipinhojaaGreatDoorVb
import Derived.Test.YtnffjoipinhojaaGreatDoorTb
set_option linter.unusedSimpArgs false
set_option linter.unusedVariables false
namespace Go.Proofs.YtnffjoipinhojaaGreatDoor
open Go.RowKit
open Back (vfrom arr)
namespace Ref

set_option maxHeartbeats 1000000 in
theorem right_any (w : World) (s : ByteArray) (hs : s.size ≤ 1099511627776) :
    Calls Tryz.prog 42 #[.string s] w fun e w' => e = .returned (.bool (vfrom s 0)) ∧ w' = w := by
  have HWh : Hid (∀ i : Nat, i < s.size → Calls Tryz.prog 80 #[.string s, .int .i64 i] w fun e w' => e = .returned (.int .i64 (chr s i).2) ∧ w' = w) := fun i hi => whole_any w s i hi hs
  obtain ⟨v, hv⟩ : ∃ v, vfrom s 0 = v := ⟨_, rfl⟩
  rw [hv]
  go_enter Tryz.func42, Tryz.ntmps42
  go_wp2_with fail
  go_loop [3] (fun t3 => ∃ (q : Nat), q ≤ s.size ∧ t3 = .int .i64 q ∧ vfrom s q = v) (fun t3 => s.size - (intOf t3).toNat)
  case atStart => exact ⟨0, Nat.zero_le _, rfl, hv⟩
  case round =>
    obtain ⟨q, hq, rfl, hvq⟩ := hrel
    clear hv
    by_cases hlt : q < s.size
    · have hle := chr_le s q
      by_cases hz : (chr s q).2 = 0
      · have HZ := HWh.out q hlt
        rw [hz] at HZ
        have HZ' : Hid (Calls Tryz.prog 80 #[.string s, .int .i64 q] w fun e w' => e = .returned (.int .i64 0) ∧ w' = w) := HZ
        have HV : Hid (v = false) := by unfold Hid; rw [← hvq]; exact Back.vfrom_bad hlt hz
        clear HZ hvq hle hz HWh
        go_wp2_with fail
        refine HZ'.out.mono ?_
        rintro e w1 ⟨rfl, rfl⟩
        go_wp2_with fail
        go_ret
        exact ⟨ret_bool HV.out.symm, rfl⟩
      · have hvn : vfrom s (q + (chr s q).2) = v := by rw [← hvq]; exact (Back.vfrom_on hlt hz).symm
        have HZ : Hid (Calls Tryz.prog 80 #[.string s, .int .i64 q] w fun e w' => e = .returned (.int .i64 (chr s q).2) ∧ w' = w) := HWh.out q hlt
        generalize (chr s q).2 = n at *
        have HVN : Hid (vfrom s (q + n) = v) := hvn
        have hnz : ¬ ((n : Int) = 0) := by omega
        have hn1 : q + n ≤ s.size := by omega
        clear hvq hvn HWh
        go_wp2_with fail
        refine HZ.out.mono ?_
        rintro e w1 ⟨rfl, rfl⟩
        go_wp2_with fail
        go_round
        case rel => exact ⟨q + n, by omega, by go_num, HVN.out⟩
        case measure => simp [intOf]; omega
    · have HV : Hid (v = true) := by unfold Hid; rw [← hvq]; exact Back.vfrom_end hlt
      clear hvq HWh
      go_wp2_with fail
      go_ret
      exact ⟨ret_bool HV.out.symm, rfl⟩

abbrev penW (w : World) (s : ByteArray) : World := w.alloc (.cells #[.string s, .int .i64 0, .int .i64 0, .int .i64 0] 75)

theorem pen_below {w w' : World} {s : ByteArray} {k : Nat} {e a : Int} (m : Mv w.heap.size s k e a (penW w s) w') : Below w.heap.size w w' := by
  have hb : Below w.heap.size w (penW w s) := (Below.refl _ w).alloc (Nat.le_refl _) _
  exact { os := m.os.1.trans hb.os, tape := m.os.2.1.trans hb.tape, output := m.os.2.2.trans hb.output, size := by have h1 := m.size; simp at h1; omega, block := fun x hx => (m.but x (by simp; omega) (by omega)).trans (hb.block x hx) }

theorem str_data (k : ByteArray) : str k.data.toList = .string k := by
  unfold str
  rw [show (⟨k.data.toList.toArray⟩ : ByteArray) = k from Back.arr_data k]

theorem nil_of {l : ByteArray} (h : l.toList.isEmpty = true) : l.data.toList = [] := isEmpty_nil h
theorem ne_nil_of {l : ByteArray} (h : l.toList.isEmpty = false) : l.data.toList ≠ [] := by
  intro e
  rw [ByteArray.toList_eq, e] at h
  cases h

theorem isW_lang {l : ByteArray} : isW l (langR l 0) = true ↔ language l 0 = .ok () l.size := by
  constructor
  · intro h
    unfold isW at h
    split at h
    · rename_i x j hw
      obtain ⟨e1, _⟩ := Back.whole_ok hw
      unfold langR at e1
      split at e1
      · rename_i j' hl
        simp only [R.ok.injEq] at e1
        rw [hl, e1.2]
      · cases e1
    · cases h
  · intro h
    unfold isW langR
    rw [h]
    simp only [whole]
    have : sub l 0 l.size = l.data.toList := by
      unfold sub
      rw [List.drop_zero, Nat.sub_zero]
      exact List.take_of_length_le (Nat.le_of_eq Array.length_toList)
    simp [this]

theorem isW_iri {k : ByteArray} : isW k (iri k 0) = true ↔ iri k 0 = .ok k.data.toList k.size := by
  constructor
  · intro h
    unfold isW at h
    split at h
    · rename_i x j hw
      obtain ⟨e1, _⟩ := Back.whole_ok hw
      rw [decide_eq_true_iff] at h
      rw [e1, h]
    · cases h
  · intro h
    unfold isW
    rw [h]
    simp [whole]

set_option maxHeartbeats 4000000 in
set_option maxRecDepth 20000 in
theorem lit_any (w : World) (t l k : ByteArray) (ht : t.size ≤ 1099511627776) (hl : l.size ≤ 1099511627776) (hk : k.size ≤ 1099511627776) :
    Calls Tryz.prog 19 #[.string t, .string l, .string k] w fun e w' => e = .returned (.tuple #[str (litOf t l k).1, .int .i64 (litOf t l k).2]) ∧ Below w.heap.size w w' := by
  have HRt : Hid (∀ w1, Calls Tryz.prog 42 #[.string t] w1 fun e w' => e = .returned (.bool (vfrom t 0)) ∧ w' = w1) := fun w1 => right_any w1 t ht
  have lt : t.data.toList.length = t.size := Array.length_toList
  have ll : l.data.toList.length = l.size := Array.length_toList
  have lk : k.data.toList.length = k.size := Array.length_toList
  cases hv : vfrom t 0 with
  | false =>
    rw [hv] at HRt
    have HL : Hid (litOf t l k = ([], 2)) := by
      unfold Hid litOf fits
      rw [hv]
      rfl
    rw [HL.out]
    clear hv lt ll lk
    go_enter Tryz.func19, Tryz.ntmps19
    go_wp2_with fail
    refine (HRt.out _).mono ?_
    rintro e w1 ⟨rfl, rfl⟩
    go_wp2_with fail
    exact bodyPost_ret (v := .tuple #[str [], .int .i64 2]) (by simp [results, Tryz.results19, go_sem]) rfl ⟨rfl, Below.refl _ _⟩
  | true =>
    rw [hv] at HRt
    cases hle : l.toList.isEmpty with
    | false =>
      have hln := ne_nil_of hle
      cases hke : k.toList.isEmpty with
      | false =>
        have HL : Hid (litOf t l k = ([], 2)) := by
          unfold Hid litOf fits
          rw [hv, hle, hke]
          rfl
        rw [HL.out]
        clear hv lt ll lk hln
        go_enter Tryz.func19, Tryz.ntmps19
        go_wp2_with fail
        refine (HRt.out _).mono ?_
        rintro e w1 ⟨rfl, rfl⟩
        go_wp2_with fail
        exact bodyPost_ret (v := .tuple #[str [], .int .i64 2]) (by simp [results, Tryz.results19, go_sem]) rfl ⟨rfl, Below.refl _ _⟩
      | true =>
        have hkn := nil_of hke
        have hf : fits t l k = isW l (langR l 0) := by
          unfold fits
          rw [hv, hle, hke]
          rfl
        have hLg := language_any (penW w l) w.heap.size 0 l 0 (pen_new w l hl) (Nat.zero_le _)
        cases hlg : language l 0 with
        | bad j =>
          rw [hlg] at hLg
          have HLg : Hid (Calls Tryz.prog 43 #[.pointer (some ⟨w.heap.size, 0, none⟩)] (penW w l) fun e w' => ∃ m q, e = .returned (str m) ∧ m.length ≤ 8 * l.size + 8 ∧ Mv w.heap.size l q 2 j (penW w l) w') := hLg
          have HL : Hid (litOf t l k = ([], 2)) := by
            unfold Hid litOf
            rw [hf, if_neg (by rw [isW_lang, hlg]; intro e; cases e)]
          rw [HL.out]
          clear hv lt ll lk hln hkn hf hLg hlg
          go_enter Tryz.func19, Tryz.ntmps19
          go_wp2_with fail
          refine (HRt.out _).mono ?_
          rintro e w1 ⟨rfl, rfl⟩
          go_wp2_with fail
          refine HLg.out.mono ?_
          rintro e w2 ⟨m, q, rfl, hml, m2⟩
          have HBw : Hid (Below _ _ w2) := pen_below m2
          obtain ⟨p0, p1, p2, p3, pf, pms, ple⟩ := m2.pn
          clear m2
          go_wp2_with fail
          exact bodyPost_ret (v := .tuple #[str [], .int .i64 2]) (by simp [results, Tryz.results19, go_sem]) rfl ⟨rfl, HBw.out⟩
        | ok u j =>
          rw [hlg] at hLg
          obtain ⟨V, hV⟩ : ∃ V : ByteArray, V = ⟨(Lib.toLowerA (sub l 0 j)).toArray⟩ := ⟨_, rfl⟩
          have HLg : Hid (Calls Tryz.prog 43 #[.pointer (some ⟨w.heap.size, 0, none⟩)] (penW w l) fun e w' => e = .returned (.string V) ∧ Mv w.heap.size l j 0 0 (penW w l) w') := by unfold Hid; rw [hV]; exact hLg
          have hjl := (language_asc hlg).2.1
          by_cases hj : j = l.size
          · subst hj
            have hlow : Lib.toLowerA (sub l 0 l.size) = Lib.toLowerA l.data.toList := by
              unfold sub
              rw [List.drop_zero, Nat.sub_zero, show l.data.toList.take l.size = l.data.toList from List.take_of_length_le (Nat.le_of_eq Array.length_toList)]
            have hVl : V.size = l.size := by rw [hV, hlow]; unfold Lib.toLowerA; rw [arr_size, List.length_map, ll]
            obtain ⟨X, hX⟩ : ∃ X : ByteArray, X = ⟨(form t.data.toList l.data.toList k.data.toList).toArray⟩ := ⟨_, rfl⟩
            have hXl : X.size = (form t.data.toList l.data.toList k.data.toList).length := by rw [hX]; exact Back.arr_sz _
            have hwf : writ t.data.toList (Lib.toLowerA l.data.toList) k.data.toList = form t.data.toList l.data.toList k.data.toList := by
              unfold writ form
              rw [if_pos (fun e => hln (Back.toLower_nil e)), if_pos hln]
            have HWr : Hid (∀ w1, Calls Tryz.prog 45 #[.string t, .string V, .string k] w1 fun e w' => e = .returned (.string X) ∧ w' = w1) := by
              intro w1
              have := written_any w1 t (Lib.toLowerA l.data.toList) k.data.toList (by omega) (by unfold Lib.toLowerA; rw [List.length_map]; omega) (by omega)
              rw [hwf, str_data k] at this
              rw [hX, hV, hlow]
              exact this
            have HL : Hid (litOf t l k = if 200 < X.size then ([], 4) else (form t.data.toList l.data.toList k.data.toList, 0)) := by
              unfold Hid litOf
              rw [if_pos (by rw [hf, isW_lang]; exact hlg), hXl]
            have HX : Hid (X = ⟨(form t.data.toList l.data.toList k.data.toList).toArray⟩) := hX
            generalize form t.data.toList l.data.toList k.data.toList = F at *
            clear hv lt ll lk hln hkn hf hLg hlg hV hlow hVl hX hXl hwf hjl
            by_cases h200 : 200 < X.size
            · rw [if_pos h200] at HL
              rw [HL.out]
              go_enter Tryz.func19, Tryz.ntmps19
              go_wp2_with fail
              refine (HRt.out _).mono ?_
              rintro e w1 ⟨rfl, rfl⟩
              go_wp2_with fail
              refine HLg.out.mono ?_
              rintro e w2 ⟨rfl, m2⟩
              have HBw : Hid (Below _ _ w2) := pen_below m2
              obtain ⟨p0, p1, p2, p3, pf, pms, ple⟩ := m2.pn
              clear m2
              go_wp2_with fail
              refine (HWr.out _).mono ?_
              rintro e w3 ⟨rfl, rfl⟩
              go_wp2_with fail
              exact bodyPost_ret (v := .tuple #[str [], .int .i64 4]) (by simp [results, Tryz.results19, go_sem]) rfl ⟨rfl, HBw.out⟩
            · rw [if_neg h200] at HL
              rw [HL.out]
              go_enter Tryz.func19, Tryz.ntmps19
              go_wp2_with fail
              refine (HRt.out _).mono ?_
              rintro e w1 ⟨rfl, rfl⟩
              go_wp2_with fail
              refine HLg.out.mono ?_
              rintro e w2 ⟨rfl, m2⟩
              have HBw : Hid (Below _ _ w2) := pen_below m2
              obtain ⟨p0, p1, p2, p3, pf, pms, ple⟩ := m2.pn
              clear m2
              go_wp2_with fail
              refine (HWr.out _).mono ?_
              rintro e w3 ⟨rfl, rfl⟩
              go_wp2_with fail
              exact bodyPost_ret (v := .tuple #[.string X, .int .i64 0]) (by simp [results, Tryz.results19, go_sem]) rfl ⟨by rw [HX.out], HBw.out⟩
          · have hjlt : j < l.size := by omega
            have HL : Hid (litOf t l k = ([], 2)) := by
              unfold Hid litOf
              rw [hf, if_neg (by rw [isW_lang, hlg]; intro e; cases e; exact hj rfl)]
            rw [HL.out]
            clear hv lt ll lk hln hkn hf hLg hlg hV hj hjl
            go_enter Tryz.func19, Tryz.ntmps19
            go_wp2_with fail
            refine (HRt.out _).mono ?_
            rintro e w1 ⟨rfl, rfl⟩
            go_wp2_with fail
            refine HLg.out.mono ?_
            rintro e w2 ⟨rfl, m2⟩
            have HBw : Hid (Below _ _ w2) := pen_below m2
            obtain ⟨p0, p1, p2, p3, pf, pms, ple⟩ := m2.pn
            clear m2
            go_wp2_with fail
            exact bodyPost_ret (v := .tuple #[str [], .int .i64 2]) (by simp [results, Tryz.results19, go_sem]) rfl ⟨rfl, HBw.out⟩
    | true =>
      have hln := nil_of hle
      cases hke : k.toList.isEmpty with
      | true =>
        have hkn := nil_of hke
        have hf : fits t l k = true := by
          unfold fits
          rw [hv, hle, hke]
          rfl
        obtain ⟨X, hX⟩ : ∃ X : ByteArray, X = ⟨(form t.data.toList l.data.toList k.data.toList).toArray⟩ := ⟨_, rfl⟩
        have hXl : X.size = (form t.data.toList l.data.toList k.data.toList).length := by rw [hX]; exact Back.arr_sz _
        have hwf : writ t.data.toList l.data.toList k.data.toList = form t.data.toList l.data.toList k.data.toList := by
          unfold writ form
          rw [hln]
          simp
        have HWr : Hid (∀ w1, Calls Tryz.prog 45 #[.string t, .string l, .string k] w1 fun e w' => e = .returned (.string X) ∧ w' = w1) := by
          intro w1
          have := written_any w1 t l.data.toList k.data.toList (by omega) (by omega) (by omega)
          rw [hwf, str_data k, str_data l] at this
          rw [hX]
          exact this
        have HL : Hid (litOf t l k = if 200 < X.size then ([], 4) else (form t.data.toList l.data.toList k.data.toList, 0)) := by
          unfold Hid litOf
          rw [if_pos hf, hXl]
        have HX : Hid (X = ⟨(form t.data.toList l.data.toList k.data.toList).toArray⟩) := hX
        generalize form t.data.toList l.data.toList k.data.toList = F at *
        clear hv lt ll lk hln hkn hf hX hXl hwf
        by_cases h200 : 200 < X.size
        · rw [if_pos h200] at HL
          rw [HL.out]
          go_enter Tryz.func19, Tryz.ntmps19
          go_wp2_with fail
          refine (HRt.out _).mono ?_
          rintro e w1 ⟨rfl, rfl⟩
          go_wp2_with fail
          refine (HWr.out _).mono ?_
          rintro e w3 ⟨rfl, rfl⟩
          go_wp2_with fail
          exact bodyPost_ret (v := .tuple #[str [], .int .i64 4]) (by simp [results, Tryz.results19, go_sem]) rfl ⟨rfl, (Below.refl _ _)⟩
        · rw [if_neg h200] at HL
          rw [HL.out]
          go_enter Tryz.func19, Tryz.ntmps19
          go_wp2_with fail
          refine (HRt.out _).mono ?_
          rintro e w1 ⟨rfl, rfl⟩
          go_wp2_with fail
          refine (HWr.out _).mono ?_
          rintro e w3 ⟨rfl, rfl⟩
          go_wp2_with fail
          exact bodyPost_ret (v := .tuple #[.string X, .int .i64 0]) (by simp [results, Tryz.results19, go_sem]) rfl ⟨by rw [HX.out], (Below.refl _ _)⟩
      | false =>
        have hf : fits t l k = isW k (iri k 0) := by
          unfold fits
          rw [hv, hle, hke]
          rfl
        have hLg := iri_any (penW w k) w.heap.size 0 k 0 (pen_new w k hk)
        cases hlg : iri k 0 with
        | bad j =>
          rw [hlg] at hLg
          have HLg : Hid (Calls Tryz.prog 44 #[.pointer (some ⟨w.heap.size, 0, none⟩)] (penW w k) fun e w' => ∃ m q, e = .returned (str m) ∧ m.length ≤ 16 * k.size + 16 ∧ Mv w.heap.size k q 2 j (penW w k) w') := hLg
          have HL : Hid (litOf t l k = ([], 2)) := by
            unfold Hid litOf
            rw [hf, if_neg (by rw [isW_iri, hlg]; intro e; cases e)]
          rw [HL.out]
          clear hv lt ll lk hln hf hLg hlg
          go_enter Tryz.func19, Tryz.ntmps19
          go_wp2_with fail
          refine (HRt.out _).mono ?_
          rintro e w1 ⟨rfl, rfl⟩
          go_wp2_with fail
          refine HLg.out.mono ?_
          rintro e w2 ⟨m, q, rfl, hml, m2⟩
          have HBw : Hid (Below _ _ w2) := pen_below m2
          obtain ⟨p0, p1, p2, p3, pf, pms, ple⟩ := m2.pn
          clear m2
          go_wp2_with fail
          exact bodyPost_ret (v := .tuple #[str [], .int .i64 2]) (by simp [results, Tryz.results19, go_sem]) rfl ⟨rfl, HBw.out⟩
        | ok u j =>
          rw [hlg] at hLg
          obtain ⟨V, hV⟩ : ∃ V : ByteArray, V = ⟨u.toArray⟩ := ⟨_, rfl⟩
          have HLg : Hid (Calls Tryz.prog 44 #[.pointer (some ⟨w.heap.size, 0, none⟩)] (penW w k) fun e w' => e = .returned (.string V) ∧ Mv w.heap.size k j 0 0 (penW w k) w') := by unfold Hid; rw [hV]; exact hLg
          have hjl := (iri_len hlg).2.2.1
          by_cases hj : j = k.size
          · subst hj
            by_cases hu : V = k
            · have huk : u = k.data.toList := by rw [← hu, hV]
              obtain ⟨X, hX⟩ : ∃ X : ByteArray, X = ⟨(form t.data.toList l.data.toList k.data.toList).toArray⟩ := ⟨_, rfl⟩
              have hXl : X.size = (form t.data.toList l.data.toList k.data.toList).length := by rw [hX]; exact Back.arr_sz _
              have hwf : writ t.data.toList l.data.toList k.data.toList = form t.data.toList l.data.toList k.data.toList := by
                unfold writ form
                rw [hln]
                simp
              have HWr : Hid (∀ w1, Calls Tryz.prog 45 #[.string t, .string l, .string k] w1 fun e w' => e = .returned (.string X) ∧ w' = w1) := by
                intro w1
                have := written_any w1 t l.data.toList k.data.toList (by omega) (by omega) (by omega)
                rw [hwf, str_data k, str_data l] at this
                rw [hX]
                exact this
              have HL : Hid (litOf t l k = if 200 < X.size then ([], 4) else (form t.data.toList l.data.toList k.data.toList, 0)) := by
                unfold Hid litOf
                rw [if_pos (by rw [hf, isW_iri, hlg, huk]), hXl]
              have HX : Hid (X = ⟨(form t.data.toList l.data.toList k.data.toList).toArray⟩) := hX
              generalize form t.data.toList l.data.toList k.data.toList = F at *
              clear hv lt ll lk hln hf hLg hlg hV hX hXl hwf hjl huk
              subst hu
              by_cases h200 : 200 < X.size
              · rw [if_pos h200] at HL
                rw [HL.out]
                go_enter Tryz.func19, Tryz.ntmps19
                go_wp2_with fail
                refine (HRt.out _).mono ?_
                rintro e w1 ⟨rfl, rfl⟩
                go_wp2_with fail
                refine HLg.out.mono ?_
                rintro e w2 ⟨rfl, m2⟩
                have HBw : Hid (Below _ _ w2) := pen_below m2
                obtain ⟨p0, p1, p2, p3, pf, pms, ple⟩ := m2.pn
                clear m2
                go_wp2_with fail
                refine (HWr.out _).mono ?_
                rintro e w3 ⟨rfl, rfl⟩
                go_wp2_with fail
                exact bodyPost_ret (v := .tuple #[str [], .int .i64 4]) (by simp [results, Tryz.results19, go_sem]) rfl ⟨rfl, HBw.out⟩
              · rw [if_neg h200] at HL
                rw [HL.out]
                go_enter Tryz.func19, Tryz.ntmps19
                go_wp2_with fail
                refine (HRt.out _).mono ?_
                rintro e w1 ⟨rfl, rfl⟩
                go_wp2_with fail
                refine HLg.out.mono ?_
                rintro e w2 ⟨rfl, m2⟩
                have HBw : Hid (Below _ _ w2) := pen_below m2
                obtain ⟨p0, p1, p2, p3, pf, pms, ple⟩ := m2.pn
                clear m2
                go_wp2_with fail
                refine (HWr.out _).mono ?_
                rintro e w3 ⟨rfl, rfl⟩
                go_wp2_with fail
                exact bodyPost_ret (v := .tuple #[.string X, .int .i64 0]) (by simp [results, Tryz.results19, go_sem]) rfl ⟨by rw [HX.out], HBw.out⟩
            · have hub := ne_toList hu
              have HL : Hid (litOf t l k = ([], 2)) := by
                unfold Hid litOf
                rw [hf, if_neg (by
                  rw [isW_iri, hlg]
                  intro e
                  cases e
                  exact hu (hV.trans (Back.arr_data k)))]
              rw [HL.out]
              clear hv lt ll lk hln hf hLg hlg hV hjl
              go_enter Tryz.func19, Tryz.ntmps19
              go_wp2_with fail
              refine (HRt.out _).mono ?_
              rintro e w1 ⟨rfl, rfl⟩
              go_wp2_with fail
              refine HLg.out.mono ?_
              rintro e w2 ⟨rfl, m2⟩
              have HBw : Hid (Below _ _ w2) := pen_below m2
              obtain ⟨p0, p1, p2, p3, pf, pms, ple⟩ := m2.pn
              clear m2
              go_wp2_with fail
              exact bodyPost_ret (v := .tuple #[str [], .int .i64 2]) (by simp [results, Tryz.results19, go_sem]) rfl ⟨rfl, HBw.out⟩
          · have hjlt : j < k.size := by omega
            have HL : Hid (litOf t l k = ([], 2)) := by
              unfold Hid litOf
              rw [hf, if_neg (by rw [isW_iri, hlg]; intro e; cases e; exact hj rfl)]
            rw [HL.out]
            clear hv lt ll lk hln hf hLg hlg hV hj hjl
            go_enter Tryz.func19, Tryz.ntmps19
            go_wp2_with fail
            refine (HRt.out _).mono ?_
            rintro e w1 ⟨rfl, rfl⟩
            go_wp2_with fail
            refine HLg.out.mono ?_
            rintro e w2 ⟨rfl, m2⟩
            have HBw : Hid (Below _ _ w2) := pen_below m2
            obtain ⟨p0, p1, p2, p3, pf, pms, ple⟩ := m2.pn
            clear m2
            go_wp2_with fail
            exact bodyPost_ret (v := .tuple #[str [], .int .i64 2]) (by simp [results, Tryz.results19, go_sem]) rfl ⟨rfl, HBw.out⟩

end Ref
end Go.Proofs.YtnffjoipinhojaaGreatDoor

namespace Go.Proofs.YtnffjoipinhojaaGreatDoor
open Go.RowKit
open Back (vfrom arr)
namespace Ref

theorem ext_len (s : ByteArray) (j : Nat) (hj : j ≤ s.size) : (s.extract j s.size).size = s.size - j := extract_size s j hj

theorem str_ext (s : ByteArray) (i : Nat) : str (sub s i s.size) = .string (s.extract i s.size)   := Go.Proofs.YtnffjoipinhojaaGreatDoor.str_sub s i s.size

theorem ext_ext (s : ByteArray) (j a : Nat) (h : j + a ≤ s.size) : (s.extract j s.size).extract a (s.extract j s.size).size = s.extract (j + a) s.size := by
  apply ByteArray.ext
  rw [ext_len s j (by omega), ByteArray.data_extract, ByteArray.data_extract, ByteArray.data_extract]
  simp
  congr 1
  omega

/-- the parts of a literal in its one form, by where its string ends -/
theorem one_parts {s : ByteArray} {p : Lit} (hp : parts s 0 = .ok p s.size) (hf : form p.text p.lang p.kind = s.data.toList) :
    ∃ j, quoted s 0 = .ok p.text j ∧ j ≤ s.size ∧
      ((j = s.size ∧ p.lang = [] ∧ p.kind = []) ∨ (bt s j = 64 ∧ j < s.size ∧ p.kind = [] ∧ p.lang = sub s (j + 1) s.size) ∨ (bt s j = 94 ∧ j + 2 ≤ s.size ∧ p.lang = [] ∧ p.kind = sub s (j + 2) s.size)) := by
  have hp0 := hp
  unfold parts at hp
  split at hp
  · cases hp
  · rename_i t j hq
    have hv := quoted_valid hq
    split at hp
    · rename_i h64
      have hin := bt_in h64 (by omega)
      split at hp
      · cases hp
      · rename_i k hl
        cases hp
        exact ⟨j, hq, hv.2.2.2, Or.inr (Or.inl ⟨h64, hin, rfl, rfl⟩)⟩
    · rename_i h64
      split at hp
      · rename_i h94
        have hin := bt_in h94 (by omega)
        split at hp
        · cases hp
        · rename_i h95
          have hin2 : j + 1 < s.size := bt_in (c := 94) (by simpa using h95) (by omega)
          split at hp
          · cases hp
          · rename_i m k hi
            cases hp
            refine ⟨j, hq, hv.2.2.2, Or.inr (Or.inr ⟨h94, by omega, rfl, ?_⟩)⟩
            simp only at hf ⊢
            have hm := (iri_len hi).2.2.2
            by_cases hk : m = stringKind
            · exfalso
              have ef : form t [] m = [34] ++ (escaped t ++ 34 :: []) := by
                unfold form
                rw [if_neg (by simp), if_neg (by rw [hk]; simp)]
                simp [List.append_assoc]
              rw [ef] at hf
              have hs : s = arr ([34] ++ (escaped t ++ 34 :: [])) := by rw [hf]
              have hq2 := Back.quoted_one hv.1 []
              rw [← hs, hq] at hq2
              simp only [R.ok.injEq, true_and] at hq2
              have hz : s.size = 1 + (escaped t).length + 1 := by rw [hs, Back.arr_sz]; simp; omega
              omega
            · have ef : form t [] m = [34] ++ (escaped t ++ 34 :: 94 :: 94 :: m) := by
                unfold form
                rw [if_neg (by simp), if_pos ⟨hm, hk⟩]
                simp [List.append_assoc]
              rw [ef] at hf
              have hs : s = arr ([34] ++ (escaped t ++ 34 :: 94 :: 94 :: m)) := by rw [hf]
              have hq2 := Back.quoted_one hv.1 (94 :: 94 :: m)
              rw [← hs, hq] at hq2
              simp only [R.ok.injEq, true_and] at hq2
              unfold sub
              rw [← hf, hq2]
              have e1 : ([34] ++ (escaped t ++ 34 :: 94 :: 94 :: m) : List UInt8) = ([34] ++ (escaped t ++ [34, 94, 94])) ++ m := by simp [List.append_assoc]
              have e2 : ([34] ++ (escaped t ++ [34, 94, 94]) : List UInt8).length = 1 + (escaped t).length + 1 + 2 := by simp; omega
              rw [e1, ← e2, List.drop_left]
              refine (List.take_of_length_le ?_).symm
              have hz : s.size = ([34] ++ (escaped t ++ [34, 94, 94]) : List UInt8).length + m.length := by rw [hs, Back.arr_sz, e1, List.length_append]
              omega
      · cases hp
        exact ⟨_, hq, hv.2.2.2, Or.inl ⟨rfl, rfl, rfl⟩⟩

theorem ext_first (s : ByteArray) (j : Nat) (R0 : ByteArray) (h : s.extract j s.size = R0) (hj : j < s.size) (h0 : 0 < R0.size) : (R0[0].toNat : Int) = bt s j := by
  have h1 := extract_get! s j 0 (by omega)
  rw [h, Nat.add_zero] at h1
  have h2 := get!_bt (s := R0) (i := 0) h0
  have h3 := get!_bt (s := s) (i := j) hj
  rw [bt_lt h0] at h2
  rw [← h3, ← h1, ← h2]

set_option maxHeartbeats 2000000 in
set_option maxRecDepth 20000 in
theorem partsR_any (w : World) (s : ByteArray) :
    Calls Tryz.prog 21 #[.string s] w fun e w' => e = .returned (.tuple #[str (partsOf s).1.text, str (partsOf s).1.lang, str (partsOf s).1.kind, .int .i64 (partsOf s).2]) ∧ Below w.heap.size w w' := by
  have HK : Hid (Calls Tryz.prog 16 #[.string s] w fun e w' => e = .returned (.int .i64 (kindOf s)) ∧ Below w.heap.size w w') := kind_any w s
  by_cases h3 : kindOf s = 3
  · obtain ⟨hs, p, hp, hf⟩ := kind3 h3
    have HP : Hid (partsOf s = (p, 0)) := by unfold Hid partsOf; rw [if_pos h3, hp]
    obtain ⟨j, hq, hj, hc⟩ := one_parts hp hf
    obtain ⟨T, hTt⟩ : ∃ V : ByteArray, V = ⟨p.text.toArray⟩ := ⟨_, rfl⟩
    have HQ : Hid (∀ w1 : World, Calls Tryz.prog 48 #[.pointer (some ⟨w1.heap.size, 0, none⟩)] (penW w1 s) fun e w' => e = .returned (.string T) ∧ Mv w1.heap.size s j 0 0 (penW w1 s) w') := by
      intro w1
      have := quoted_any (penW w1 s) w1.heap.size 0 s 0 (pen_new w1 s (by omega))
      rw [hq] at this
      rw [hTt]
      exact this
    obtain ⟨R0, hR0⟩ : ∃ R0 : ByteArray, s.extract j s.size = R0 := ⟨_, rfl⟩
    have hRs : R0.size = s.size - j := by rw [← hR0]; exact ext_len s j hj
    rw [h3] at HK
    rw [HP.out]
    simp only
    rcases hc with ⟨c1, c2, c3⟩ | ⟨c1, c2, c3, c4⟩ | ⟨c1, c2, c3, c4⟩
    · have HR : Hid ((.tuple #[str p.text, str p.lang, str p.kind, .int .i64 0] : Value) = .tuple #[.string T, .string ⟨#[]⟩, .string ⟨#[]⟩, .int .i64 0]) := by unfold Hid; rw [hTt, c2, c3]
      have hRe : R0.toList.isEmpty = true := by
        rw [ByteArray.toList_eq, List.isEmpty_iff, ← List.length_eq_zero_iff]
        have : R0.data.toList.length = R0.size := Array.length_toList
        omega
      rw [HR.out]
      clear HP h3 hp hf hq hTt c1 c2 c3 HR
      go_enter Tryz.func21, Tryz.ntmps21
      go_wp2_with fail
      refine HK.out.mono ?_
      rintro e w1 ⟨rfl, hb1⟩
      have HB1 : Hid (Below w.heap.size w w1) := hb1
      clear hb1
      go_wp2_with fail
      refine (HQ.out w1).mono ?_
      rintro e w2 ⟨rfl, m2⟩
      have HBw : Hid (Below w.heap.size w w2) := HB1.out.trans ((pen_below m2).mono HB1.out.size)
      obtain ⟨p0, p1, p2, p3, pf, pms, ple⟩ := m2.pn
      clear m2
      go_wp2_with fail
      exact bodyPost_ret (v := .tuple #[.string T, .string ⟨#[]⟩, .string ⟨#[]⟩, .int .i64 0]) (by simp [results, Tryz.results21, go_sem]) rfl ⟨rfl, HBw.out⟩
    · obtain ⟨R1, hR1⟩ : ∃ R1 : ByteArray, R0.extract 1 R0.size = R1 := ⟨_, rfl⟩
      have HR : Hid ((.tuple #[str p.text, str p.lang, str p.kind, .int .i64 0] : Value) = .tuple #[.string T, .string R1, .string ⟨#[]⟩, .int .i64 0]) := by
        unfold Hid
        rw [hTt, c3, c4, str_ext, ← hR1, ← hR0, ext_ext s j 1 (by omega)]
      have hRe : R0.toList.isEmpty = false := by
        rw [ByteArray.toList_eq, Bool.eq_false_iff, ne_eq, List.isEmpty_iff, ← List.length_eq_zero_iff]
        have : R0.data.toList.length = R0.size := Array.length_toList
        omega
      have h0 : 0 < R0.size := by omega
      have hx := ext_first s j R0 hR0 c2 h0
      rw [c1] at hx
      rw [hRs] at hR1
      rw [HR.out]
      clear HP h3 hp hf hq hTt c1 c3 c4 HR
      go_enter Tryz.func21, Tryz.ntmps21
      go_wp2_with fail
      refine HK.out.mono ?_
      rintro e w1 ⟨rfl, hb1⟩
      have HB1 : Hid (Below w.heap.size w w1) := hb1
      clear hb1
      go_wp2_with fail
      refine (HQ.out w1).mono ?_
      rintro e w2 ⟨rfl, m2⟩
      have HBw : Hid (Below w.heap.size w w2) := HB1.out.trans ((pen_below m2).mono HB1.out.size)
      obtain ⟨p0, p1, p2, p3, pf, pms, ple⟩ := m2.pn
      clear m2
      go_wp2_with fail
      go_quiet (fail)
      go_wp2_with fail
      exact bodyPost_ret (v := .tuple #[.string T, .string R1, .string ⟨#[]⟩, .int .i64 0]) (by simp [results, Tryz.results21, go_sem]) rfl ⟨rfl, below_drewN HBw.out _⟩
    · obtain ⟨R1, hR1⟩ : ∃ R1 : ByteArray, R0.extract 2 R0.size = R1 := ⟨_, rfl⟩
      have HR : Hid ((.tuple #[str p.text, str p.lang, str p.kind, .int .i64 0] : Value) = .tuple #[.string T, .string ⟨#[]⟩, .string R1, .int .i64 0]) := by
        unfold Hid
        rw [hTt, c3, c4, str_ext, ← hR1, ← hR0, ext_ext s j 2 (by omega)]
      have hRe : R0.toList.isEmpty = false := by
        rw [ByteArray.toList_eq, Bool.eq_false_iff, ne_eq, List.isEmpty_iff, ← List.length_eq_zero_iff]
        have : R0.data.toList.length = R0.size := Array.length_toList
        omega
      have h0 : 0 < R0.size := by omega
      have h2 : 2 ≤ R0.size := by omega
      have hx := ext_first s j R0 hR0 (by omega) h0
      rw [c1] at hx
      rw [hRs] at hR1
      rw [HR.out]
      clear HP h3 hp hf hq hTt c1 c3 c4 HR
      go_enter Tryz.func21, Tryz.ntmps21
      go_wp2_with fail
      refine HK.out.mono ?_
      rintro e w1 ⟨rfl, hb1⟩
      have HB1 : Hid (Below w.heap.size w w1) := hb1
      clear hb1
      go_wp2_with fail
      refine (HQ.out w1).mono ?_
      rintro e w2 ⟨rfl, m2⟩
      have HBw : Hid (Below w.heap.size w w2) := HB1.out.trans ((pen_below m2).mono HB1.out.size)
      obtain ⟨p0, p1, p2, p3, pf, pms, ple⟩ := m2.pn
      clear m2
      go_wp2_with fail
      go_quiet (fail)
      go_wp2_with fail
      exact bodyPost_ret (v := .tuple #[.string T, .string ⟨#[]⟩, .string R1, .int .i64 0]) (by simp [results, Tryz.results21, go_sem]) rfl ⟨rfl, below_drewN HBw.out _⟩
  · have HP : Hid (partsOf s = (⟨[], [], []⟩, 4)) := by unfold Hid partsOf; rw [if_neg h3]
    rw [HP.out]
    simp only
    have hk : ((kindOf s : Int) != 3) = true := by simp; omega
    generalize kindOf s = k at *
    go_enter Tryz.func21, Tryz.ntmps21
    go_wp2_with fail
    refine HK.out.mono ?_
    rintro e w1 ⟨rfl, hb1⟩
    go_wp2_with fail
    exact bodyPost_ret (v := .tuple #[str [], str [], str [], .int .i64 4]) (by simp [results, Tryz.results21, go_sem]) rfl ⟨rfl, hb1⟩

end Ref
end Go.Proofs.YtnffjoipinhojaaGreatDoor

namespace Go.Proofs.YtnffjoipinhojaaGreatDoor
open Go.RowKit
open Back (vfrom arr)

theorem litOf_num (t l k : ByteArray) : (litOf t l k).2 = 0 ∨ (litOf t l k).2 = 1 ∨ (litOf t l k).2 = 2 ∨ (litOf t l k).2 = 4 := by
  unfold litOf
  split
  · split <;> simp
  · simp
theorem partsOf_num (s : ByteArray) : (partsOf s).2 = 0 ∨ (partsOf s).2 = 1 ∨ (partsOf s).2 = 2 ∨ (partsOf s).2 = 4 := by
  unfold partsOf
  split
  · split <;> simp
  · simp

set_option maxHeartbeats 4000000 in
set_option maxRecDepth 20000 in
theorem termLiterals_any (w : World) (t l k s : ByteArray) (hT : Tabs w) (hG : 8 ≤ w.heap.size) (ht : t.size ≤ 1099511627776) (hl : l.size ≤ 1099511627776) (hk : k.size ≤ 1099511627776) :
    Calls Tryz.prog 5 #[.string t, .string l, .string k, .string s] w fun e w' => e = .returned (.bool true) ∧ Below w.heap.size w w' := by
  have hTT : ∀ w1, Below w.heap.size w w1 → Tabs w1 := fun w1 hb => hT.below hb (World.block_lt_of_cell? w ⟨_, _, none⟩ (hT.1 0 (by omega))) (World.block_lt_of_cell? w ⟨_, _, none⟩ (hT.2 0 (by omega)).1)
  have n1 := litOf_num t l k
  have n2 := partsOf_num s
  have h1 := lit_any w t l k hT hG ht hl hk
  have h2 : ∀ w1, Below w.heap.size w w1 → Calls Tryz.prog 19 #[.string t, .string l, .string k] w1 fun e w' => e = .returned (.tuple #[str (litOf t l k).1, .int .i64 (litOf t l k).2]) ∧ Below w.heap.size w w' := by
    intro w1 hb
    refine (Ref.lit_any w1 t l k ht hl hk).mono ?_
    rintro e w2 ⟨rfl, hb2⟩
    exact ⟨rfl, hb.trans (hb2.mono hb.size)⟩
  have h3 : ∀ w1, Below w.heap.size w w1 → Calls Tryz.prog 20 #[.string s] w1 fun e w' => e = .returned (.tuple #[str (partsOf s).1.text, str (partsOf s).1.lang, str (partsOf s).1.kind, .int .i64 (partsOf s).2]) ∧ Below w.heap.size w w' := by
    intro w1 hb
    refine (partsP_any w1 s (hTT w1 hb) (Nat.le_trans hG hb.size)).mono ?_
    rintro e w2 ⟨rfl, hb2⟩
    exact ⟨rfl, hb.trans (hb2.mono hb.size)⟩
  have h4 : ∀ w1, Below w.heap.size w w1 → Calls Tryz.prog 21 #[.string s] w1 fun e w' => e = .returned (.tuple #[str (partsOf s).1.text, str (partsOf s).1.lang, str (partsOf s).1.kind, .int .i64 (partsOf s).2]) ∧ Below w.heap.size w w' := by
    intro w1 hb
    refine (Ref.partsR_any w1 s).mono ?_
    rintro e w2 ⟨rfl, hb2⟩
    exact ⟨rfl, hb.trans (hb2.mono hb.size)⟩
  generalize litOf t l k = L at *
  generalize partsOf s = P at *
  obtain ⟨Ls, Ln⟩ := L
  obtain ⟨⟨Pt, Pl, Pk⟩, Pn⟩ := P
  simp only at n1 n2 h1 h2 h3 h4
  obtain ⟨V, hV⟩ : ∃ V : ByteArray, V = ⟨Ls.toArray⟩ := ⟨_, rfl⟩
  obtain ⟨X, hX⟩ : ∃ V : ByteArray, V = ⟨Pt.toArray⟩ := ⟨_, rfl⟩
  obtain ⟨Y, hY⟩ : ∃ V : ByteArray, V = ⟨Pl.toArray⟩ := ⟨_, rfl⟩
  obtain ⟨Z, hZ⟩ : ∃ V : ByteArray, V = ⟨Pk.toArray⟩ := ⟨_, rfl⟩
  have H1 : Hid (Calls Tryz.prog 18 #[.string t, .string l, .string k] w fun e w' => e = .returned (.tuple #[.string V, .int .i64 Ln]) ∧ Below w.heap.size w w') := by unfold Hid; rw [hV]; exact h1
  have H2 : Hid (∀ w1, Below w.heap.size w w1 → Calls Tryz.prog 19 #[.string t, .string l, .string k] w1 fun e w' => e = .returned (.tuple #[.string V, .int .i64 Ln]) ∧ Below w.heap.size w w') := by unfold Hid; rw [hV]; exact h2
  have H3 : Hid (∀ w1, Below w.heap.size w w1 → Calls Tryz.prog 20 #[.string s] w1 fun e w' => e = .returned (.tuple #[.string X, .string Y, .string Z, .int .i64 Pn]) ∧ Below w.heap.size w w') := by unfold Hid; rw [hX, hY, hZ]; exact h3
  have H4 : Hid (∀ w1, Below w.heap.size w w1 → Calls Tryz.prog 21 #[.string s] w1 fun e w' => e = .returned (.tuple #[.string X, .string Y, .string Z, .int .i64 Pn]) ∧ Below w.heap.size w w') := by unfold Hid; rw [hX, hY, hZ]; exact h4
  have HN1 : Hid (∀ w1, Calls Tryz.prog 12 #[.int .i64 Ln] w1 fun e w' => e = .returned (.int .i64 Ln) ∧ w' = w1) := fun w1 => num_any w1 Ln n1
  have HN2 : Hid (∀ w1, Calls Tryz.prog 12 #[.int .i64 Pn] w1 fun e w' => e = .returned (.int .i64 Pn) ∧ w' = w1) := fun w1 => num_any w1 Pn n2
  clear hT hG hTT n1 n2 h1 h2 h3 h4 hV hX hY hZ
  go_enter Tryz.func5, Tryz.ntmps5
  go_wp2_with fail
  refine H1.out.mono ?_
  rintro e w1 ⟨rfl, hb1⟩
  have HB1 : Hid (Below w.heap.size w w1) := hb1
  clear hb1
  go_wp2_with fail
  refine (H2.out _ HB1.out).mono ?_
  rintro e w2 ⟨rfl, hb2⟩
  have HB2 : Hid (Below w.heap.size w w2) := hb2
  clear hb2
  go_wp2_with fail
  refine (HN1.out _).mono ?_
  rintro e w3 ⟨rfl, rfl⟩
  go_wp2_with fail
  refine (H3.out _ HB2.out).mono ?_
  rintro e w4 ⟨rfl, hb4⟩
  have HB4 : Hid (Below w.heap.size w w4) := hb4
  clear hb4
  go_wp2_with fail
  refine (H4.out _ HB4.out).mono ?_
  rintro e w5 ⟨rfl, hb5⟩
  have HB5 : Hid (Below w.heap.size w w5) := hb5
  clear hb5
  go_wp2_with fail
  refine (HN2.out _).mono ?_
  rintro e w6 ⟨rfl, rfl⟩
  go_wp2_with fail
  go_ret
  exact ⟨ret_bool (by simp), HB5.out⟩

end Go.Proofs.YtnffjoipinhojaaGreatDoor

