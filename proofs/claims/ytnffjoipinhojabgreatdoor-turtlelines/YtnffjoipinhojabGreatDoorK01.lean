import Derived.Test.YtnffjoipinhojabGreatDoorK00
import Derived.Test.YtnffjoipinhojabGreatDoorProg
import Derived.WalkKit
import Derived.WalkLawsBesides
import Derived.WalkSpells
import Derived.Below
import Derived.StillTailTactics
import Derived.BigQuiet
import Derived.Deep.QuietTactic
import Derived.Shelf.Strings.OnBuilder
import Derived.Shelf.Small.Utf8
import Derived.Shelf.Small.Strs
import Derived.Shelf.Strings.BuilderK
import Derived.Shelf.Strings.BuilderRune
import Derived.Shelf.Strings.Runes
import Derived.Shelf.Unicode.DecodeAny
namespace Go.Proofs.YtnffjoipinhojabGreatDoor
open Go.RowKit

theorem ret_int {k : IntKind} {a b : Int} (h : a = b) : Ending.returned (.int k a) = .returned (.int k b) := by rw [h]
theorem ret_bool {a b : Bool} (h : a = b) : Ending.returned (.bool a) = .returned (.bool b) := by rw [h]


theorem ended_any (w : World) (b i : Nat) (s : ByteArray) (h : Rd w b s i) :
    Calls Tryz.prog 110 #[.pointer (some ⟨b, 0, none⟩)] w fun e w' => e = .returned (.bool (decide (i = s.size))) ∧ ∃ n, w' = w.drewN n := by
  obtain ⟨c0, c1, fz, le, hs⟩ := h
  go_enter Tryz.func110, Tryz.ntmps110
  go_wp2
  go_quiet (fail)
  go_wp2
  go_ret
  exact ⟨ret_bool (by rw [Bool.eq_iff_iff]; simp; omega), nq, rfl⟩

theorem sees_any (w : World) (b i : Nat) (s : ByteArray) (c : Int) (h : Rd w b s i) (h0 : 0 ≤ c) (h1 : c < 256) :
    Calls Tryz.prog 107 #[.pointer (some ⟨b, 0, none⟩), .int .u8 c] w fun e w' => e = .returned (.bool (decide (bt s i = c))) ∧ ∃ n, w' = w.drewN n := by
  have H : Hid (Rd w b s i) := h
  obtain ⟨c0, c1, fz, le, hs⟩ := h
  by_cases hi : i = s.size
  · have hd : decide (i = s.size) = true := by simpa using hi
    have hb := bt_end (s := s) (i := i) (by omega)
    go_enter Tryz.func107, Tryz.ntmps107
    go_wp2
    go_quiet ((go_at_call 110; exact Calls.quiet_of (ended_any _ _ _ _ (H.out.drewN _))))
    go_wp2
    go_ret
    exact ⟨ret_bool (by rw [Bool.eq_iff_iff]; simp; omega), nq, rfl⟩
  · have hd : decide (i = s.size) = false := by simpa using hi
    have hlt : i < s.size := by omega
    have hb := bt_lt hlt
    have HB : Hid (bt s i = s[i].toNat) := hb
    clear hb
    go_enter Tryz.func107, Tryz.ntmps107
    go_wp2
    go_quiet ((go_at_call 110; exact Calls.quiet_of (ended_any _ _ _ _ (H.out.drewN _))))
    go_wp2
    go_ret
    exact ⟨ret_bool (by rw [HB.out, Bool.eq_iff_iff]; simp), nq, rfl⟩

theorem take_any (w : World) (b i : Nat) (s : ByteArray) (c : Int) (h : Rd w b s i) (h0 : 0 ≤ c) (h1 : c < 256) :
    Calls Tryz.prog 64 #[.pointer (some ⟨b, 0, none⟩), .int .u8 c] w fun e w' => e = .returned (.bool (decide (bt s i = c))) ∧ Adv b (if bt s i = c then i + 1 else i) w w' := by
  have H : Hid (Rd w b s i) := h
  obtain ⟨c0, c1, fz, le, hs⟩ := h
  by_cases hi : bt s i = c
  · have hlt := bt_in hi h1
    simp only [if_pos hi]
    have hd : decide (bt s i = c) = true := by simpa using hi
    clear hi
    go_enter Tryz.func64, Tryz.ntmps64
    go_wp2_with (go_at_call 107; refine (sees_any _ _ _ _ _ (H.out) h0 h1).mono ?_; rintro e w' ⟨rfl, m, rfl⟩)
    go_ret
    exact ⟨ret_bool hd.symm, (H.out.stayN m).trans (Adv.set b (i + 1) (w.drewN m) 0)⟩
  · simp only [if_neg hi]
    have hd : decide (bt s i = c) = false := by simpa using hi
    clear hi
    go_enter Tryz.func64, Tryz.ntmps64
    go_wp2_with (go_at_call 107; refine (sees_any _ _ _ _ _ (H.out) h0 h1).mono ?_; rintro e w' ⟨rfl, m, rfl⟩)
    go_ret
    exact ⟨ret_bool (by simp [hd]), H.out.stayN m⟩

/-- what a reader panics with -/
def stopV (n i : Int) : Value := .iface 111 (.agg #[.iface 98 (.agg #[.int .i64 i, .iface 94 (.agg #[.int .i64 n])])])
abbrev stopE (n i : Int) : Ending := .panicked [{ v := stopV n i, recovered := false }]

theorem GiveUp_any (w : World) (t : TypeId) (v : Value) :
    Calls Tryz.prog 162 #[.iface t v] w fun e w' => e = .panicked [{ v := .iface 111 (.agg #[.iface t v]), recovered := false }] ∧ w' = w := by
  go_enter Tryz.func162, Tryz.ntmps162
  go_wp2
  exact ⟨rfl, rfl, rfl⟩

theorem Refuse_any (w : World) (n i : Int) :
    Calls Tryz.prog 163 #[.int .i64 n, .int .i64 i] w fun e w' => e = stopE n i ∧ w' = w := by
  go_enter Tryz.func163, Tryz.ntmps163
  go_wp2
  exact ⟨rfl, rfl, rfl, rfl⟩

theorem refuse_any (w : World) (b i : Nat) (s : ByteArray) (h : Rd w b s i) :
    Calls Tryz.prog 111 #[.pointer (some ⟨b, 0, none⟩)] w fun e w' => e = stopE 2 i ∧ w' = w := by
  obtain ⟨c0, c1, fz, le, hs⟩ := h
  go_enter Tryz.func111, Tryz.ntmps111
  go_wp2_with (go_at_call 163; refine (Refuse_any _ _ _).mono ?_; rintro e w' ⟨rfl, rfl⟩)
  exact ⟨rfl, rfl, rfl⟩

theorem want_ok (w : World) (b i : Nat) (s : ByteArray) (c : Int) (h : Rd w b s i) (h0 : 0 ≤ c) (h1 : c < 256) (hi : bt s i = c) :
    Calls Tryz.prog 126 #[.pointer (some ⟨b, 0, none⟩), .int .u8 c] w fun e w' => e = .returned (.tuple #[]) ∧ Adv b (i + 1) w w' := by
  have ht := take_any w b i s c h h0 h1
  simp only [if_pos hi] at ht
  have hd : decide (bt s i = c) = true := by simpa using hi
  clear hi
  go_enter Tryz.func126, Tryz.ntmps126
  go_wp2_with (go_at_call 64; refine ht.mono ?_; rintro e w' ⟨rfl, hA⟩)
  go_end0
  exact ⟨rfl, hA⟩

theorem want_bad (w : World) (b i : Nat) (s : ByteArray) (c : Int) (h : Rd w b s i) (h0 : 0 ≤ c) (h1 : c < 256) (hi : bt s i ≠ c) :
    Calls Tryz.prog 126 #[.pointer (some ⟨b, 0, none⟩), .int .u8 c] w fun e w' => e = stopE 2 i ∧ Adv b i w w' := by
  have ht := take_any w b i s c h h0 h1
  simp only [if_neg hi] at ht
  have hd : decide (bt s i = c) = false := by simpa using hi
  clear hi
  go_enter Tryz.func126, Tryz.ntmps126
  go_wp2_with (first
    | (go_at_call 64; refine ht.mono ?_; rintro e w' ⟨rfl, hA⟩)
    | (go_at_call 111; refine (refuse_any _ _ _ _ (h.adv hA h.le)).mono ?_; rintro e w' ⟨rfl, rfl⟩))
  exact ⟨rfl, rfl, hA⟩

theorem wantEnd_ok (w : World) (b i : Nat) (s : ByteArray) (h : Rd w b s i) (hi : i = s.size) :
    Calls Tryz.prog 65 #[.pointer (some ⟨b, 0, none⟩)] w fun e w' => e = .returned (.tuple #[]) ∧ Adv b i w w' := by
  have ht := ended_any w b i s h
  have hd : decide (i = s.size) = true := by simpa using hi
  clear hi
  go_enter Tryz.func65, Tryz.ntmps65
  go_wp2_with (go_at_call 110; refine ht.mono ?_; rintro e w' ⟨rfl, m, rfl⟩)
  go_end0
  exact ⟨rfl, h.stayN m⟩

theorem wantEnd_bad (w : World) (b i : Nat) (s : ByteArray) (h : Rd w b s i) (hi : i ≠ s.size) :
    Calls Tryz.prog 65 #[.pointer (some ⟨b, 0, none⟩)] w fun e w' => e = stopE 2 i ∧ Adv b i w w' := by
  have ht := ended_any w b i s h
  have hd : decide (i = s.size) = false := by simpa using hi
  clear hi
  go_enter Tryz.func65, Tryz.ntmps65
  go_wp2_with (first
    | (go_at_call 110; refine ht.mono ?_; rintro e w' ⟨rfl, m, rfl⟩)
    | (go_at_call 111; refine (refuse_any _ _ _ _ (h.drewN m)).mono ?_; rintro e w' ⟨rfl, rfl⟩))
  exact ⟨rfl, rfl, h.stayN m⟩

theorem place_any (w : World) (b i : Nat) (s : ByteArray) (h : Rd w b s i) :
    Calls Tryz.prog 90 #[.pointer (some ⟨b, 0, none⟩)] w fun e w' => e = .returned (.int .i64 i) ∧ w' = w := by
  obtain ⟨c0, c1, fz, le, hs⟩ := h
  go_enter Tryz.func90, Tryz.ntmps90
  go_wp2
  go_ret
  exact ⟨rfl, rfl⟩

end Go.Proofs.YtnffjoipinhojabGreatDoor

namespace Go.Proofs
open Go.Shelf
def Tryz.lays159_ren : Go.Shelf.Ren := ⟨fun | 159 => 223 | 165 => 228 | 166 => 33 | 167 => 130 | 169 => 24 | 230 => 229 | 204 => 230 | 240 => 62 | 241 => 232 | 197 => 221 | 118 => 233 | 168 => 128 | 270 => 234 | 262 => 235 | 276 => 104 | 277 => 240 | 260 => 227 | 242 => 180 | 313 => 241 | 278 => 209 | 274 => 247 | 275 => 248 | n => n, fun | 9 => 9 | 4 => 4 | 3 => 3 | 5 => 5 | 72 => 59 | 0 => 0 | 76 => 84 | 75 => 52 | 107 => 270 | 70 => 56 | 20 => 20 | 37 => 57 | 127 => 103 | 21 => 21 | 105 => 254 | 164 => 131 | 162 => 286 | 203 => 236 | 119 => 272 | 46 => 173 | 139 => 275 | 138 => 274 | 51 => 260 | 160 => 291 | 208 => 298 | 206 => 296 | 80 => 63 | n => n, fun | 13 => 4 | 3 => 2 | 4 => 3 | n => n⟩
theorem Tryz.lays159 : Go.Proofs.Lays.n159 Tryz.prog Tryz.lays159_ren := {
  mixed := by kernel_rfl
  f118 := Tryz.func233.trans (congrArg some (by kernel_rfl))
  f159 := Tryz.func223.trans (congrArg some (by kernel_rfl))
  f165 := Tryz.func228.trans (congrArg some (by kernel_rfl))
  f166 := Tryz.func33.trans (congrArg some (by kernel_rfl))
  f167 := Tryz.func130.trans (congrArg some (by kernel_rfl))
  f168 := Tryz.func128.trans (congrArg some (by kernel_rfl))
  f169 := Tryz.func24.trans (congrArg some (by kernel_rfl))
  f197 := Tryz.func221.trans (congrArg some (by kernel_rfl))
  f204 := Tryz.func230.trans (congrArg some (by kernel_rfl))
  f230 := Tryz.func229.trans (congrArg some (by kernel_rfl))
  f240 := Tryz.func62.trans (congrArg some (by kernel_rfl))
  f241 := Tryz.func232.trans (congrArg some (by kernel_rfl))
  f242 := Tryz.func180.trans (congrArg some (by kernel_rfl))
  f260 := Tryz.func227.trans (congrArg some (by kernel_rfl))
  f262 := Tryz.func235.trans (congrArg some (by kernel_rfl))
  f270 := Tryz.func234.trans (congrArg some (by kernel_rfl))
  f274 := Tryz.func247.trans (congrArg some (by kernel_rfl))
  f275 := Tryz.func248.trans (congrArg some (by kernel_rfl))
  f276 := Tryz.func104.trans (congrArg some (by kernel_rfl))
  f277 := Tryz.func240.trans (congrArg some (by kernel_rfl))
  f278 := Tryz.func209.trans (congrArg some (by kernel_rfl))
  f313 := Tryz.func241.trans (congrArg some (by kernel_rfl))
  t0 := Tryz.underlying0
  a0 := Tryz.isAgg0
  z0 := Tryz.sizeOf0
  v0 := Tryz.zeroValue0
  t3 := Tryz.underlying3
  a3 := Tryz.isAgg3
  z3 := Tryz.sizeOf3
  v3 := Tryz.zeroValue3
  t4 := Tryz.underlying4
  a4 := Tryz.isAgg4
  z4 := Tryz.sizeOf4
  v4 := Tryz.zeroValue4
  t5 := Tryz.underlying5
  a5 := Tryz.isAgg5
  z5 := Tryz.sizeOf5
  v5 := Tryz.zeroValue5
  t9 := Tryz.underlying9
  a9 := Tryz.isAgg9
  z9 := Tryz.sizeOf9
  v9 := Tryz.zeroValue9
  t20 := Tryz.underlying20
  a20 := Tryz.isAgg20
  z20 := Tryz.sizeOf20
  v20 := Tryz.zeroValue20
  t21 := Tryz.underlying21
  a21 := Tryz.isAgg21
  z21 := Tryz.sizeOf21
  v21 := Tryz.zeroValue21
  t37 := Tryz.underlying57
  a37 := Tryz.isAgg57
  z37 := Tryz.sizeOf57
  v37 := Tryz.zeroValue57
  t46 := Tryz.underlying173
  a46 := Tryz.isAgg173
  z46 := Tryz.sizeOf173
  v46 := Tryz.zeroValue173
  t51 := Tryz.underlying260
  a51 := Tryz.isAgg260
  z51 := Tryz.sizeOf260
  v51 := Tryz.zeroValue260
  t70 := Tryz.underlying56
  a70 := Tryz.isAgg56
  z70 := Tryz.sizeOf56
  v70 := Tryz.zeroValue56
  t72 := Tryz.underlying59
  a72 := Tryz.isAgg59
  z72 := Tryz.sizeOf59
  v72 := Tryz.zeroValue59
  t75 := Tryz.underlying52
  a75 := Tryz.isAgg52
  z75 := Tryz.sizeOf52
  v75 := Tryz.zeroValue52
  t76 := Tryz.underlying84
  a76 := Tryz.isAgg84
  z76 := Tryz.sizeOf84
  v76 := Tryz.zeroValue84
  t105 := Tryz.underlying254
  a105 := Tryz.isAgg254
  z105 := Tryz.sizeOf254
  v105 := Tryz.zeroValue254
  t107 := Tryz.underlying270
  a107 := Tryz.isAgg270
  z107 := Tryz.sizeOf270
  v107 := Tryz.zeroValue270
  t119 := Tryz.underlying272
  a119 := Tryz.isAgg272
  z119 := Tryz.sizeOf272
  t127 := Tryz.underlying103
  a127 := Tryz.isAgg103
  z127 := Tryz.sizeOf103
  v127 := Tryz.zeroValue103
  t138 := Tryz.underlying274
  a138 := Tryz.isAgg274
  z138 := Tryz.sizeOf274
  v138 := Tryz.zeroValue274
  t139 := Tryz.underlying275
  a139 := Tryz.isAgg275
  z139 := Tryz.sizeOf275
  v139 := Tryz.zeroValue275
  t160 := Tryz.underlying291
  a160 := Tryz.isAgg291
  z160 := Tryz.sizeOf291
  v160 := Tryz.zeroValue291
  t162 := Tryz.underlying286
  a162 := Tryz.isAgg286
  z162 := Tryz.sizeOf286
  v162 := Tryz.zeroValue286
  t164 := Tryz.underlying131
  a164 := Tryz.isAgg131
  z164 := Tryz.sizeOf131
  v164 := Tryz.zeroValue131
  t203 := Tryz.underlying236
  a203 := Tryz.isAgg236
  z203 := Tryz.sizeOf236
  v203 := Tryz.zeroValue236
  t206 := Tryz.underlying296
  a206 := Tryz.isAgg296
  z206 := Tryz.sizeOf296
  v206 := Tryz.zeroValue296
  t208 := Tryz.underlying298
  a208 := Tryz.isAgg298
  z208 := Tryz.sizeOf298
  v208 := Tryz.zeroValue298
  g3 := by kernel_rfl
  g4 := by kernel_rfl
  g13 := by kernel_rfl }
theorem Tryz.Builder_Extra_159 : Builder.Extra Tryz.prog Tryz.lays159_ren := {
  sizeBuilder := by kernel_rfl
  liesBuilder := by kernel_rfl
  t5 := Tryz.underlying5
  a5 := Tryz.isAgg5
  z5 := Tryz.sizeOf5
  v5 := Tryz.zeroValue5
  infoByte := by kernel_rfl
  cellsByte := by kernel_rfl
  sizeByte := by kernel_rfl
  neB5 := by decide }
def Tryz.lays106_ren : Go.Shelf.Ren := ⟨fun | 106 => 113 | 213 => 171 | 265 => 207 | n => n, fun | 9 => 9 | 3 => 3 | n => n, fun | n => n⟩
theorem Tryz.lays106 : Go.Proofs.Lays.n106 Tryz.prog Tryz.lays106_ren := {
  mixed := by kernel_rfl
  f106 := Tryz.func113.trans (congrArg some (by kernel_rfl))
  f213 := Tryz.func171.trans (congrArg some (by kernel_rfl))
  f265 := Tryz.func207.trans (congrArg some (by kernel_rfl))
  t3 := Tryz.underlying3
  a3 := Tryz.isAgg3
  z3 := Tryz.sizeOf3
  v3 := Tryz.zeroValue3
  t9 := Tryz.underlying9
  a9 := Tryz.isAgg9
  z9 := Tryz.sizeOf9
  v9 := Tryz.zeroValue9 }
def Tryz.lays151_ren : Go.Shelf.Ren := ⟨fun | 151 => 176 | 152 => 182 | 137 => 166 | 119 => 211 | 224 => 212 | 225 => 213 | 217 => 204 | 266 => 224 | n => n, fun | 9 => 9 | 21 => 21 | 4 => 4 | 3 => 3 | 5 => 5 | 0 => 0 | 46 => 173 | n => n, fun | n => n⟩
theorem Tryz.lays151 : Go.Proofs.Lays.n151 Tryz.prog Tryz.lays151_ren := {
  mixed := by kernel_rfl
  f119 := Tryz.func211.trans (congrArg some (by kernel_rfl))
  f137 := Tryz.func166.trans (congrArg some (by kernel_rfl))
  f151 := Tryz.func176.trans (congrArg some (by kernel_rfl))
  f152 := Tryz.func182.trans (congrArg some (by kernel_rfl))
  f217 := Tryz.func204.trans (congrArg some (by kernel_rfl))
  f224 := Tryz.func212.trans (congrArg some (by kernel_rfl))
  f225 := Tryz.func213.trans (congrArg some (by kernel_rfl))
  f266 := Tryz.func224.trans (congrArg some (by kernel_rfl))
  t0 := Tryz.underlying0
  a0 := Tryz.isAgg0
  z0 := Tryz.sizeOf0
  v0 := Tryz.zeroValue0
  t3 := Tryz.underlying3
  a3 := Tryz.isAgg3
  z3 := Tryz.sizeOf3
  v3 := Tryz.zeroValue3
  t4 := Tryz.underlying4
  a4 := Tryz.isAgg4
  z4 := Tryz.sizeOf4
  v4 := Tryz.zeroValue4
  t5 := Tryz.underlying5
  a5 := Tryz.isAgg5
  z5 := Tryz.sizeOf5
  v5 := Tryz.zeroValue5
  t9 := Tryz.underlying9
  a9 := Tryz.isAgg9
  z9 := Tryz.sizeOf9
  v9 := Tryz.zeroValue9
  t21 := Tryz.underlying21
  a21 := Tryz.isAgg21
  z21 := Tryz.sizeOf21
  v21 := Tryz.zeroValue21
  t46 := Tryz.underlying173
  a46 := Tryz.isAgg173
  z46 := Tryz.sizeOf173
  v46 := Tryz.zeroValue173 }
end Go.Proofs

