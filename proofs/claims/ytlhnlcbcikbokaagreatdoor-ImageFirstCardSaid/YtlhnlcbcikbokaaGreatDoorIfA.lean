import Derived.Test.YtlhnlcbcikbokaaGreatDoorRiP
import Derived.Test.YtlhnlcbcikbokaaGreatDoorRiR
import Derived.Test.YtlhnlcbcikbokaaGreatDoorProg
import Derived.KernelRfl
set_option linter.unusedVariables false
set_option maxRecDepth 100000
namespace Go.Proofs.YtlhnlcbcikbokaaGreatDoor
open Go.Lift
def tab:List (TypeId×Ty):=[(2,(.int .i64)),(3,(.int .i64)),(4,.bool),(5,(.int .u8)),(9,.str),(23,(.slice (.pair (.int .u8) (.pair (.int .i64) (.pair (.int .i64) (.pair (.slice (.pair .str (.pair (.int .i64) .unit))) .unit)))))),(24,(.slice .str)),(25,(.slice (.pair .str (.pair (.int .i64) (.pair (.int .i64) (.pair (.slice (.pair .str (.pair (.int .i64) .unit))) (.pair (.slice (.pair (.int .u8) (.pair (.int .i64) (.pair (.int .i64) (.pair (.int .i64) .unit))))) (.pair (.slice (.pair (.int .i64) (.pair (.int .u64) .unit))) (.pair (.slice (.pair (.int .i64) (.pair (.int .u64) .unit))) .unit))))))))),(27,(.pair (.slice (.pair (.int .u8) (.pair (.int .i64) (.pair (.int .i64) (.pair (.slice (.pair .str (.pair (.int .i64) .unit))) .unit))))) (.pair (.slice .str) (.pair (.slice (.pair .str (.pair (.int .i64) (.pair (.int .i64) (.pair (.slice (.pair .str (.pair (.int .i64) .unit))) (.pair (.slice (.pair (.int .u8) (.pair (.int .i64) (.pair (.int .i64) (.pair (.int .i64) .unit))))) (.pair (.slice (.pair (.int .i64) (.pair (.int .u64) .unit))) (.pair (.slice (.pair (.int .i64) (.pair (.int .u64) .unit))) .unit)))))))) .unit)))),(29,(.int .i64)),(31,(.pair (.int .u8) (.pair (.int .i64) (.pair (.int .i64) (.pair (.int .i64) .unit))))),(32,(.int .u64)),(40,(.slice (.int .u8))),(64,(.slice (.pair .str (.pair (.int .i64) .unit)))),(65,(.slice (.pair (.int .u8) (.pair (.int .i64) (.pair (.int .i64) (.pair (.int .i64) .unit)))))),(66,(.slice (.pair (.int .i64) (.pair (.int .u64) .unit)))),(68,(.pair .str (.pair (.int .i64) (.pair (.int .i64) (.pair (.slice (.pair .str (.pair (.int .i64) .unit))) (.pair (.slice (.pair (.int .u8) (.pair (.int .i64) (.pair (.int .i64) (.pair (.int .i64) .unit))))) (.pair (.slice (.pair (.int .i64) (.pair (.int .u64) .unit))) (.pair (.slice (.pair (.int .i64) (.pair (.int .u64) .unit))) .unit)))))))),(70,(.pair (.int .u8) (.pair (.int .i64) (.pair (.int .i64) (.pair (.slice (.pair .str (.pair (.int .i64) .unit))) .unit))))),(72,(.pair .str (.pair (.int .i64) .unit))),(74,(.pair (.int .i64) (.pair (.int .u64) .unit))),(77,(.pair (.slice (.int .u8)) (.pair (.int .i64) .unit))),(79,(.pair (.pair (.slice (.int .u8)) (.pair (.int .i64) .unit)) (.pair .bool .unit))),(95,(.ptr (.pair (.pair (.slice (.int .u8)) (.pair (.int .i64) .unit)) (.pair .bool .unit)))),(97,.fn),(99,.fn),(102,.fn),(109,.fn),(111,.fn),(113,.fn),(122,(.slice (.int .i64))),(138,.fn),(141,.fn),(146,.fn),(149,.fn),(153,.fn),(156,(.arr 3 (.int .i64))),(186,(.slice (.pair (.int .i64) (.pair (.int .i64) .unit)))),(190,(.pair (.int .i64) (.pair (.int .i64) .unit))),(193,(.mp .str .bool)),(195,(.int .u64)),(204,.fn),(206,(.ptr (.pair (.slice (.int .u8)) (.pair (.int .i64) .unit)))),(208,(.int .u8)),(209,(.arr 3 (.int .u8))),(211,(.pair .str (.pair (.arr 3 (.int .u8)) .unit))),(212,(.arr 35 (.pair .str (.pair (.arr 3 (.int .u8)) .unit)))),(223,.fn),(225,(.arr 10 (.int .u8))),(226,(.slice (.slice (.int .u8)))),(229,.fn)]
theorem mixed:Tryz.prog.follows .mixedOrders=true:=by kernel_rfl
theorem tabOk:TabOk Tryz.prog tab:=tabOk_of (by kernel_rfl) (by kernel_rfl) (by kernel_rfl)
abbrev Y0:Type:=(List Int)×(Int×(Int×((List ((List Int)×(Int×Unit)))×((List (Int×(Int×(Int×(Int×Unit)))))×((List (Int×(Int×Unit)))×((List (Int×(Int×Unit)))×Unit))))))
abbrev Y1:Type:=Int×(Int×(Int×((List ((List Int)×(Int×Unit)))×Unit)))
abbrev Y2:Type:=(List Int)×(Int×Unit)
abbrev Y3:Type:=(List Y1)×((List (List Int))×((List Y0)×Unit))
abbrev Y4:Type:=Int×(Int×Unit)
abbrev Y5:Type:=Y2×(Bool×Unit)
abbrev Y6:Type:=List Int
abbrev Y7:Type:=Int×(Int×Y4)
abbrev Y8:Type:=List Y1
abbrev Y9:Type:=Y5×Unit
abbrev Y10:Type:=List Y4
abbrev Y11:Type:=Unit×Unit
abbrev Y12:Type:=List Y2
abbrev Y13:Type:=List Y6
abbrev Y14:Type:=List Y0
abbrev Y15:Type:=Unit×(Int×Unit)
abbrev Y16:Type:=List Y7
abbrev Z0:Ty:=.pair .str (.pair (.int .i64) (.pair (.int .i64) (.pair (.slice (.pair .str (.pair (.int .i64) .unit))) (.pair (.slice (.pair (.int .u8) (.pair (.int .i64) (.pair (.int .i64) (.pair (.int .i64) .unit))))) (.pair (.slice (.pair (.int .i64) (.pair (.int .u64) .unit))) (.pair (.slice (.pair (.int .i64) (.pair (.int .u64) .unit))) .unit))))))
abbrev Z1:Ty:=.pair (.int .u8) (.pair (.int .i64) (.pair (.int .i64) (.pair (.slice (.pair .str (.pair (.int .i64) .unit))) .unit)))
abbrev Z2:Ty:=.int .i64
abbrev Z3:Ty:=.pair (.slice (.int .u8)) (.pair Z2 .unit)
abbrev Z4:Ty:=.pair (.slice Z1) (.pair (.slice .str) (.pair (.slice Z0) .unit))
abbrev Z5:Ty:=.pair (.int .u8) (.pair Z2 (.pair Z2 (.pair Z2 .unit)))
abbrev Z6:Ty:=.pair Z2 (.pair (.int .u64) .unit)
abbrev Z7:Ty:=.pair .str (.pair Z2 .unit)
abbrev Z8:Ty:=.int .u8
abbrev Z9:Ty:=.pair Z3 (.pair .bool .unit)
abbrev Z10:Ty:=.pair Z2 (.pair Z2 .unit)
abbrev Z11:Ty:=.slice Z8
abbrev Y17:Type:=Int×Int×Y5×Y16×Y6×Int×Int×Unit×Y12×Y16×Y10×Y10×Y6×Int×Int×Unit×Y12×Y16×Y10×Y10
abbrev Y18:Type:=Int×Int×Y5×Y12×Y6×Int×Int×Unit×Y12×Y16×Y10×Y10×Y6×Int×Int×Unit×Y12×Y16×Y10×Y10
abbrev Y19:Type:=Int×Int×Y5×Y14×Unit×Y8×Y13×Y14×Unit×Y8×Y13×Y14×Unit×Y8×Y13×Y14×Y6
abbrev Y20:Type:=Int×Int×Y5×Y13×Unit×Y8×Y13×Y14×Unit×Y8×Y13×Y14×Unit×Y8×Y13×Y14×Y6
abbrev Y21:Type:=Int×Int×Y5×Y8×Unit×Y8×Y13×Y14×Unit×Y8×Y13×Y14×Unit×Y8×Y13×Y14×Y6
abbrev Y22:Type:=Int×Int×Y5×Y12×Int×Int×Int×Unit×Y12×Y1
abbrev Y23:Type:=Y6×Int×Int×Y8×Int×Int×Y12×Int×Int×Y6
def Tz2:LT:={ live:=[],keep:=[] }
def Tz3:LT:={ live:=[],keep:=[] }
noncomputable def Ez3:Env2:={ tab:=tab,fs:=[],inl:=[] }
def nkinds_isIndex (x:Int×Int):Option (Bool):=
 (bif (decide (x.1≥(0:Int))) then (some (decide (x.1 < x.2))) else (some false))
def mkinds_isIndex (N:Nat) (x:Int×Int):Option (Bool):=nkinds_isIndex x
theorem jz3 (N:Nat) (x:Int×Int):rise (Ez3) Tz3 6 N Tryz.f168 [Z2,Z2] [.bool] [false] x=nkinds_isIndex x:=by kernel_rfl
theorem lz3 (N:Nat) (x:Int×Int):rise (Ez3) Tz3 6 N Tryz.f168 [Z2,Z2] [.bool] [false] x=mkinds_isIndex N x:=(jz3 N x).trans rfl
def ckinds_isIndex (x:Int×Int):Option (Bool):=mkinds_isIndex big x
def Gz3:Fn2:=⟨[Z2,Z2],[.bool],[false],fun x=>ckinds_isIndex x⟩
theorem Lz3:Rises Tryz.prog 168 Gz3:=rises_of (E:=Ez3) ⟨tabOk,fsNil2,fun _ _ _=>rfl,mixed,inlNil,rcsNil,owsNil⟩ Tryz.func168 rfl (by decide) (by kernel_rfl) (by kernel_rfl) (by kernel_rfl) (by kernel_rfl) (fun x r _ h=>⟨Tz3,6,big,(lz3 big x).trans h⟩)
def Tz4:LT:={ live:=[],keep:=[] }
noncomputable def Ez4:Env2:={ tab:=tab,fs:=[],inl:=[] }
def nkinds_isLetter (x:Int):Option (Bool):=
 (bif (decide (x≥(97:Int))) then (bif (decide (x≤(122:Int))) then (some true) else (bif (decide (x≥(65:Int))) then (some (decide (x≤(90:Int)))) else (some false))) else (bif (decide (x≥(65:Int))) then (some (decide (x≤(90:Int)))) else (some false)))
def mkinds_isLetter (N:Nat) (x:Int):Option (Bool):=nkinds_isLetter x
theorem jz4 (N:Nat) (x:Int):rise (Ez4) Tz4 6 N Tryz.f155 [Z8] [.bool] [false] x=nkinds_isLetter x:=by kernel_rfl
theorem lz4 (N:Nat) (x:Int):rise (Ez4) Tz4 6 N Tryz.f155 [Z8] [.bool] [false] x=mkinds_isLetter N x:=(jz4 N x).trans rfl
def ckinds_isLetter (x:Int):Option (Bool):=mkinds_isLetter big x
def Gz4:Fn2:=⟨[Z8],[.bool],[false],fun x=>ckinds_isLetter x⟩
theorem Lz4:Rises Tryz.prog 155 Gz4:=rises_of (E:=Ez4) ⟨tabOk,fsNil2,fun _ _ _=>rfl,mixed,inlNil,rcsNil,owsNil⟩ Tryz.func155 rfl (by decide) (by kernel_rfl) (by kernel_rfl) (by kernel_rfl) (by kernel_rfl) (fun x r _ h=>⟨Tz4,6,big,(lz4 big x).trans h⟩)
def Tz5:LT:={ live:=[],keep:=[] }
noncomputable def Ez5:Env2:={ tab:=tab,fs:=[],inl:=[] }
def nkinds_isDigit (x:Int):Option (Bool):=
 (bif (decide (x≥(48:Int))) then (some (decide (x≤(57:Int)))) else (some false))
def mkinds_isDigit (N:Nat) (x:Int):Option (Bool):=nkinds_isDigit x
theorem jz5 (N:Nat) (x:Int):rise (Ez5) Tz5 6 N Tryz.f156 [Z8] [.bool] [false] x=nkinds_isDigit x:=by kernel_rfl
theorem lz5 (N:Nat) (x:Int):rise (Ez5) Tz5 6 N Tryz.f156 [Z8] [.bool] [false] x=mkinds_isDigit N x:=(jz5 N x).trans rfl
def ckinds_isDigit (x:Int):Option (Bool):=mkinds_isDigit big x
def Gz5:Fn2:=⟨[Z8],[.bool],[false],fun x=>ckinds_isDigit x⟩
theorem Lz5:Rises Tryz.prog 156 Gz5:=rises_of (E:=Ez5) ⟨tabOk,fsNil2,fun _ _ _=>rfl,mixed,inlNil,rcsNil,owsNil⟩ Tryz.func156 rfl (by decide) (by kernel_rfl) (by kernel_rfl) (by kernel_rfl) (by kernel_rfl) (fun x r _ h=>⟨Tz5,6,big,(lz5 big x).trans h⟩)
def Tz6:LT:={ live:=[(4,[0,18,19])],keep:=[] }
noncomputable def Ez6:Env2:={ tab:=tab,fs:=[(155,Gz4),(156,Gz5)],inl:=[] }
noncomputable def ez6_0 (v:Y6×Int×Int):St:={ s:=[(0,(.val ⟨.str,v.1⟩)),(18,(.val ⟨Z2,v.2.1⟩)),(19,(.val ⟨Z2,v.2.2⟩))],l:=[],k:=[],b:=4096 }
def hkinds_Named_0 (self0:Y6×Int×Int→Option (Bool)) (v:Y6×Int×Int):Option (Bool):=
 (bif (decide (v.2.2 < v.2.1)) then ((getI v.1 v.2.2).bind fun x3=>((ckinds_isLetter x3).bind fun x4=>(bif (!x4) then ((getI v.1 v.2.2).bind fun x5=>((ckinds_isDigit x5).bind fun x6=>(bif (!x6) then (some false) else (let x7:Int:=(IntKind.i64.wrap (v.2.2+(1:Int)));(self0 (v.1,v.2.1,x7)))))) else (let x8:Int:=(IntKind.i64.wrap (v.2.2+(1:Int)));(self0 (v.1,v.2.1,x8)))))) else (some true))
def gkinds_Named_0 (N:Nat) (self0:Y6×Int×Int→Option (Bool)) (v:Y6×Int×Int):Option (Bool):=hkinds_Named_0 self0 v
theorem kz6_0 (N:Nat) (s0:St→Option (Bool)) (v):(floc (Ez6) Tz6 6 N Tryz.f127 [.bool] [false] [] 0 nowhereR) s0 (ez6_0 v)=hkinds_Named_0 (fun v=>s0 (ez6_0 v)) v:=by kernel_rfl
theorem bz6_0 (N:Nat) (s0:St→Option (Bool)) (v):(floc (Ez6) Tz6 6 N Tryz.f127 [.bool] [false] [] 0 nowhereR) s0 (ez6_0 v)=gkinds_Named_0 N (fun v=>s0 (ez6_0 v)) v:=kz6_0 N s0 v
def nkinds_Named (loop0:Y6×Int×Int→Option (Bool)) (x:Y6):Option (Bool):=
 (bif (eqD .str x ([]:List Int)) then (some false) else (bif (decide ((List.length x:Int) > (16:Int))) then (some false) else ((getI x (0:Int)).bind fun x1=>((ckinds_isLetter x1).bind fun x2=>(bif (!x2) then (some false) else (loop0 (x,(List.length x:Int),(0:Int))))))))
def mkinds_Named (N:Nat) (x:Y6):Option (Bool):=nkinds_Named (iterV (gkinds_Named_0 N) N) x
theorem jz6 (N:Nat) (x:Y6):rise (Ez6) Tz6 6 N Tryz.f127 [.str] [.bool] [false] x=nkinds_Named (fun v=>iterR (floc (Ez6) Tz6 6 N Tryz.f127 [.bool] [false] [] 0 nowhereR) N (ez6_0 v)) x:=by kernel_rfl
theorem lz6 (N:Nat) (x:Y6):rise (Ez6) Tz6 6 N Tryz.f127 [.str] [.bool] [false] x=mkinds_Named N x:=(jz6 N x).trans (by rw [funext (iterR_eq ez6_0 (bz6_0 N) N)];rfl)
def ckinds_Named (x:Y6):Option (Bool):=mkinds_Named big x
def Gz6:Fn2:=⟨[.str],[.bool],[false],fun x=>ckinds_Named x⟩
theorem Lz6:Rises Tryz.prog 127 Gz6:=rises_of (E:=Ez6) ⟨tabOk,(fsCons2 Lz4 (fsCons2 Lz5 fsNil2)),fun _ _ _=>rfl,mixed,inlNil,rcsNil,owsNil⟩ Tryz.func127 rfl (by decide) (by kernel_rfl) (by kernel_rfl) (by kernel_rfl) (by kernel_rfl) (fun x r _ h=>⟨Tz6,6,big,(lz6 big x).trans h⟩)
def Tz7:LT:={ live:=[(5,[1,5,17,18,19])],keep:=[] }
noncomputable def Ez7:Env2:={ tab:=tab,fs:=[(127,Gz6),(168,Gz3)],inl:=[] }
noncomputable def ez7_0 (v:Int×Y12×Int×Int×(List (Y6×Bool))):St:={ s:=[(1,(.val ⟨Z2,v.1⟩)),(5,(.mp 0)),(17,(.val ⟨(.slice Z7),v.2.1⟩)),(18,(.val ⟨Z2,v.2.2.1⟩)),(19,(.val ⟨Z2,v.2.2.2.1⟩))],l:=[(0,.mp .str .bool v.2.2.2.2)],k:=[],b:=4096 }
def hkinds_areBuilt_0 (self0:Int×Y12×Int×Int×(List (Y6×Bool))→Option (Bool)) (v:Int×Y12×Int×Int×(List (Y6×Bool))):Option (Bool):=
 (bif (decide (v.2.2.2.1 < v.2.2.1)) then ((getI v.2.1 v.2.2.2.1).bind fun x1=>((ckinds_Named x1.1).bind fun x2=>(bif (!x2) then (some false) else (bif (@atK .str .bool x1.1 false v.2.2.2.2).1 then (some false) else ((ckinds_isIndex (x1.2.1,v.1)).bind fun x3=>(bif (!x3) then (some false) else (let x4:(List (Y6×Bool)):=(@putK .str .bool x1.1 true v.2.2.2.2);(let x5:Int:=(IntKind.i64.wrap (v.2.2.2.1+(1:Int)));(self0 (v.1,v.2.1,v.2.2.1,x5,x4)))))))))) else (some true))
def gkinds_areBuilt_0 (N:Nat) (self0:Int×Y12×Int×Int×(List (Y6×Bool))→Option (Bool)) (v:Int×Y12×Int×Int×(List (Y6×Bool))):Option (Bool):=hkinds_areBuilt_0 self0 v
theorem kz7_0 (N:Nat) (s0:St→Option (Bool)) (v):(floc (Ez7) Tz7 6 N Tryz.f169 [.bool] [false] [] 0 nowhereR) s0 (ez7_0 v)=hkinds_areBuilt_0 (fun v=>s0 (ez7_0 v)) v:=by kernel_rfl
theorem bz7_0 (N:Nat) (s0:St→Option (Bool)) (v):(floc (Ez7) Tz7 6 N Tryz.f169 [.bool] [false] [] 0 nowhereR) s0 (ez7_0 v)=gkinds_areBuilt_0 N (fun v=>s0 (ez7_0 v)) v:=kz7_0 N s0 v
def nkinds_areBuilt (loop0:Int×Y12×Int×Int×(List (Y6×Bool))→Option (Bool)) (x:Y12×Int):Option (Bool):=
 (bif (decide ((List.length x.1:Int) < (1:Int))) then (some false) else (bif (decide ((List.length x.1:Int) > (8:Int))) then (some false) else (loop0 (x.2,x.1,(List.length x.1:Int),(0:Int),([]:List (Y6×Bool))))))
def mkinds_areBuilt (N:Nat) (x:Y12×Int):Option (Bool):=nkinds_areBuilt (iterV (gkinds_areBuilt_0 N) N) x
theorem jz7 (N:Nat) (x:Y12×Int):rise (Ez7) Tz7 6 N Tryz.f169 [(.slice Z7),Z2] [.bool] [false] x=nkinds_areBuilt (fun v=>iterR (floc (Ez7) Tz7 6 N Tryz.f169 [.bool] [false] [] 0 nowhereR) N (ez7_0 v)) x:=by kernel_rfl
theorem lz7 (N:Nat) (x:Y12×Int):rise (Ez7) Tz7 6 N Tryz.f169 [(.slice Z7),Z2] [.bool] [false] x=mkinds_areBuilt N x:=(jz7 N x).trans (by rw [funext (iterR_eq ez7_0 (bz7_0 N) N)];rfl)
def ckinds_areBuilt (x:Y12×Int):Option (Bool):=mkinds_areBuilt big x
def Gz7:Fn2:=⟨[(.slice Z7),Z2],[.bool],[false],fun x=>ckinds_areBuilt x⟩
theorem Lz7:Rises Tryz.prog 169 Gz7:=rises_of (E:=Ez7) ⟨tabOk,(fsCons2 Lz6 (fsCons2 Lz3 fsNil2)),fun _ _ _=>rfl,mixed,inlNil,rcsNil,owsNil⟩ Tryz.func169 rfl (by decide) (by kernel_rfl) (by kernel_rfl) (by kernel_rfl) (by kernel_rfl) (fun x r _ h=>⟨Tz7,6,big,(lz7 big x).trans h⟩)
def Tz8:LT:={ live:=[],keep:=[] }
noncomputable def Ez8:Env2:={ tab:=tab,fs:=[(168,Gz3),(169,Gz7)],inl:=[] }
def nkinds_isBuilt (x:Y1×Int×Int):Option (Bool):=
 (bif (x.1.1==(1:Int)) then (bif (x.1.1==(1:Int)) then (bif (x.1.2.1==(0:Int)) then (bif (x.1.2.2.1==(0:Int)) then (some ((List.length x.1.2.2.2.1:Int)==(0:Int))) else (some false)) else (some false)) else (bif (x.1.1==(4:Int)) then (bif (x.1.1==(4:Int)) then ((ckinds_isIndex (x.1.2.1,x.2.2)).bind fun x1=>(bif x1 then (bif (x.1.2.2.1==(0:Int)) then (some ((List.length x.1.2.2.2.1:Int)==(0:Int))) else (some false)) else (some false))) else (bif (x.1.1==(6:Int)) then ((ckinds_isIndex (x.1.2.1,x.2.1)).bind fun x2=>(bif x2 then (bif (decide (x.1.2.2.1≥(1:Int))) then (bif (decide (x.1.2.2.1≤(16:Int))) then (some ((List.length x.1.2.2.2.1:Int)==(0:Int))) else (some false)) else (some false)) else (some false))) else (bif (x.1.1==(5:Int)) then (bif (x.1.2.1==(0:Int)) then (bif (x.1.2.2.1==(0:Int)) then ((ckinds_areBuilt (x.1.2.2.2.1,x.2.1)).bind fun x3=>(some x3)) else (some false)) else (some false)) else (some false)))) else (bif (x.1.1==(7:Int)) then ((ckinds_isIndex (x.1.2.1,x.2.2)).bind fun x4=>(bif x4 then (bif (x.1.2.2.1==(0:Int)) then (some ((List.length x.1.2.2.2.1:Int)==(0:Int))) else (some false)) else (some false))) else (bif (x.1.1==(6:Int)) then ((ckinds_isIndex (x.1.2.1,x.2.1)).bind fun x5=>(bif x5 then (bif (decide (x.1.2.2.1≥(1:Int))) then (bif (decide (x.1.2.2.1≤(16:Int))) then (some ((List.length x.1.2.2.2.1:Int)==(0:Int))) else (some false)) else (some false)) else (some false))) else (bif (x.1.1==(5:Int)) then (bif (x.1.2.1==(0:Int)) then (bif (x.1.2.2.1==(0:Int)) then ((ckinds_areBuilt (x.1.2.2.2.1,x.2.1)).bind fun x6=>(some x6)) else (some false)) else (some false)) else (some false)))))) else (bif (x.1.1==(2:Int)) then (bif (x.1.1==(2:Int)) then (bif (x.1.2.1==(0:Int)) then (bif (x.1.2.2.1==(0:Int)) then (some ((List.length x.1.2.2.2.1:Int)==(0:Int))) else (some false)) else (some false)) else (bif (x.1.1==(4:Int)) then (bif (x.1.1==(4:Int)) then ((ckinds_isIndex (x.1.2.1,x.2.2)).bind fun x7=>(bif x7 then (bif (x.1.2.2.1==(0:Int)) then (some ((List.length x.1.2.2.2.1:Int)==(0:Int))) else (some false)) else (some false))) else (bif (x.1.1==(6:Int)) then ((ckinds_isIndex (x.1.2.1,x.2.1)).bind fun x8=>(bif x8 then (bif (decide (x.1.2.2.1≥(1:Int))) then (bif (decide (x.1.2.2.1≤(16:Int))) then (some ((List.length x.1.2.2.2.1:Int)==(0:Int))) else (some false)) else (some false)) else (some false))) else (bif (x.1.1==(5:Int)) then (bif (x.1.2.1==(0:Int)) then (bif (x.1.2.2.1==(0:Int)) then ((ckinds_areBuilt (x.1.2.2.2.1,x.2.1)).bind fun x9=>(some x9)) else (some false)) else (some false)) else (some false)))) else (bif (x.1.1==(7:Int)) then ((ckinds_isIndex (x.1.2.1,x.2.2)).bind fun x10=>(bif x10 then (bif (x.1.2.2.1==(0:Int)) then (some ((List.length x.1.2.2.2.1:Int)==(0:Int))) else (some false)) else (some false))) else (bif (x.1.1==(6:Int)) then ((ckinds_isIndex (x.1.2.1,x.2.1)).bind fun x11=>(bif x11 then (bif (decide (x.1.2.2.1≥(1:Int))) then (bif (decide (x.1.2.2.1≤(16:Int))) then (some ((List.length x.1.2.2.2.1:Int)==(0:Int))) else (some false)) else (some false)) else (some false))) else (bif (x.1.1==(5:Int)) then (bif (x.1.2.1==(0:Int)) then (bif (x.1.2.2.1==(0:Int)) then ((ckinds_areBuilt (x.1.2.2.2.1,x.2.1)).bind fun x12=>(some x12)) else (some false)) else (some false)) else (some false)))))) else (bif (x.1.1==(3:Int)) then (bif (x.1.2.1==(0:Int)) then (bif (x.1.2.2.1==(0:Int)) then (some ((List.length x.1.2.2.2.1:Int)==(0:Int))) else (some false)) else (some false)) else (bif (x.1.1==(4:Int)) then (bif (x.1.1==(4:Int)) then ((ckinds_isIndex (x.1.2.1,x.2.2)).bind fun x13=>(bif x13 then (bif (x.1.2.2.1==(0:Int)) then (some ((List.length x.1.2.2.2.1:Int)==(0:Int))) else (some false)) else (some false))) else (bif (x.1.1==(6:Int)) then ((ckinds_isIndex (x.1.2.1,x.2.1)).bind fun x14=>(bif x14 then (bif (decide (x.1.2.2.1≥(1:Int))) then (bif (decide (x.1.2.2.1≤(16:Int))) then (some ((List.length x.1.2.2.2.1:Int)==(0:Int))) else (some false)) else (some false)) else (some false))) else (bif (x.1.1==(5:Int)) then (bif (x.1.2.1==(0:Int)) then (bif (x.1.2.2.1==(0:Int)) then ((ckinds_areBuilt (x.1.2.2.2.1,x.2.1)).bind fun x15=>(some x15)) else (some false)) else (some false)) else (some false)))) else (bif (x.1.1==(7:Int)) then ((ckinds_isIndex (x.1.2.1,x.2.2)).bind fun x16=>(bif x16 then (bif (x.1.2.2.1==(0:Int)) then (some ((List.length x.1.2.2.2.1:Int)==(0:Int))) else (some false)) else (some false))) else (bif (x.1.1==(6:Int)) then ((ckinds_isIndex (x.1.2.1,x.2.1)).bind fun x17=>(bif x17 then (bif (decide (x.1.2.2.1≥(1:Int))) then (bif (decide (x.1.2.2.1≤(16:Int))) then (some ((List.length x.1.2.2.2.1:Int)==(0:Int))) else (some false)) else (some false)) else (some false))) else (bif (x.1.1==(5:Int)) then (bif (x.1.2.1==(0:Int)) then (bif (x.1.2.2.1==(0:Int)) then ((ckinds_areBuilt (x.1.2.2.2.1,x.2.1)).bind fun x18=>(some x18)) else (some false)) else (some false)) else (some false))))))))
def mkinds_isBuilt (N:Nat) (x:Y1×Int×Int):Option (Bool):=nkinds_isBuilt x
theorem jz8 (N:Nat) (x:Y1×Int×Int):rise (Ez8) Tz8 6 N Tryz.f163 [Z1,Z2,Z2] [.bool] [false] x=nkinds_isBuilt x:=by kernel_rfl
theorem lz8 (N:Nat) (x:Y1×Int×Int):rise (Ez8) Tz8 6 N Tryz.f163 [Z1,Z2,Z2] [.bool] [false] x=mkinds_isBuilt N x:=(jz8 N x).trans rfl
def ckinds_isBuilt (x:Y1×Int×Int):Option (Bool):=mkinds_isBuilt big x
def Gz8:Fn2:=⟨[Z1,Z2,Z2],[.bool],[false],fun x=>ckinds_isBuilt x⟩
theorem Lz8:Rises Tryz.prog 163 Gz8:=rises_of (E:=Ez8) ⟨tabOk,(fsCons2 Lz3 (fsCons2 Lz7 fsNil2)),fun _ _ _=>rfl,mixed,inlNil,rcsNil,owsNil⟩ Tryz.func163 rfl (by decide) (by kernel_rfl) (by kernel_rfl) (by kernel_rfl) (by kernel_rfl) (fun x r _ h=>⟨Tz8,6,big,(lz8 big x).trans h⟩)
def Tz9:LT:={ live:=[(3,[1,5,14,15,16]),(15,[1,5,6,8,14,15,16,57,58,59])],keep:=[] }
noncomputable def Ez9 (mk:(α:Type)→Nat→α→List α):Env2:={ tab:=tab,fs:=[],inl:=[],rep:=mk }
noncomputable def ez9_1 (v:Y23):St:={ s:=[(1,(.val ⟨(.slice Z2),v.1⟩)),(5,(.row 0)),(6,(.val ⟨Z2,v.2.1⟩)),(8,(.val ⟨Z2,v.2.2.1⟩)),(14,(.val ⟨(.slice Z1),v.2.2.2.1⟩)),(15,(.val ⟨Z2,v.2.2.2.2.1⟩)),(16,(.val ⟨Z2,v.2.2.2.2.2.1⟩)),(57,(.val ⟨(.slice Z7),v.2.2.2.2.2.2.1⟩)),(58,(.val ⟨Z2,v.2.2.2.2.2.2.2.1⟩)),(59,(.val ⟨Z2,v.2.2.2.2.2.2.2.2.1⟩))],l:=[(0,.row Z2 v.2.2.2.2.2.2.2.2.2)],k:=[],b:=4096 }
noncomputable def ez9_0 (v:Y6×Y8×Int×Int×Y6):St:={ s:=[(1,(.val ⟨(.slice Z2),v.1⟩)),(5,(.row 0)),(14,(.val ⟨(.slice Z1),v.2.1⟩)),(15,(.val ⟨Z2,v.2.2.1⟩)),(16,(.val ⟨Z2,v.2.2.2.1⟩))],l:=[(0,.row Z2 v.2.2.2.2)],k:=[],b:=4096 }
def hkinds_widened_1 (mk:(α:Type)→Nat→α→List α) (self0:Y6×Y8×Int×Int×Y6→Option (Y6)) (self1:Y23→Option (Y6)) (v:Y23):Option (Y6):=
 (bif (decide (v.2.2.2.2.2.2.2.2.1 < v.2.2.2.2.2.2.2.1)) then ((getI v.2.2.2.2.2.2.1 v.2.2.2.2.2.2.2.2.1).bind fun x20=>(bif (decide (0≤x20.2.1)&&decide (x20.2.1 < (List.length v.2.2.2.2.2.2.2.2.2:Int))) then ((nth v.2.2.2.2.2.2.2.2.2 (Int.toNat x20.2.1)).bind fun x21=>(let x22:Int:=(IntKind.i64.wrap (v.2.2.1+x21));(let x23:Int:=(IntKind.i64.wrap (v.2.2.2.2.2.2.2.2.1+(1:Int)));(self1 (v.1,v.2.1,x22,v.2.2.2.1,v.2.2.2.2.1,v.2.2.2.2.2.1,v.2.2.2.2.2.2.1,v.2.2.2.2.2.2.2.1,x23,v.2.2.2.2.2.2.2.2.2))))) else none)) else (let x24:Int:=(if (5001:Int) < v.2.2.1 then (5001:Int) else v.2.2.1);(bif (decide (0≤v.2.1)&&decide (v.2.1 < (List.length v.2.2.2.2.2.2.2.2.2:Int))) then (let x25:Y6:=(List.set v.2.2.2.2.2.2.2.2.2 (Int.toNat v.2.1) x24);(let x26:Int:=(IntKind.i64.wrap (v.2.2.2.2.2.1+(1:Int)));(self0 (v.1,v.2.2.2.1,v.2.2.2.2.1,x26,x25)))) else none)))
def gkinds_widened_1 (mk:(α:Type)→Nat→α→List α) (N:Nat) (self0:Y6×Y8×Int×Int×Y6→Option (Y6)) (self1:Y23→Option (Y6)) (v:Y23):Option (Y6):=hkinds_widened_1 mk self0 self1 v
theorem kz9_1 (mk:(α:Type)→Nat→α→List α) (N:Nat) (s0:St→Option (Y6)) (s1:St→Option (Y6)) (v):(floc (Ez9 mk) Tz9 6 N Tryz.f171 [(.slice Z2)] [true] [] 1 (outerR s0 nowhereR)) s1 (ez9_1 v)=hkinds_widened_1 mk (fun v=>s0 (ez9_0 v)) (fun v=>s1 (ez9_1 v)) v:=by kernel_rfl
theorem bz9_1 (mk:(α:Type)→Nat→α→List α) (N:Nat) (s0:St→Option (Y6)) (s1:St→Option (Y6)) (v):(floc (Ez9 mk) Tz9 6 N Tryz.f171 [(.slice Z2)] [true] [] 1 (outerR s0 nowhereR)) s1 (ez9_1 v)=gkinds_widened_1 mk N (fun v=>s0 (ez9_0 v)) (fun v=>s1 (ez9_1 v)) v:=kz9_1 mk N s0 s1 v
def hkinds_widened_0 (mk:(α:Type)→Nat→α→List α) (loop1:Y23→Option (Y6)) (self0:Y6×Y8×Int×Int×Y6→Option (Y6)) (v:Y6×Y8×Int×Int×Y6):Option (Y6):=
 (bif (decide (v.2.2.2.1 < v.2.2.1)) then ((getI v.2.1 v.2.2.2.1).bind fun x2=>(bif (x2.1==(4:Int)) then ((getI v.1 x2.2.1).bind fun x3=>(let x4:Int:=(IntKind.i64.wrap ((1:Int)+x3));(let x5:Int:=(if (5001:Int) < x4 then (5001:Int) else x4);(bif (decide (0≤v.2.2.2.1)&&decide (v.2.2.2.1 < (List.length v.2.2.2.2:Int))) then (let x6:Y6:=(List.set v.2.2.2.2 (Int.toNat v.2.2.2.1) x5);(let x7:Int:=(IntKind.i64.wrap (v.2.2.2.1+(1:Int)));(self0 (v.1,v.2.1,v.2.2.1,x7,x6)))) else none)))) else (bif (x2.1==(7:Int)) then ((getI v.1 x2.2.1).bind fun x8=>(let x9:Int:=(IntKind.i64.wrap ((16:Int) * x8));(let x10:Int:=(IntKind.i64.wrap ((1:Int)+x9));(let x11:Int:=(if (5001:Int) < x10 then (5001:Int) else x10);(bif (decide (0≤v.2.2.2.1)&&decide (v.2.2.2.1 < (List.length v.2.2.2.2:Int))) then (let x12:Y6:=(List.set v.2.2.2.2 (Int.toNat v.2.2.2.1) x11);(let x13:Int:=(IntKind.i64.wrap (v.2.2.2.1+(1:Int)));(self0 (v.1,v.2.1,v.2.2.1,x13,x12)))) else none))))) else (bif (x2.1==(6:Int)) then (bif (decide (0≤x2.2.1)&&decide (x2.2.1 < (List.length v.2.2.2.2:Int))) then ((nth v.2.2.2.2 (Int.toNat x2.2.1)).bind fun x14=>(let x15:Int:=(IntKind.i64.wrap (x2.2.2.1 * x14));(let x16:Int:=(IntKind.i64.wrap ((1:Int)+x15));(let x17:Int:=(if (5001:Int) < x16 then (5001:Int) else x16);(bif (decide (0≤v.2.2.2.1)&&decide (v.2.2.2.1 < (List.length v.2.2.2.2:Int))) then (let x18:Y6:=(List.set v.2.2.2.2 (Int.toNat v.2.2.2.1) x17);(let x19:Int:=(IntKind.i64.wrap (v.2.2.2.1+(1:Int)));(self0 (v.1,v.2.1,v.2.2.1,x19,x18)))) else none))))) else none) else (bif (x2.1==(5:Int)) then (loop1 (v.1,v.2.2.2.1,(1:Int),v.2.1,v.2.2.1,v.2.2.2.1,x2.2.2.2.1,(List.length x2.2.2.2.1:Int),(0:Int),v.2.2.2.2)) else (let x27:Int:=(if (5001:Int) < (1:Int) then (5001:Int) else (1:Int));(bif (decide (0≤v.2.2.2.1)&&decide (v.2.2.2.1 < (List.length v.2.2.2.2:Int))) then (let x28:Y6:=(List.set v.2.2.2.2 (Int.toNat v.2.2.2.1) x27);(let x29:Int:=(IntKind.i64.wrap (v.2.2.2.1+(1:Int)));(self0 (v.1,v.2.1,v.2.2.1,x29,x28)))) else none))))))) else (some v.2.2.2.2))
def gkinds_widened_0 (mk:(α:Type)→Nat→α→List α) (N:Nat) (self0:Y6×Y8×Int×Int×Y6→Option (Y6)) (v:Y6×Y8×Int×Int×Y6):Option (Y6):=hkinds_widened_0 mk (iterV (gkinds_widened_1 mk N self0) N) self0 v
theorem kz9_0 (mk:(α:Type)→Nat→α→List α) (N:Nat) (s0:St→Option (Y6)) (v):(floc (Ez9 mk) Tz9 6 N Tryz.f171 [(.slice Z2)] [true] [] 0 nowhereR) s0 (ez9_0 v)=hkinds_widened_0 mk (fun v=>iterR (floc (Ez9 mk) Tz9 6 N Tryz.f171 [(.slice Z2)] [true] [] 1 (outerR s0 nowhereR)) N (ez9_1 v)) (fun v=>s0 (ez9_0 v)) v:=by kernel_rfl
theorem bz9_0 (mk:(α:Type)→Nat→α→List α) (N:Nat) (s0:St→Option (Y6)) (v):(floc (Ez9 mk) Tz9 6 N Tryz.f171 [(.slice Z2)] [true] [] 0 nowhereR) s0 (ez9_0 v)=gkinds_widened_0 mk N (fun v=>s0 (ez9_0 v)) v:=(kz9_0 mk N s0 v).trans (by rw [funext (iterR_eq ez9_1 (bz9_1 mk N s0) N)];rfl)
def nkinds_widened (mk:(α:Type)→Nat→α→List α) (loop0:Y6×Y8×Int×Int×Y6→Option (Y6)) (x:Y8×Y6):Option (Y6):=
 (bif (decide (0≤(List.length x.1:Int))&&(decide ((List.length x.1:Int)≤(List.length x.1:Int))&&(decide ((List.length x.1:Int)≤68719476736)&&true))) then (let x1:Y6:=(mk Int (Int.toNat (List.length x.1:Int)) (0:Int));(loop0 (x.2,x.1,(List.length x.1:Int),(0:Int),x1))) else none)
def mkinds_widened (mk:(α:Type)→Nat→α→List α) (N:Nat) (x:Y8×Y6):Option (Y6):=nkinds_widened mk (iterV (gkinds_widened_0 mk N) N) x
theorem jz9 (mk:(α:Type)→Nat→α→List α) (N:Nat) (x:Y8×Y6):rise (Ez9 mk) Tz9 6 N Tryz.f171 [(.slice Z1),(.slice Z2)] [(.slice Z2)] [true] x=nkinds_widened mk (fun v=>iterR (floc (Ez9 mk) Tz9 6 N Tryz.f171 [(.slice Z2)] [true] [] 0 nowhereR) N (ez9_0 v)) x:=by kernel_rfl
theorem lz9 (mk:(α:Type)→Nat→α→List α) (N:Nat) (x:Y8×Y6):rise (Ez9 mk) Tz9 6 N Tryz.f171 [(.slice Z1),(.slice Z2)] [(.slice Z2)] [true] x=mkinds_widened mk N x:=(jz9 mk N x).trans (by rw [funext (iterR_eq ez9_0 (bz9_0 mk N) N)];rfl)
def ckinds_widened (x:Y8×Y6):Option (Y6):=mkinds_widened (fun _=>List.replicate) big x
def Gz9:Fn2:=⟨[(.slice Z1),(.slice Z2)],[(.slice Z2)],[true],fun x=>ckinds_widened x⟩
theorem Lz9:Rises Tryz.prog 171 Gz9:=rises_of (E:=Ez9 (fun _=>List.replicate)) ⟨tabOk,fsNil2,fun _ _ _=>rfl,mixed,inlNil,rcsNil,owsNil⟩ Tryz.func171 rfl (by decide) (by kernel_rfl) (by kernel_rfl) (by kernel_rfl) (by kernel_rfl) (fun x r _ h=>⟨Tz9,6,big,(lz9 (fun _=>List.replicate) big x).trans h⟩)
def Tz10:LT:={ live:=[(3,[0,3,7])],keep:=[] }
noncomputable def Ez10 (mk:(α:Type)→Nat→α→List α):Env2:={ tab:=tab,fs:=[(171,Gz9)],inl:=[],rep:=mk }
noncomputable def ez10_0 (v:Y8×Int×Y6):St:={ s:=[(0,(.val ⟨(.slice Z1),v.1⟩)),(3,(.row 0)),(7,(.val ⟨Z2,v.2.1⟩))],l:=[(0,.row Z2 v.2.2)],k:=[],b:=4096 }
def hkinds_widths_0 (mk:(α:Type)→Nat→α→List α) (self0:Y8×Int×Y6→Option (Y6)) (v:Y8×Int×Y6):Option (Y6):=
 (bif (decide (v.2.1 < (4:Int))) then ((ckinds_widened (v.1,v.2.2)).bind fun x2=>(let x3:Int:=(IntKind.i64.wrap (v.2.1+(1:Int)));(self0 (v.1,x3,x2)))) else (some v.2.2))
def gkinds_widths_0 (mk:(α:Type)→Nat→α→List α) (N:Nat) (self0:Y8×Int×Y6→Option (Y6)) (v:Y8×Int×Y6):Option (Y6):=hkinds_widths_0 mk self0 v
theorem kz10_0 (mk:(α:Type)→Nat→α→List α) (N:Nat) (s0:St→Option (Y6)) (v):(floc (Ez10 mk) Tz10 6 N Tryz.f165 [(.slice Z2)] [true] [] 0 nowhereR) s0 (ez10_0 v)=hkinds_widths_0 mk (fun v=>s0 (ez10_0 v)) v:=by kernel_rfl
theorem bz10_0 (mk:(α:Type)→Nat→α→List α) (N:Nat) (s0:St→Option (Y6)) (v):(floc (Ez10 mk) Tz10 6 N Tryz.f165 [(.slice Z2)] [true] [] 0 nowhereR) s0 (ez10_0 v)=gkinds_widths_0 mk N (fun v=>s0 (ez10_0 v)) v:=kz10_0 mk N s0 v
def nkinds_widths (mk:(α:Type)→Nat→α→List α) (loop0:Y8×Int×Y6→Option (Y6)) (x:Y8):Option (Y6):=
 (bif (decide (0≤(List.length x:Int))&&(decide ((List.length x:Int)≤(List.length x:Int))&&(decide ((List.length x:Int)≤68719476736)&&true))) then (let x1:Y6:=(mk Int (Int.toNat (List.length x:Int)) (0:Int));(loop0 (x,(0:Int),x1))) else none)
def mkinds_widths (mk:(α:Type)→Nat→α→List α) (N:Nat) (x:Y8):Option (Y6):=nkinds_widths mk (iterV (gkinds_widths_0 mk N) N) x
theorem jz10 (mk:(α:Type)→Nat→α→List α) (N:Nat) (x:Y8):rise (Ez10 mk) Tz10 6 N Tryz.f165 [(.slice Z1)] [(.slice Z2)] [true] x=nkinds_widths mk (fun v=>iterR (floc (Ez10 mk) Tz10 6 N Tryz.f165 [(.slice Z2)] [true] [] 0 nowhereR) N (ez10_0 v)) x:=by kernel_rfl
theorem lz10 (mk:(α:Type)→Nat→α→List α) (N:Nat) (x:Y8):rise (Ez10 mk) Tz10 6 N Tryz.f165 [(.slice Z1)] [(.slice Z2)] [true] x=mkinds_widths mk N x:=(jz10 mk N x).trans (by rw [funext (iterR_eq ez10_0 (bz10_0 mk N) N)];rfl)
def ckinds_widths (x:Y8):Option (Y6):=mkinds_widths (fun _=>List.replicate) big x
def Gz10:Fn2:=⟨[(.slice Z1)],[(.slice Z2)],[true],fun x=>ckinds_widths x⟩
theorem Lz10:Rises Tryz.prog 165 Gz10:=rises_of (E:=Ez10 (fun _=>List.replicate)) ⟨tabOk,(fsCons2 Lz9 fsNil2),fun _ _ _=>rfl,mixed,inlNil,rcsNil,owsNil⟩ Tryz.func165 rfl (by decide) (by kernel_rfl) (by kernel_rfl) (by kernel_rfl) (by kernel_rfl) (fun x r _ h=>⟨Tz10,6,big,(lz10 (fun _=>List.replicate) big x).trans h⟩)
def Tz11:LT:={ live:=[(2,[0,1,7,8])],keep:=[] }
noncomputable def Ez11:Env2:={ tab:=tab,fs:=[],inl:=[] }
noncomputable def ez11_0 (v:Y6×Int×Int×Int):St:={ s:=[(0,(.val ⟨(.slice Z2),v.1⟩)),(1,(.val ⟨Z2,v.2.1⟩)),(7,(.val ⟨Z2,v.2.2.1⟩)),(8,(.val ⟨Z2,v.2.2.2⟩))],l:=[],k:=[],b:=4096 }
def hslices_Index_int_int_0 (self0:Y6×Int×Int×Int→Option (Int)) (v:Y6×Int×Int×Int):Option (Int):=
 (bif (decide (v.2.2.2 < v.2.2.1)) then ((getI v.1 v.2.2.2).bind fun x1=>(bif (v.2.1==x1) then (some v.2.2.2) else (let x2:Int:=(IntKind.i64.wrap (v.2.2.2+(1:Int)));(self0 (v.1,v.2.1,v.2.2.1,x2))))) else (some (-1:Int)))
def gslices_Index_int_int_0 (N:Nat) (self0:Y6×Int×Int×Int→Option (Int)) (v:Y6×Int×Int×Int):Option (Int):=hslices_Index_int_int_0 self0 v
theorem kz11_0 (N:Nat) (s0:St→Option (Int)) (v):(floc (Ez11) Tz11 6 N Tryz.f170 [Z2] [false] [] 0 nowhereR) s0 (ez11_0 v)=hslices_Index_int_int_0 (fun v=>s0 (ez11_0 v)) v:=by kernel_rfl
theorem bz11_0 (N:Nat) (s0:St→Option (Int)) (v):(floc (Ez11) Tz11 6 N Tryz.f170 [Z2] [false] [] 0 nowhereR) s0 (ez11_0 v)=gslices_Index_int_int_0 N (fun v=>s0 (ez11_0 v)) v:=kz11_0 N s0 v
def nslices_Index_int_int (loop0:Y6×Int×Int×Int→Option (Int)) (x:Y6×Int):Option (Int):=
 (loop0 (x.1,x.2,(List.length x.1:Int),(0:Int)))
def mslices_Index_int_int (N:Nat) (x:Y6×Int):Option (Int):=nslices_Index_int_int (iterV (gslices_Index_int_int_0 N) N) x
theorem jz11 (N:Nat) (x:Y6×Int):rise (Ez11) Tz11 6 N Tryz.f170 [(.slice Z2),Z2] [Z2] [false] x=nslices_Index_int_int (fun v=>iterR (floc (Ez11) Tz11 6 N Tryz.f170 [Z2] [false] [] 0 nowhereR) N (ez11_0 v)) x:=by kernel_rfl
theorem lz11 (N:Nat) (x:Y6×Int):rise (Ez11) Tz11 6 N Tryz.f170 [(.slice Z2),Z2] [Z2] [false] x=mslices_Index_int_int N x:=(jz11 N x).trans (by rw [funext (iterR_eq ez11_0 (bz11_0 N) N)];rfl)
def cslices_Index_int_int (x:Y6×Int):Option (Int):=mslices_Index_int_int big x
def Gz11:Fn2:=⟨[(.slice Z2),Z2],[Z2],[false],fun x=>cslices_Index_int_int x⟩
theorem Lz11:Rises Tryz.prog 170 Gz11:=rises_of (E:=Ez11) ⟨tabOk,fsNil2,fun _ _ _=>rfl,mixed,inlNil,rcsNil,owsNil⟩ Tryz.func170 rfl (by decide) (by kernel_rfl) (by kernel_rfl) (by kernel_rfl) (by kernel_rfl) (fun x r _ h=>⟨Tz11,6,big,(lz11 big x).trans h⟩)
def Tz12:LT:={ live:=[],keep:=[] }
noncomputable def Ez12:Env2:={ tab:=tab,fs:=[(170,Gz11)],inl:=[] }
def nslices_Contains_int_int (x:Y6×Int):Option (Bool):=
 ((cslices_Index_int_int (x.1,x.2)).bind fun x1=>(some (decide (x1≥(0:Int)))))
def mslices_Contains_int_int (N:Nat) (x:Y6×Int):Option (Bool):=nslices_Contains_int_int x
theorem jz12 (N:Nat) (x:Y6×Int):rise (Ez12) Tz12 6 N Tryz.f164 [(.slice Z2),Z2] [.bool] [false] x=nslices_Contains_int_int x:=by kernel_rfl
theorem lz12 (N:Nat) (x:Y6×Int):rise (Ez12) Tz12 6 N Tryz.f164 [(.slice Z2),Z2] [.bool] [false] x=mslices_Contains_int_int N x:=(jz12 N x).trans rfl
def cslices_Contains_int_int (x:Y6×Int):Option (Bool):=mslices_Contains_int_int big x
def Gz12:Fn2:=⟨[(.slice Z2),Z2],[.bool],[false],fun x=>cslices_Contains_int_int x⟩
theorem Lz12:Rises Tryz.prog 164 Gz12:=rises_of (E:=Ez12) ⟨tabOk,(fsCons2 Lz11 fsNil2),fun _ _ _=>rfl,mixed,inlNil,rcsNil,owsNil⟩ Tryz.func164 rfl (by decide) (by kernel_rfl) (by kernel_rfl) (by kernel_rfl) (by kernel_rfl) (fun x r _ h=>⟨Tz12,6,big,(lz12 big x).trans h⟩)
def Tz13:LT:={ live:=[(4,[0,8,9,10])],keep:=[] }
noncomputable def Ez13:Env2:={ tab:=tab,fs:=[(163,Gz8),(164,Gz12),(165,Gz10)],inl:=[] }
noncomputable def ez13_0 (v:Y8×Y8×Int×Int):St:={ s:=[(0,(.val ⟨(.slice Z1),v.1⟩)),(8,(.val ⟨(.slice Z1),v.2.1⟩)),(9,(.val ⟨Z2,v.2.2.1⟩)),(10,(.val ⟨Z2,v.2.2.2⟩))],l:=[],k:=[],b:=4096 }
def hkinds_Check_0 (self0:Y8×Y8×Int×Int→Option (Int)) (v:Y8×Y8×Int×Int):Option (Int):=
 (bif (decide (v.2.2.2 < v.2.2.1)) then ((getI v.2.1 v.2.2.2).bind fun x1=>((ckinds_isBuilt (x1,v.2.2.2,(List.length v.1:Int))).bind fun x2=>(bif (!x2) then (some (8:Int)) else (let x3:Int:=(IntKind.i64.wrap (v.2.2.2+(1:Int)));(self0 (v.1,v.2.1,v.2.2.1,x3)))))) else ((ckinds_widths v.1).bind fun x4=>((cslices_Contains_int_int (x4,(5001:Int))).bind fun x5=>(bif x5 then (some (8:Int)) else (some (0:Int))))))
def gkinds_Check_0 (N:Nat) (self0:Y8×Y8×Int×Int→Option (Int)) (v:Y8×Y8×Int×Int):Option (Int):=hkinds_Check_0 self0 v
theorem kz13_0 (N:Nat) (s0:St→Option (Int)) (v):(floc (Ez13) Tz13 6 N Tryz.f149 [Z2] [false] [] 0 nowhereR) s0 (ez13_0 v)=hkinds_Check_0 (fun v=>s0 (ez13_0 v)) v:=by kernel_rfl
theorem bz13_0 (N:Nat) (s0:St→Option (Int)) (v):(floc (Ez13) Tz13 6 N Tryz.f149 [Z2] [false] [] 0 nowhereR) s0 (ez13_0 v)=gkinds_Check_0 N (fun v=>s0 (ez13_0 v)) v:=kz13_0 N s0 v
def nkinds_Check (loop0:Y8×Y8×Int×Int→Option (Int)) (x:Y8):Option (Int):=
 (bif (decide ((List.length x:Int) > (32:Int))) then (some (8:Int)) else (loop0 (x,x,(List.length x:Int),(0:Int))))
def mkinds_Check (N:Nat) (x:Y8):Option (Int):=nkinds_Check (iterV (gkinds_Check_0 N) N) x
theorem jz13 (N:Nat) (x:Y8):rise (Ez13) Tz13 6 N Tryz.f149 [(.slice Z1)] [Z2] [false] x=nkinds_Check (fun v=>iterR (floc (Ez13) Tz13 6 N Tryz.f149 [Z2] [false] [] 0 nowhereR) N (ez13_0 v)) x:=by kernel_rfl
theorem lz13 (N:Nat) (x:Y8):rise (Ez13) Tz13 6 N Tryz.f149 [(.slice Z1)] [Z2] [false] x=mkinds_Check N x:=(jz13 N x).trans (by rw [funext (iterR_eq ez13_0 (bz13_0 N) N)];rfl)
def ckinds_Check (x:Y8):Option (Int):=mkinds_Check big x
def Gz13:Fn2:=⟨[(.slice Z1)],[Z2],[false],fun x=>ckinds_Check x⟩
theorem Lz13:Rises Tryz.prog 149 Gz13:=rises_of (E:=Ez13) ⟨tabOk,(fsCons2 Lz8 (fsCons2 Lz12 (fsCons2 Lz10 fsNil2))),fun _ _ _=>rfl,mixed,inlNil,rcsNil,owsNil⟩ Tryz.func149 rfl (by decide) (by kernel_rfl) (by kernel_rfl) (by kernel_rfl) (by kernel_rfl) (fun x r _ h=>⟨Tz13,6,big,(lz13 big x).trans h⟩)
def Tz14:LT:={ live:=[],keep:=[] }
noncomputable def Ez14:Env2:={ tab:=tab,fs:=[],inl:=[] }
def nlayout_isIndex (x:Int×Int):Option (Bool):=
 (bif (decide (x.1≥(0:Int))) then (some (decide (x.1 < x.2))) else (some false))
def mlayout_isIndex (N:Nat) (x:Int×Int):Option (Bool):=nlayout_isIndex x
theorem jz14 (N:Nat) (x:Int×Int):rise (Ez14) Tz14 6 N Tryz.f150 [Z2,Z2] [.bool] [false] x=nlayout_isIndex x:=by kernel_rfl
theorem lz14 (N:Nat) (x:Int×Int):rise (Ez14) Tz14 6 N Tryz.f150 [Z2,Z2] [.bool] [false] x=mlayout_isIndex N x:=(jz14 N x).trans rfl
def clayout_isIndex (x:Int×Int):Option (Bool):=mlayout_isIndex big x
def Gz14:Fn2:=⟨[Z2,Z2],[.bool],[false],fun x=>clayout_isIndex x⟩
theorem Lz14:Rises Tryz.prog 150 Gz14:=rises_of (E:=Ez14) ⟨tabOk,fsNil2,fun _ _ _=>rfl,mixed,inlNil,rcsNil,owsNil⟩ Tryz.func150 rfl (by decide) (by kernel_rfl) (by kernel_rfl) (by kernel_rfl) (by kernel_rfl) (fun x r _ h=>⟨Tz14,6,big,(lz14 big x).trans h⟩)
def Tz15:LT:={ live:=[],keep:=[] }
noncomputable def Ez15:Env2:={ tab:=tab,fs:=[],inl:=[] }
def nlayout_multiple (x:Int×Int):Option (Int):=
 (let x1:Int:=(IntKind.i64.wrap (x.1+x.2));(let x2:Int:=(IntKind.i64.wrap (x1 - (1:Int)));(bif (x.2==0) then none else (let x3:Int:=(IntKind.i64.wrap (x2.tdiv x.2));(let x4:Int:=(IntKind.i64.wrap (x3 * x.2));(some x4))))))
def mlayout_multiple (N:Nat) (x:Int×Int):Option (Int):=nlayout_multiple x
theorem jz15 (N:Nat) (x:Int×Int):rise (Ez15) Tz15 6 N Tryz.f173 [Z2,Z2] [Z2] [false] x=nlayout_multiple x:=by kernel_rfl
theorem lz15 (N:Nat) (x:Int×Int):rise (Ez15) Tz15 6 N Tryz.f173 [Z2,Z2] [Z2] [false] x=mlayout_multiple N x:=(jz15 N x).trans rfl
def clayout_multiple (x:Int×Int):Option (Int):=mlayout_multiple big x
def Gz15:Fn2:=⟨[Z2,Z2],[Z2],[false],fun x=>clayout_multiple x⟩
theorem Lz15:Rises Tryz.prog 173 Gz15:=rises_of (E:=Ez15) ⟨tabOk,fsNil2,fun _ _ _=>rfl,mixed,inlNil,rcsNil,owsNil⟩ Tryz.func173 rfl (by decide) (by kernel_rfl) (by kernel_rfl) (by kernel_rfl) (by kernel_rfl) (fun x r _ h=>⟨Tz15,6,big,(lz15 big x).trans h⟩)
def Tz16:LT:={ live:=[(4,[0,5,6,7,15,16,17])],keep:=[] }
noncomputable def Ez16 (mk:(α:Type)→Nat→α→List α):Env2:={ tab:=tab,fs:=[(173,Gz15)],inl:=[],rep:=mk }
noncomputable def ez16_0 (v:Y10×Y12×Int×Int×Y4×Y6×Y4):St:={ s:=[(0,(.val ⟨(.slice Z10),v.1⟩)),(5,(.loc 0 [])),(6,(.row 1)),(7,(.loc 2 [])),(15,(.val ⟨(.slice Z7),v.2.1⟩)),(16,(.val ⟨Z2,v.2.2.1⟩)),(17,(.val ⟨Z2,v.2.2.2.1⟩))],l:=[(0,.var Z10 (.val ⟨Z10,v.2.2.2.2.1⟩)),(1,.row Z2 v.2.2.2.2.2.1),(2,.var Z10 (.val ⟨Z10,v.2.2.2.2.2.2⟩))],k:=[],b:=4096 }
def hlayout_together_0 (mk:(α:Type)→Nat→α→List α) (self0:Y10×Y12×Int×Int×Y4×Y6×Y4→Option (Y6×Y4)) (v:Y10×Y12×Int×Int×Y4×Y6×Y4):Option (Y6×Y4):=
 (bif (decide (v.2.2.2.1 < v.2.2.1)) then ((getI v.2.1 v.2.2.2.1).bind fun x3=>((getI v.1 x3.2.1).bind fun x4=>((clayout_multiple (v.2.2.2.2.2.2.1,x4.2.1)).bind fun x5=>(bif (decide (0≤v.2.2.2.1)&&decide (v.2.2.2.1 < (List.length v.2.2.2.2.2.1:Int))) then (let x6:Y6:=(List.set v.2.2.2.2.2.1 (Int.toNat v.2.2.2.1) x5);(bif (decide (0≤v.2.2.2.1)&&decide (v.2.2.2.1 < (List.length x6:Int))) then ((nth x6 (Int.toNat v.2.2.2.1)).bind fun x7=>(let x8:Int:=(IntKind.i64.wrap (x7+x4.1));(let x9:Int:=(if x4.2.1 > (x8,v.2.2.2.2.2.2.2).2.1 then x4.2.1 else (x8,v.2.2.2.2.2.2.2).2.1);(let x10:Y4:=((x8,v.2.2.2.2.2.2.2).1,(x9,(x8,v.2.2.2.2.2.2.2).2.2));(let x11:Int:=(IntKind.i64.wrap (v.2.2.2.1+(1:Int)));(self0 (v.1,v.2.1,v.2.2.1,x11,v.2.2.2.2.1,x6,x10))))))) else none)) else none)))) else ((clayout_multiple (v.2.2.2.2.2.2.1,v.2.2.2.2.2.2.2.1)).bind fun x12=>(some (v.2.2.2.2.2.1,(x12,v.2.2.2.2.2.2.2)))))
def glayout_together_0 (mk:(α:Type)→Nat→α→List α) (N:Nat) (self0:Y10×Y12×Int×Int×Y4×Y6×Y4→Option (Y6×Y4)) (v:Y10×Y12×Int×Int×Y4×Y6×Y4):Option (Y6×Y4):=hlayout_together_0 mk self0 v
theorem kz16_0 (mk:(α:Type)→Nat→α→List α) (N:Nat) (s0:St→Option (Y6×Y4)) (v):(floc (Ez16 mk) Tz16 6 N Tryz.f172 [(.slice Z2),Z10] [true,false] [] 0 nowhereR) s0 (ez16_0 v)=hlayout_together_0 mk (fun v=>s0 (ez16_0 v)) v:=by kernel_rfl
theorem bz16_0 (mk:(α:Type)→Nat→α→List α) (N:Nat) (s0:St→Option (Y6×Y4)) (v):(floc (Ez16 mk) Tz16 6 N Tryz.f172 [(.slice Z2),Z10] [true,false] [] 0 nowhereR) s0 (ez16_0 v)=glayout_together_0 mk N (fun v=>s0 (ez16_0 v)) v:=kz16_0 mk N s0 v
def nlayout_together (mk:(α:Type)→Nat→α→List α) (loop0:Y10×Y12×Int×Int×Y4×Y6×Y4→Option (Y6×Y4)) (x:Y10×Y12):Option (Y6×Y4):=
 (bif (decide (0≤(List.length x.2:Int))&&(decide ((List.length x.2:Int)≤(List.length x.2:Int))&&(decide ((List.length x.2:Int)≤68719476736)&&true))) then (let x1:Y6:=(mk Int (Int.toNat (List.length x.2:Int)) (0:Int));(let x2:Y4:=((0:Int),((1:Int),()));(loop0 (x.1,x.2,(List.length x.2:Int),(0:Int),((0:Int),((0:Int),())),x1,x2)))) else none)
def mlayout_together (mk:(α:Type)→Nat→α→List α) (N:Nat) (x:Y10×Y12):Option (Y6×Y4):=nlayout_together mk (iterV (glayout_together_0 mk N) N) x
theorem jz16 (mk:(α:Type)→Nat→α→List α) (N:Nat) (x:Y10×Y12):rise (Ez16 mk) Tz16 6 N Tryz.f172 [(.slice Z10),(.slice Z7)] [(.slice Z2),Z10] [true,false] x=nlayout_together mk (fun v=>iterR (floc (Ez16 mk) Tz16 6 N Tryz.f172 [(.slice Z2),Z10] [true,false] [] 0 nowhereR) N (ez16_0 v)) x:=by kernel_rfl
theorem lz16 (mk:(α:Type)→Nat→α→List α) (N:Nat) (x:Y10×Y12):rise (Ez16 mk) Tz16 6 N Tryz.f172 [(.slice Z10),(.slice Z7)] [(.slice Z2),Z10] [true,false] x=mlayout_together mk N x:=(jz16 mk N x).trans (by rw [funext (iterR_eq ez16_0 (bz16_0 mk N) N)];rfl)
def clayout_together (x:Y10×Y12):Option (Y6×Y4):=mlayout_together (fun _=>List.replicate) big x
def Gz16:Fn2:=⟨[(.slice Z10),(.slice Z7)],[(.slice Z2),Z10],[true,false],fun x=>clayout_together x⟩
theorem Lz16:Rises Tryz.prog 172 Gz16:=rises_of (E:=Ez16 (fun _=>List.replicate)) ⟨tabOk,(fsCons2 Lz15 fsNil2),fun _ _ _=>rfl,mixed,inlNil,rcsNil,owsNil⟩ Tryz.func172 rfl (by decide) (by kernel_rfl) (by kernel_rfl) (by kernel_rfl) (by kernel_rfl) (fun x r _ h=>⟨Tz16,6,big,(lz16 (fun _=>List.replicate) big x).trans h⟩)
def Tz17:LT:={ live:=[],keep:=[] }
noncomputable def Ez17:Env2:={ tab:=tab,fs:=[(172,Gz16)],inl:=[] }
def nlayout_extentOf (x:Y1×Y10):Option (Y4):=
 (bif (x.1.1==(2:Int)) then (bif (x.1.1==(2:Int)) then (let x1:Y4:=((8:Int),((8:Int),()));(some x1)) else (bif (x.1.1==(3:Int)) then (let x2:Y4:=((16:Int),((8:Int),()));(some x2)) else (bif (x.1.1==(7:Int)) then (let x3:Y4:=((24:Int),((8:Int),()));(some x3)) else (bif (x.1.1==(6:Int)) then ((getI x.2 x.1.2.1).bind fun x4=>(let x5:Int:=(IntKind.i64.wrap (x.1.2.2.1 * x4.1));(some (x5,(x4.2.1,()))))) else (bif (x.1.1==(5:Int)) then ((clayout_together (x.2,x.1.2.2.2.1)).bind fun x6=>(some x6.2)) else (let x7:Y4:=((1:Int),((1:Int),()));(some x7))))))) else (bif (x.1.1==(4:Int)) then (let x8:Y4:=((8:Int),((8:Int),()));(some x8)) else (bif (x.1.1==(3:Int)) then (let x9:Y4:=((16:Int),((8:Int),()));(some x9)) else (bif (x.1.1==(7:Int)) then (let x10:Y4:=((24:Int),((8:Int),()));(some x10)) else (bif (x.1.1==(6:Int)) then ((getI x.2 x.1.2.1).bind fun x11=>(let x12:Int:=(IntKind.i64.wrap (x.1.2.2.1 * x11.1));(some (x12,(x11.2.1,()))))) else (bif (x.1.1==(5:Int)) then ((clayout_together (x.2,x.1.2.2.2.1)).bind fun x13=>(some x13.2)) else (let x14:Y4:=((1:Int),((1:Int),()));(some x14))))))))
def mlayout_extentOf (N:Nat) (x:Y1×Y10):Option (Y4):=nlayout_extentOf x
theorem jz17 (N:Nat) (x:Y1×Y10):rise (Ez17) Tz17 6 N Tryz.f166 [Z1,(.slice Z10)] [Z10] [false] x=nlayout_extentOf x:=by kernel_rfl
theorem lz17 (N:Nat) (x:Y1×Y10):rise (Ez17) Tz17 6 N Tryz.f166 [Z1,(.slice Z10)] [Z10] [false] x=mlayout_extentOf N x:=(jz17 N x).trans rfl
def clayout_extentOf (x:Y1×Y10):Option (Y4):=mlayout_extentOf big x
def Gz17:Fn2:=⟨[Z1,(.slice Z10)],[Z10],[false],fun x=>clayout_extentOf x⟩
theorem Lz17:Rises Tryz.prog 166 Gz17:=rises_of (E:=Ez17) ⟨tabOk,(fsCons2 Lz16 fsNil2),fun _ _ _=>rfl,mixed,inlNil,rcsNil,owsNil⟩ Tryz.func166 rfl (by decide) (by kernel_rfl) (by kernel_rfl) (by kernel_rfl) (by kernel_rfl) (fun x r _ h=>⟨Tz17,6,big,(lz17 big x).trans h⟩)
def Tz18:LT:={ live:=[(3,[3,6,7,8])],keep:=[] }
noncomputable def Ez18:Env2:={ tab:=tab,fs:=[(166,Gz17)],inl:=[] }
noncomputable def ez18_0 (v:Y8×Int×Int×Y10):St:={ s:=[(3,(.row 0)),(6,(.val ⟨(.slice Z1),v.1⟩)),(7,(.val ⟨Z2,v.2.1⟩)),(8,(.val ⟨Z2,v.2.2.1⟩))],l:=[(0,.row Z10 v.2.2.2)],k:=[],b:=4096 }
def hlayout_extents_0 (self0:Y8×Int×Int×Y10→Option (Y10)) (v:Y8×Int×Int×Y10):Option (Y10):=
 (bif (decide (v.2.2.1 < v.2.1)) then ((getI v.1 v.2.2.1).bind fun x1=>((clayout_extentOf (x1,v.2.2.2)).bind fun x2=>(let x3:Y10:=([x2]:Y10);(bif (Nat.ble 1 2&&Nat.ble (List.length v.2.2.2+List.length x3) lim) then (let x4:Int:=(IntKind.i64.wrap (v.2.2.1+(1:Int)));(self0 (v.1,v.2.1,x4,(List.append v.2.2.2 x3)))) else none)))) else (some v.2.2.2))
def glayout_extents_0 (N:Nat) (self0:Y8×Int×Int×Y10→Option (Y10)) (v:Y8×Int×Int×Y10):Option (Y10):=hlayout_extents_0 self0 v
theorem kz18_0 (N:Nat) (s0:St→Option (Y10)) (v):(floc (Ez18) Tz18 6 N Tryz.f151 [(.slice Z10)] [true] [] 0 nowhereR) s0 (ez18_0 v)=hlayout_extents_0 (fun v=>s0 (ez18_0 v)) v:=by kernel_rfl
theorem bz18_0 (N:Nat) (s0:St→Option (Y10)) (v):(floc (Ez18) Tz18 6 N Tryz.f151 [(.slice Z10)] [true] [] 0 nowhereR) s0 (ez18_0 v)=glayout_extents_0 N (fun v=>s0 (ez18_0 v)) v:=kz18_0 N s0 v
def nlayout_extents (loop0:Y8×Int×Int×Y10→Option (Y10)) (x:Y8):Option (Y10):=
 (loop0 (x,(List.length x:Int),(0:Int),([]:List Y4)))
def mlayout_extents (N:Nat) (x:Y8):Option (Y10):=nlayout_extents (iterV (glayout_extents_0 N) N) x
theorem jz18 (N:Nat) (x:Y8):rise (Ez18) Tz18 6 N Tryz.f151 [(.slice Z1)] [(.slice Z10)] [true] x=nlayout_extents (fun v=>iterR (floc (Ez18) Tz18 6 N Tryz.f151 [(.slice Z10)] [true] [] 0 nowhereR) N (ez18_0 v)) x:=by kernel_rfl
theorem lz18 (N:Nat) (x:Y8):rise (Ez18) Tz18 6 N Tryz.f151 [(.slice Z1)] [(.slice Z10)] [true] x=mlayout_extents N x:=(jz18 N x).trans (by rw [funext (iterR_eq ez18_0 (bz18_0 N) N)];rfl)
def clayout_extents (x:Y8):Option (Y10):=mlayout_extents big x
def Gz18:Fn2:=⟨[(.slice Z1)],[(.slice Z10)],[true],fun x=>clayout_extents x⟩
theorem Lz18:Rises Tryz.prog 151 Gz18:=rises_of (E:=Ez18) ⟨tabOk,(fsCons2 Lz17 fsNil2),fun _ _ _=>rfl,mixed,inlNil,rcsNil,owsNil⟩ Tryz.func151 rfl (by decide) (by kernel_rfl) (by kernel_rfl) (by kernel_rfl) (by kernel_rfl) (fun x r _ h=>⟨Tz18,6,big,(lz18 big x).trans h⟩)
def Tz19:LT:={ live:=[],keep:=[] }
noncomputable def Ez19:Env2:={ tab:=tab,fs:=[(149,Gz13),(150,Gz14),(151,Gz18)],inl:=[] }
def nlayout_measured (x:Y8×Int):Option (Y10×Int):=
 ((ckinds_Check x.1).bind fun x1=>(bif (x1 != (0:Int)) then (some (([]:List Y4),x1)) else ((clayout_isIndex (x.2,(List.length x.1:Int))).bind fun x2=>(bif (!x2) then (some (([]:List Y4),(2:Int))) else ((clayout_extents x.1).bind fun x3=>(bif (decide (0≤x.2)&&decide (x.2 < (List.length x3:Int))) then ((nth x3 (Int.toNat x.2)).bind fun x4=>(bif (decide (x4.1 > (256:Int))) then (some (([]:List Y4),(16:Int))) else (some (x3,(0:Int))))) else none))))))
def mlayout_measured (N:Nat) (x:Y8×Int):Option (Y10×Int):=nlayout_measured x
theorem jz19 (N:Nat) (x:Y8×Int):rise (Ez19) Tz19 6 N Tryz.f123 [(.slice Z1),Z2] [(.slice Z10),Z2] [true,false] x=nlayout_measured x:=by kernel_rfl
theorem lz19 (N:Nat) (x:Y8×Int):rise (Ez19) Tz19 6 N Tryz.f123 [(.slice Z1),Z2] [(.slice Z10),Z2] [true,false] x=mlayout_measured N x:=(jz19 N x).trans rfl
def clayout_measured (x:Y8×Int):Option (Y10×Int):=mlayout_measured big x
def Gz19:Fn2:=⟨[(.slice Z1),Z2],[(.slice Z10),Z2],[true,false],fun x=>clayout_measured x⟩
theorem Lz19:Rises Tryz.prog 123 Gz19:=rises_of (E:=Ez19) ⟨tabOk,(fsCons2 Lz13 (fsCons2 Lz14 (fsCons2 Lz18 fsNil2))),fun _ _ _=>rfl,mixed,inlNil,rcsNil,owsNil⟩ Tryz.func123 rfl (by decide) (by kernel_rfl) (by kernel_rfl) (by kernel_rfl) (by kernel_rfl) (fun x r _ h=>⟨Tz19,6,big,(lz19 big x).trans h⟩)
def Tz20:LT:={ live:=[],keep:=[] }
noncomputable def Ez20:Env2:={ tab:=tab,fs:=[(123,Gz19)],inl:=[] }
def nlayout_Size (x:Y8×Int):Option (Int×Int×Int):=
 ((clayout_measured (x.1,x.2)).bind fun x1=>(bif (x1.2 != (0:Int)) then (some ((0:Int),(0:Int),x1.2)) else (bif (decide (0≤x.2)&&decide (x.2 < (List.length x1.1:Int))) then ((nth x1.1 (Int.toNat x.2)).bind fun x2=>(bif (decide (0≤x.2)&&decide (x.2 < (List.length x1.1:Int))) then ((nth x1.1 (Int.toNat x.2)).bind fun x3=>(some (x2.1,x3.2.1,(0:Int)))) else none)) else none)))
def mlayout_Size (N:Nat) (x:Y8×Int):Option (Int×Int×Int):=nlayout_Size x
theorem jz20 (N:Nat) (x:Y8×Int):rise (Ez20) Tz20 6 N Tryz.f88 [(.slice Z1),Z2] [Z2,Z2,Z2] [false,false,false] x=nlayout_Size x:=by kernel_rfl
theorem lz20 (N:Nat) (x:Y8×Int):rise (Ez20) Tz20 6 N Tryz.f88 [(.slice Z1),Z2] [Z2,Z2,Z2] [false,false,false] x=mlayout_Size N x:=(jz20 N x).trans rfl
def clayout_Size (x:Y8×Int):Option (Int×Int×Int):=mlayout_Size big x
def Gz20:Fn2:=⟨[(.slice Z1),Z2],[Z2,Z2,Z2],[false,false,false],fun x=>clayout_Size x⟩
theorem Lz20:Rises Tryz.prog 88 Gz20:=rises_of (E:=Ez20) ⟨tabOk,(fsCons2 Lz19 fsNil2),fun _ _ _=>rfl,mixed,inlNil,rcsNil,owsNil⟩ Tryz.func88 rfl (by decide) (by kernel_rfl) (by kernel_rfl) (by kernel_rfl) (by kernel_rfl) (fun x r _ h=>⟨Tz20,6,big,(lz20 big x).trans h⟩)
def Tz21:LT:={ live:=[(2,[0,8,9])],keep:=[] }
noncomputable def Ez21:Env2:={ tab:=tab,fs:=[(88,Gz20)],inl:=[] }
noncomputable def ez21_0 (v:Y8×Int×Int):St:={ s:=[(0,(.val ⟨(.slice Z1),v.1⟩)),(8,(.val ⟨Z2,v.2.1⟩)),(9,(.val ⟨Z2,v.2.2⟩))],l:=[],k:=[],b:=4096 }
def himage_areTypes_0 (self0:Y8×Int×Int→Option (Bool)) (v:Y8×Int×Int):Option (Bool):=
 (bif (decide (v.2.2 < v.2.1)) then ((clayout_Size (v.1,v.2.2)).bind fun x1=>(bif (x1.2.2 != (0:Int)) then (some false) else (let x2:Int:=(IntKind.i64.wrap (v.2.2+(1:Int)));(self0 (v.1,v.2.1,x2))))) else (some true))
def gimage_areTypes_0 (N:Nat) (self0:Y8×Int×Int→Option (Bool)) (v:Y8×Int×Int):Option (Bool):=himage_areTypes_0 self0 v
theorem kz21_0 (N:Nat) (s0:St→Option (Bool)) (v):(floc (Ez21) Tz21 6 N Tryz.f49 [.bool] [false] [] 0 nowhereR) s0 (ez21_0 v)=himage_areTypes_0 (fun v=>s0 (ez21_0 v)) v:=by kernel_rfl
theorem bz21_0 (N:Nat) (s0:St→Option (Bool)) (v):(floc (Ez21) Tz21 6 N Tryz.f49 [.bool] [false] [] 0 nowhereR) s0 (ez21_0 v)=gimage_areTypes_0 N (fun v=>s0 (ez21_0 v)) v:=kz21_0 N s0 v
def nimage_areTypes (loop0:Y8×Int×Int→Option (Bool)) (x:Y8):Option (Bool):=
 (loop0 (x,(List.length x:Int),(0:Int)))
def mimage_areTypes (N:Nat) (x:Y8):Option (Bool):=nimage_areTypes (iterV (gimage_areTypes_0 N) N) x
theorem jz21 (N:Nat) (x:Y8):rise (Ez21) Tz21 6 N Tryz.f49 [(.slice Z1)] [.bool] [false] x=nimage_areTypes (fun v=>iterR (floc (Ez21) Tz21 6 N Tryz.f49 [.bool] [false] [] 0 nowhereR) N (ez21_0 v)) x:=by kernel_rfl
theorem lz21 (N:Nat) (x:Y8):rise (Ez21) Tz21 6 N Tryz.f49 [(.slice Z1)] [.bool] [false] x=mimage_areTypes N x:=(jz21 N x).trans (by rw [funext (iterR_eq ez21_0 (bz21_0 N) N)];rfl)
def cimage_areTypes (x:Y8):Option (Bool):=mimage_areTypes big x
def Gz21:Fn2:=⟨[(.slice Z1)],[.bool],[false],fun x=>cimage_areTypes x⟩
theorem Lz21:Rises Tryz.prog 49 Gz21:=rises_of (E:=Ez21) ⟨tabOk,(fsCons2 Lz20 fsNil2),fun _ _ _=>rfl,mixed,inlNil,rcsNil,owsNil⟩ Tryz.func49 rfl (by decide) (by kernel_rfl) (by kernel_rfl) (by kernel_rfl) (by kernel_rfl) (fun x r _ h=>⟨Tz21,6,big,(lz21 big x).trans h⟩)
def Tz22:LT:={ live:=[(4,[8,9,10])],keep:=[] }
noncomputable def Ez22:Env2:={ tab:=tab,fs:=[],inl:=[] }
noncomputable def ez22_0 (v:Y13×Int×Int):St:={ s:=[(8,(.val ⟨(.slice .str),v.1⟩)),(9,(.val ⟨Z2,v.2.1⟩)),(10,(.val ⟨Z2,v.2.2⟩))],l:=[],k:=[],b:=4096 }
def himage_areTexts_0 (self0:Y13×Int×Int→Option (Bool)) (v:Y13×Int×Int):Option (Bool):=
 (bif (decide (v.2.2 < v.2.1)) then ((getI v.1 v.2.2).bind fun x1=>(bif (decide ((List.length x1:Int) > (64:Int))) then (some false) else (let x2:Int:=(IntKind.i64.wrap (v.2.2+(1:Int)));(self0 (v.1,v.2.1,x2))))) else (some true))
def gimage_areTexts_0 (N:Nat) (self0:Y13×Int×Int→Option (Bool)) (v:Y13×Int×Int):Option (Bool):=himage_areTexts_0 self0 v
theorem kz22_0 (N:Nat) (s0:St→Option (Bool)) (v):(floc (Ez22) Tz22 6 N Tryz.f50 [.bool] [false] [] 0 nowhereR) s0 (ez22_0 v)=himage_areTexts_0 (fun v=>s0 (ez22_0 v)) v:=by kernel_rfl
theorem bz22_0 (N:Nat) (s0:St→Option (Bool)) (v):(floc (Ez22) Tz22 6 N Tryz.f50 [.bool] [false] [] 0 nowhereR) s0 (ez22_0 v)=gimage_areTexts_0 N (fun v=>s0 (ez22_0 v)) v:=kz22_0 N s0 v
def nimage_areTexts (loop0:Y13×Int×Int→Option (Bool)) (x:Y13):Option (Bool):=
 (bif (decide ((List.length x:Int) > (32:Int))) then (some false) else (loop0 (x,(List.length x:Int),(0:Int))))
def mimage_areTexts (N:Nat) (x:Y13):Option (Bool):=nimage_areTexts (iterV (gimage_areTexts_0 N) N) x
theorem jz22 (N:Nat) (x:Y13):rise (Ez22) Tz22 6 N Tryz.f50 [(.slice .str)] [.bool] [false] x=nimage_areTexts (fun v=>iterR (floc (Ez22) Tz22 6 N Tryz.f50 [.bool] [false] [] 0 nowhereR) N (ez22_0 v)) x:=by kernel_rfl
theorem lz22 (N:Nat) (x:Y13):rise (Ez22) Tz22 6 N Tryz.f50 [(.slice .str)] [.bool] [false] x=mimage_areTexts N x:=(jz22 N x).trans (by rw [funext (iterR_eq ez22_0 (bz22_0 N) N)];rfl)
def cimage_areTexts (x:Y13):Option (Bool):=mimage_areTexts big x
def Gz22:Fn2:=⟨[(.slice .str)],[.bool],[false],fun x=>cimage_areTexts x⟩
theorem Lz22:Rises Tryz.prog 50 Gz22:=rises_of (E:=Ez22) ⟨tabOk,fsNil2,fun _ _ _=>rfl,mixed,inlNil,rcsNil,owsNil⟩ Tryz.func50 rfl (by decide) (by kernel_rfl) (by kernel_rfl) (by kernel_rfl) (by kernel_rfl) (fun x r _ h=>⟨Tz22,6,big,(lz22 big x).trans h⟩)
def Tz23:LT:={ live:=[],keep:=[] }
noncomputable def Ez23:Env2:={ tab:=tab,fs:=[],inl:=[] }
def nimage_isIndex (x:Int×Int):Option (Bool):=
 (bif (decide (x.1≥(0:Int))) then (some (decide (x.1 < x.2))) else (some false))
def mimage_isIndex (N:Nat) (x:Int×Int):Option (Bool):=nimage_isIndex x
theorem jz23 (N:Nat) (x:Int×Int):rise (Ez23) Tz23 6 N Tryz.f27 [Z2,Z2] [.bool] [false] x=nimage_isIndex x:=by kernel_rfl
theorem lz23 (N:Nat) (x:Int×Int):rise (Ez23) Tz23 6 N Tryz.f27 [Z2,Z2] [.bool] [false] x=mimage_isIndex N x:=(jz23 N x).trans rfl
def cimage_isIndex (x:Int×Int):Option (Bool):=mimage_isIndex big x
def Gz23:Fn2:=⟨[Z2,Z2],[.bool],[false],fun x=>cimage_isIndex x⟩
theorem Lz23:Rises Tryz.prog 27 Gz23:=rises_of (E:=Ez23) ⟨tabOk,fsNil2,fun _ _ _=>rfl,mixed,inlNil,rcsNil,owsNil⟩ Tryz.func27 rfl (by decide) (by kernel_rfl) (by kernel_rfl) (by kernel_rfl) (by kernel_rfl) (fun x r _ h=>⟨Tz23,6,big,(lz23 big x).trans h⟩)
def Tz24:LT:={ live:=[(3,[1,5,10,11,12])],keep:=[] }
def Tz25:LT:={ live:=[],keep:=[] }
noncomputable def Ez25:Env2:={ tab:=tab,fs:=[],inl:=[] }
def nimage_areSlots_1 (x:Y2):Option (Y6):=
 (some x.1)
def mimage_areSlots_1 (N:Nat) (x:Y2):Option (Y6):=nimage_areSlots_1 x
theorem jz25 (N:Nat) (x:Y2):rise (Ez25) Tz25 6 N Tryz.f153 [Z7] [.str] [false] x=nimage_areSlots_1 x:=by kernel_rfl
theorem lz25 (N:Nat) (x:Y2):rise (Ez25) Tz25 6 N Tryz.f153 [Z7] [.str] [false] x=mimage_areSlots_1 N x:=(jz25 N x).trans rfl
def cimage_areSlots_1 (x:Y2):Option (Y6):=mimage_areSlots_1 big x
def Gz25:Fn2:=⟨[Z7],[.str],[false],fun x=>cimage_areSlots_1 x⟩
theorem Lz25:Rises Tryz.prog 153 Gz25:=rises_of (E:=Ez25) ⟨tabOk,fsNil2,fun _ _ _=>rfl,mixed,inlNil,rcsNil,owsNil⟩ Tryz.func153 rfl (by decide) (by kernel_rfl) (by kernel_rfl) (by kernel_rfl) (by kernel_rfl) (fun x r _ h=>⟨Tz25,6,big,(lz25 big x).trans h⟩)
def Tz26:LT:={ live:=[(4,[0,1,10,11,12])],keep:=[(23,[])] }
noncomputable def Ez26:Env2:={ tab:=tab,fs:=[(27,Gz23),(127,Gz6),(153,Gz25)],inl:=[(152,Tryz.f152,Tz24)] }
noncomputable def ez25 (v:Y12×Int×Int×(List (Y6×Bool))):St:={ s:=[(1,(.clo 153 .unit)),(5,(.mp 0)),(10,(.val ⟨(.slice Z7),v.1⟩)),(11,(.val ⟨Z2,v.2.1⟩)),(12,(.val ⟨Z2,v.2.2.1⟩))],l:=[(0,.mp .str .bool v.2.2.2)],k:=[(4096,[])],b:=16875520 }
noncomputable def ez26_0 (v:Y12×Int×Y12×Int×Int):St:={ s:=[(0,(.val ⟨(.slice Z7),v.1⟩)),(1,(.val ⟨Z2,v.2.1⟩)),(10,(.val ⟨(.slice Z7),v.2.2.1⟩)),(11,(.val ⟨Z2,v.2.2.2.1⟩)),(12,(.val ⟨Z2,v.2.2.2.2⟩))],l:=[],k:=[],b:=4096 }
def himage_areSlots_1 (self0:Y12×Int×Y12×Int×Int→Option (Bool)) (self1:Y12×Int×Int×(List (Y6×Bool))→Option (Bool)) (v:Y12×Int×Int×(List (Y6×Bool))):Option (Bool):=
 (bif (decide (v.2.2.1 < v.2.1)) then ((getI v.1 v.2.2.1).bind fun x4=>((cimage_areSlots_1 x4).bind fun x5=>((ckinds_Named x5).bind fun x6=>(bif (!x6) then (some false) else (bif (@atK .str .bool x5 false v.2.2.2).1 then (some false) else (let x7:(List (Y6×Bool)):=(@putK .str .bool x5 true v.2.2.2);(let x8:Int:=(IntKind.i64.wrap (v.2.2.1+(1:Int)));(self1 (v.1,v.2.1,x8,x7))))))))) else (some true))
def gimage_areSlots_1 (N:Nat) (self0:Y12×Int×Y12×Int×Int→Option (Bool)) (self1:Y12×Int×Int×(List (Y6×Bool))→Option (Bool)) (v:Y12×Int×Int×(List (Y6×Bool))):Option (Bool):=himage_areSlots_1 self0 self1 v
theorem kz25 (N:Nat) (s0:St→Option (Bool)) (s1:St→Option (Bool)) (v):(floc (Ez26) Tz26 6 N Tryz.f124 [.bool] [false] [.call 9 1 152] 0 nowhereR) s1 (ez25 v)=himage_areSlots_1 (fun v=>s0 (ez26_0 v)) (fun v=>s1 (ez25 v)) v:=by kernel_rfl
theorem bz25 (N:Nat) (s0:St→Option (Bool)) (s1:St→Option (Bool)) (v):(floc (Ez26) Tz26 6 N Tryz.f124 [.bool] [false] [.call 9 1 152] 0 nowhereR) s1 (ez25 v)=gimage_areSlots_1 N (fun v=>s0 (ez26_0 v)) (fun v=>s1 (ez25 v)) v:=kz25 N s0 s1 v
def himage_areSlots_0 (loop1:Y12×Int×Int×(List (Y6×Bool))→Option (Bool)) (self0:Y12×Int×Y12×Int×Int→Option (Bool)) (v:Y12×Int×Y12×Int×Int):Option (Bool):=
 (bif (decide (v.2.2.2.2 < v.2.2.2.1)) then ((getI v.2.2.1 v.2.2.2.2).bind fun x1=>((cimage_isIndex (x1.2.1,v.2.1)).bind fun x2=>(bif (!x2) then (some false) else (let x3:Int:=(IntKind.i64.wrap (v.2.2.2.2+(1:Int)));(self0 (v.1,v.2.1,v.2.2.1,v.2.2.2.1,x3)))))) else (loop1 (v.1,(List.length v.1:Int),(0:Int),([]:List (Y6×Bool)))))
def gimage_areSlots_0 (N:Nat) (self0:Y12×Int×Y12×Int×Int→Option (Bool)) (v:Y12×Int×Y12×Int×Int):Option (Bool):=himage_areSlots_0 (iterV (gimage_areSlots_1 N self0) N) self0 v
theorem kz26_0 (N:Nat) (s0:St→Option (Bool)) (v):(floc (Ez26) Tz26 6 N Tryz.f124 [.bool] [false] [] 0 nowhereR) s0 (ez26_0 v)=himage_areSlots_0 (fun v=>iterR (floc (Ez26) Tz26 6 N Tryz.f124 [.bool] [false] [.call 9 1 152] 0 nowhereR) N (ez25 v)) (fun v=>s0 (ez26_0 v)) v:=by kernel_rfl
theorem bz26_0 (N:Nat) (s0:St→Option (Bool)) (v):(floc (Ez26) Tz26 6 N Tryz.f124 [.bool] [false] [] 0 nowhereR) s0 (ez26_0 v)=gimage_areSlots_0 N (fun v=>s0 (ez26_0 v)) v:=(kz26_0 N s0 v).trans (by rw [funext (iterR_eq ez25 (bz25 N s0) N)];rfl)
def nimage_areSlots (loop0:Y12×Int×Y12×Int×Int→Option (Bool)) (x:Y12×Int):Option (Bool):=
 (bif (decide ((List.length x.1:Int) > (16:Int))) then (some false) else (loop0 (x.1,x.2,x.1,(List.length x.1:Int),(0:Int))))
def mimage_areSlots (N:Nat) (x:Y12×Int):Option (Bool):=nimage_areSlots (iterV (gimage_areSlots_0 N) N) x
theorem jz26 (N:Nat) (x:Y12×Int):rise (Ez26) Tz26 6 N Tryz.f124 [(.slice Z7),Z2] [.bool] [false] x=nimage_areSlots (fun v=>iterR (floc (Ez26) Tz26 6 N Tryz.f124 [.bool] [false] [] 0 nowhereR) N (ez26_0 v)) x:=by kernel_rfl
theorem lz26 (N:Nat) (x:Y12×Int):rise (Ez26) Tz26 6 N Tryz.f124 [(.slice Z7),Z2] [.bool] [false] x=mimage_areSlots N x:=(jz26 N x).trans (by rw [funext (iterR_eq ez26_0 (bz26_0 N) N)];rfl)
def cimage_areSlots (x:Y12×Int):Option (Bool):=mimage_areSlots big x
def Gz26:Fn2:=⟨[(.slice Z7),Z2],[.bool],[false],fun x=>cimage_areSlots x⟩
theorem Lz26:Rises Tryz.prog 124 Gz26:=rises_of (E:=Ez26) ⟨tabOk,(fsCons2 Lz23 (fsCons2 Lz6 (fsCons2 Lz25 fsNil2))),fun _ _ _=>rfl,mixed,(inlCons (inlB_of Tryz.func152 rfl rfl (by kernel_rfl)) inlNil),rcsNil,owsNil⟩ Tryz.func124 rfl (by decide) (by kernel_rfl) (by kernel_rfl) (by kernel_rfl) (by kernel_rfl) (fun x r _ h=>⟨Tz26,6,big,(lz26 big x).trans h⟩)
def Tz27:LT:={ live:=[],keep:=[] }
noncomputable def Ez27:Env2:={ tab:=tab,fs:=[],inl:=[] }
def nops_isOperation (x:Int):Option (Bool):=
 (bif (decide (x≥(1:Int))) then (some (decide (x≤(34:Int)))) else (some false))
def mops_isOperation (N:Nat) (x:Int):Option (Bool):=nops_isOperation x
theorem jz27 (N:Nat) (x:Int):rise (Ez27) Tz27 6 N Tryz.f143 [Z8] [.bool] [false] x=nops_isOperation x:=by kernel_rfl
theorem lz27 (N:Nat) (x:Int):rise (Ez27) Tz27 6 N Tryz.f143 [Z8] [.bool] [false] x=mops_isOperation N x:=(jz27 N x).trans rfl
def cops_isOperation (x:Int):Option (Bool):=mops_isOperation big x
def Gz27:Fn2:=⟨[Z8],[.bool],[false],fun x=>cops_isOperation x⟩
theorem Lz27:Rises Tryz.prog 143 Gz27:=rises_of (E:=Ez27) ⟨tabOk,fsNil2,fun _ _ _=>rfl,mixed,inlNil,rcsNil,owsNil⟩ Tryz.func143 rfl (by decide) (by kernel_rfl) (by kernel_rfl) (by kernel_rfl) (by kernel_rfl) (fun x r _ h=>⟨Tz27,6,big,(lz27 big x).trans h⟩)
def Tz28:LT:={ live:=[],keep:=[] }
noncomputable def Ez28:Env2:={ tab:=tab,fs:=[],inl:=[] }
def nops_operands (x:Y7):Option (Y6):=
 (let x1:Y6:=[x.2.1,x.2.2.1,x.2.2.2.1];(some x1))
def mops_operands (N:Nat) (x:Y7):Option (Y6):=nops_operands x
theorem jz28 (N:Nat) (x:Y7):rise (Ez28) Tz28 6 N Tryz.f161 [Z5] [(.arr 3 Z2)] [false] x=nops_operands x:=by kernel_rfl
theorem lz28 (N:Nat) (x:Y7):rise (Ez28) Tz28 6 N Tryz.f161 [Z5] [(.arr 3 Z2)] [false] x=mops_operands N x:=(jz28 N x).trans rfl
def cops_operands (x:Y7):Option (Y6):=mops_operands big x
def Gz28:Fn2:=⟨[Z5],[(.arr 3 Z2)],[false],fun x=>cops_operands x⟩
theorem Lz28:Rises Tryz.prog 161 Gz28:=rises_of (E:=Ez28) ⟨tabOk,fsNil2,fun _ _ _=>rfl,mixed,inlNil,rcsNil,owsNil⟩ Tryz.func161 rfl (by decide) (by kernel_rfl) (by kernel_rfl) (by kernel_rfl) (by kernel_rfl) (fun x r _ h=>⟨Tz28,6,big,(lz28 big x).trans h⟩)
def Tz29:LT:={ live:=[],keep:=[] }
noncomputable def Ez29:Env2:={ tab:=tab,fs:=[],inl:=[] }
def nops_isIndex (x:Int×Int):Option (Bool):=
 (bif (decide (x.1≥(0:Int))) then (some (decide (x.1 < x.2))) else (some false))
def mops_isIndex (N:Nat) (x:Int×Int):Option (Bool):=nops_isIndex x
theorem jz29 (N:Nat) (x:Int×Int):rise (Ez29) Tz29 6 N Tryz.f167 [Z2,Z2] [.bool] [false] x=nops_isIndex x:=by kernel_rfl
theorem lz29 (N:Nat) (x:Int×Int):rise (Ez29) Tz29 6 N Tryz.f167 [Z2,Z2] [.bool] [false] x=mops_isIndex N x:=(jz29 N x).trans rfl
def cops_isIndex (x:Int×Int):Option (Bool):=mops_isIndex big x
def Gz29:Fn2:=⟨[Z2,Z2],[.bool],[false],fun x=>cops_isIndex x⟩
theorem Lz29:Rises Tryz.prog 167 Gz29:=rises_of (E:=Ez29) ⟨tabOk,fsNil2,fun _ _ _=>rfl,mixed,inlNil,rcsNil,owsNil⟩ Tryz.func167 rfl (by decide) (by kernel_rfl) (by kernel_rfl) (by kernel_rfl) (by kernel_rfl) (fun x r _ h=>⟨Tz29,6,big,(lz29 big x).trans h⟩)
def Tz30:LT:={ live:=[],keep:=[] }
noncomputable def Ez30:Env2:={ tab:=tab,fs:=[(167,Gz29)],inl:=[] }
def nops_fits (x:Int×Int):Option (Bool):=
 (bif (x.1==(5:Int)) then (some true) else (bif (x.1==(3:Int)) then (bif (x.1==(3:Int)) then (bif (x.2==(-1:Int)) then (some true) else ((cops_isIndex (x.2,(16:Int))).bind fun x1=>(some x1))) else (bif (x.1==(1:Int)) then (bif (x.1==(1:Int)) then ((cops_isIndex (x.2,(16:Int))).bind fun x2=>(some x2)) else (bif (x.1==(6:Int)) then ((cops_isIndex (x.2,(2:Int))).bind fun x3=>(some x3)) else (bif (x.1==(7:Int)) then ((cops_isIndex (x.2,(32:Int))).bind fun x4=>(some x4)) else (bif (x.1==(8:Int)) then ((cops_isIndex (x.2,(8:Int))).bind fun x5=>(some x5)) else (bif (x.1==(9:Int)) then ((cops_isIndex (x.2,(32:Int))).bind fun x6=>(some x6)) else (bif (x.1==(10:Int)) then ((cops_isIndex (x.2,(200:Int))).bind fun x7=>(some x7)) else (some (x.2==(0:Int))))))))) else (bif (x.1==(2:Int)) then ((cops_isIndex (x.2,(16:Int))).bind fun x8=>(some x8)) else (bif (x.1==(6:Int)) then ((cops_isIndex (x.2,(2:Int))).bind fun x9=>(some x9)) else (bif (x.1==(7:Int)) then ((cops_isIndex (x.2,(32:Int))).bind fun x10=>(some x10)) else (bif (x.1==(8:Int)) then ((cops_isIndex (x.2,(8:Int))).bind fun x11=>(some x11)) else (bif (x.1==(9:Int)) then ((cops_isIndex (x.2,(32:Int))).bind fun x12=>(some x12)) else (bif (x.1==(10:Int)) then ((cops_isIndex (x.2,(200:Int))).bind fun x13=>(some x13)) else (some (x.2==(0:Int))))))))))) else (bif (x.1==(4:Int)) then (bif (x.2==(-1:Int)) then (some true) else ((cops_isIndex (x.2,(16:Int))).bind fun x14=>(some x14))) else (bif (x.1==(1:Int)) then (bif (x.1==(1:Int)) then ((cops_isIndex (x.2,(16:Int))).bind fun x15=>(some x15)) else (bif (x.1==(6:Int)) then ((cops_isIndex (x.2,(2:Int))).bind fun x16=>(some x16)) else (bif (x.1==(7:Int)) then ((cops_isIndex (x.2,(32:Int))).bind fun x17=>(some x17)) else (bif (x.1==(8:Int)) then ((cops_isIndex (x.2,(8:Int))).bind fun x18=>(some x18)) else (bif (x.1==(9:Int)) then ((cops_isIndex (x.2,(32:Int))).bind fun x19=>(some x19)) else (bif (x.1==(10:Int)) then ((cops_isIndex (x.2,(200:Int))).bind fun x20=>(some x20)) else (some (x.2==(0:Int))))))))) else (bif (x.1==(2:Int)) then ((cops_isIndex (x.2,(16:Int))).bind fun x21=>(some x21)) else (bif (x.1==(6:Int)) then ((cops_isIndex (x.2,(2:Int))).bind fun x22=>(some x22)) else (bif (x.1==(7:Int)) then ((cops_isIndex (x.2,(32:Int))).bind fun x23=>(some x23)) else (bif (x.1==(8:Int)) then ((cops_isIndex (x.2,(8:Int))).bind fun x24=>(some x24)) else (bif (x.1==(9:Int)) then ((cops_isIndex (x.2,(32:Int))).bind fun x25=>(some x25)) else (bif (x.1==(10:Int)) then ((cops_isIndex (x.2,(200:Int))).bind fun x26=>(some x26)) else (some (x.2==(0:Int)))))))))))))
def mops_fits (N:Nat) (x:Int×Int):Option (Bool):=nops_fits x
theorem jz30 (N:Nat) (x:Int×Int):rise (Ez30) Tz30 6 N Tryz.f162 [Z8,Z2] [.bool] [false] x=nops_fits x:=by kernel_rfl
theorem lz30 (N:Nat) (x:Int×Int):rise (Ez30) Tz30 6 N Tryz.f162 [Z8,Z2] [.bool] [false] x=mops_fits N x:=(jz30 N x).trans rfl
def cops_fits (x:Int×Int):Option (Bool):=mops_fits big x
def Gz30:Fn2:=⟨[Z8,Z2],[.bool],[false],fun x=>cops_fits x⟩
theorem Lz30:Rises Tryz.prog 162 Gz30:=rises_of (E:=Ez30) ⟨tabOk,(fsCons2 Lz29 fsNil2),fun _ _ _=>rfl,mixed,inlNil,rcsNil,owsNil⟩ Tryz.func162 rfl (by decide) (by kernel_rfl) (by kernel_rfl) (by kernel_rfl) (by kernel_rfl) (fun x r _ h=>⟨Tz30,6,big,(lz30 big x).trans h⟩)
def Tz31:LT:={ live:=[(5,[3,16,17])],keep:=[] }
noncomputable def Ez31:Env2:={ tab:=tab,fs:=[(143,Gz27),(161,Gz28),(162,Gz30)],inl:=[] }
noncomputable def ez31_0 (v:Y6×Int×Y6):St:={ s:=[(3,(.loc 0 [])),(16,(.val ⟨(.arr 3 Z8),v.1⟩)),(17,(.val ⟨Z2,v.2.1⟩))],l:=[(0,.var (.arr 3 Z2) (.val ⟨(.arr 3 Z2),v.2.2⟩))],k:=[],b:=4096 }
def hops_Check_0 (self0:Y6×Int×Y6→Option (Int)) (v:Y6×Int×Y6):Option (Int):=
 (bif (decide (v.2.1 < (3:Int))) then ((getI v.1 v.2.1).bind fun x4=>(bif (decide (0≤v.2.1)&&decide (v.2.1 < (3:Int))) then ((nth v.2.2 (Int.toNat v.2.1)).bind fun x5=>((cops_fits (x4,x5)).bind fun x6=>(bif (!x6) then (some (8:Int)) else (let x7:Int:=(IntKind.i64.wrap (v.2.1+(1:Int)));(self0 (v.1,x7,v.2.2)))))) else none)) else (some (0:Int)))
def gops_Check_0 (N:Nat) (self0:Y6×Int×Y6→Option (Int)) (v:Y6×Int×Y6):Option (Int):=hops_Check_0 self0 v
theorem kz31_0 (N:Nat) (s0:St→Option (Int)) (v):(floc (Ez31) Tz31 6 N Tryz.f145 [Z2] [false] [] 0 nowhereR) s0 (ez31_0 v)=hops_Check_0 (fun v=>s0 (ez31_0 v)) v:=by kernel_rfl
theorem bz31_0 (N:Nat) (s0:St→Option (Int)) (v):(floc (Ez31) Tz31 6 N Tryz.f145 [Z2] [false] [] 0 nowhereR) s0 (ez31_0 v)=gops_Check_0 N (fun v=>s0 (ez31_0 v)) v:=kz31_0 N s0 v
def nops_Check (loop0:Y6×Int×Y6→Option (Int)) (x:Y7):Option (Int):=
 ((cops_isOperation x.1).bind fun x1=>(bif (!x1) then (some (8:Int)) else ((cops_operands x).bind fun x2=>((getI gl0 x.1).bind fun x3=>(loop0 (x3.2.1,(0:Int),x2))))))
def mops_Check (N:Nat) (x:Y7):Option (Int):=nops_Check (iterV (gops_Check_0 N) N) x
theorem jz31 (N:Nat) (x:Y7):rise (Ez31) Tz31 6 N Tryz.f145 [Z5] [Z2] [false] x=nops_Check (fun v=>iterR (floc (Ez31) Tz31 6 N Tryz.f145 [Z2] [false] [] 0 nowhereR) N (ez31_0 v)) x:=by kernel_rfl
theorem lz31 (N:Nat) (x:Y7):rise (Ez31) Tz31 6 N Tryz.f145 [Z5] [Z2] [false] x=mops_Check N x:=(jz31 N x).trans (by rw [funext (iterR_eq ez31_0 (bz31_0 N) N)];rfl)
def cops_Check (x:Y7):Option (Int):=mops_Check big x
def Gz31:Fn2:=⟨[Z5],[Z2],[false],fun x=>cops_Check x⟩
theorem Lz31:Rises Tryz.prog 145 Gz31:=rises_of (E:=Ez31) ⟨tabOk,(fsCons2 Lz27 (fsCons2 Lz28 (fsCons2 Lz30 fsNil2))),fun _ _ _=>rfl,mixed,inlNil,rcsNil,owsNil⟩ Tryz.func145 rfl (by decide) (by kernel_rfl) (by kernel_rfl) (by kernel_rfl) (by kernel_rfl) (fun x r _ h=>⟨Tz31,6,big,(lz31 big x).trans h⟩)
def Tz32:LT:={ live:=[(4,[13,14,15])],keep:=[] }
noncomputable def Ez32:Env2:={ tab:=tab,fs:=[(145,Gz31)],inl:=[] }
noncomputable def ez32_0 (v:Y16×Int×Int):St:={ s:=[(13,(.val ⟨(.slice Z5),v.1⟩)),(14,(.val ⟨Z2,v.2.1⟩)),(15,(.val ⟨Z2,v.2.2⟩))],l:=[],k:=[],b:=4096 }
def himage_isCode_0 (self0:Y16×Int×Int→Option (Bool)) (v:Y16×Int×Int):Option (Bool):=
 (bif (decide (v.2.2 < v.2.1)) then ((getI v.1 v.2.2).bind fun x1=>((cops_Check x1).bind fun x2=>(bif (x2 != (0:Int)) then (some false) else (let x3:Int:=(IntKind.i64.wrap (v.2.2+(1:Int)));(self0 (v.1,v.2.1,x3)))))) else (some true))
def gimage_isCode_0 (N:Nat) (self0:Y16×Int×Int→Option (Bool)) (v:Y16×Int×Int):Option (Bool):=himage_isCode_0 self0 v
theorem kz32_0 (N:Nat) (s0:St→Option (Bool)) (v):(floc (Ez32) Tz32 6 N Tryz.f125 [.bool] [false] [] 0 nowhereR) s0 (ez32_0 v)=himage_isCode_0 (fun v=>s0 (ez32_0 v)) v:=by kernel_rfl
theorem bz32_0 (N:Nat) (s0:St→Option (Bool)) (v):(floc (Ez32) Tz32 6 N Tryz.f125 [.bool] [false] [] 0 nowhereR) s0 (ez32_0 v)=gimage_isCode_0 N (fun v=>s0 (ez32_0 v)) v:=kz32_0 N s0 v
def nimage_isCode (loop0:Y16×Int×Int→Option (Bool)) (x:Y16):Option (Bool):=
 (bif (decide ((List.length x:Int) < (1:Int))) then (some false) else (bif (decide ((List.length x:Int) > (200:Int))) then (some false) else (loop0 (x,(List.length x:Int),(0:Int)))))
def mimage_isCode (N:Nat) (x:Y16):Option (Bool):=nimage_isCode (iterV (gimage_isCode_0 N) N) x
theorem jz32 (N:Nat) (x:Y16):rise (Ez32) Tz32 6 N Tryz.f125 [(.slice Z5)] [.bool] [false] x=nimage_isCode (fun v=>iterR (floc (Ez32) Tz32 6 N Tryz.f125 [.bool] [false] [] 0 nowhereR) N (ez32_0 v)) x:=by kernel_rfl
theorem lz32 (N:Nat) (x:Y16):rise (Ez32) Tz32 6 N Tryz.f125 [(.slice Z5)] [.bool] [false] x=mimage_isCode N x:=(jz32 N x).trans (by rw [funext (iterR_eq ez32_0 (bz32_0 N) N)];rfl)
def cimage_isCode (x:Y16):Option (Bool):=mimage_isCode big x
def Gz32:Fn2:=⟨[(.slice Z5)],[.bool],[false],fun x=>cimage_isCode x⟩
theorem Lz32:Rises Tryz.prog 125 Gz32:=rises_of (E:=Ez32) ⟨tabOk,(fsCons2 Lz31 fsNil2),fun _ _ _=>rfl,mixed,inlNil,rcsNil,owsNil⟩ Tryz.func125 rfl (by decide) (by kernel_rfl) (by kernel_rfl) (by kernel_rfl) (by kernel_rfl) (fun x r _ h=>⟨Tz32,6,big,(lz32 big x).trans h⟩)
def Tz33:LT:={ live:=[],keep:=[] }
noncomputable def Ez33:Env2:={ tab:=tab,fs:=[],inl:=[] }
def ntables_isCount (x:Int):Option (Bool):=
 (bif (decide (x≥(1:Int))) then (some (decide (x≤(200:Int)))) else (some false))
def mtables_isCount (N:Nat) (x:Int):Option (Bool):=ntables_isCount x
theorem jz33 (N:Nat) (x:Int):rise (Ez33) Tz33 6 N Tryz.f147 [Z2] [.bool] [false] x=ntables_isCount x:=by kernel_rfl
theorem lz33 (N:Nat) (x:Int):rise (Ez33) Tz33 6 N Tryz.f147 [Z2] [.bool] [false] x=mtables_isCount N x:=(jz33 N x).trans rfl
def ctables_isCount (x:Int):Option (Bool):=mtables_isCount big x
def Gz33:Fn2:=⟨[Z2],[.bool],[false],fun x=>ctables_isCount x⟩
theorem Lz33:Rises Tryz.prog 147 Gz33:=rises_of (E:=Ez33) ⟨tabOk,fsNil2,fun _ _ _=>rfl,mixed,inlNil,rcsNil,owsNil⟩ Tryz.func147 rfl (by decide) (by kernel_rfl) (by kernel_rfl) (by kernel_rfl) (by kernel_rfl) (fun x r _ h=>⟨Tz33,6,big,(lz33 big x).trans h⟩)
def Tz34:LT:={ live:=[],keep:=[] }
noncomputable def Ez34:Env2:={ tab:=tab,fs:=[],inl:=[] }
def ntables_sameValue (x:Y4×Y4):Option (Bool):=
 (some (eqD Z6 (x.2.1,x.1.2) x.2))
def mtables_sameValue (N:Nat) (x:Y4×Y4):Option (Bool):=ntables_sameValue x
theorem jz34 (N:Nat) (x:Y4×Y4):rise (Ez34) Tz34 6 N Tryz.f154 [Z6,Z6] [.bool] [false] x=ntables_sameValue x:=by kernel_rfl
theorem lz34 (N:Nat) (x:Y4×Y4):rise (Ez34) Tz34 6 N Tryz.f154 [Z6,Z6] [.bool] [false] x=mtables_sameValue N x:=(jz34 N x).trans rfl
def ctables_sameValue (x:Y4×Y4):Option (Bool):=mtables_sameValue big x
def Gz34:Fn2:=⟨[Z6,Z6],[.bool],[false],fun x=>ctables_sameValue x⟩
theorem Lz34:Rises Tryz.prog 154 Gz34:=rises_of (E:=Ez34) ⟨tabOk,fsNil2,fun _ _ _=>rfl,mixed,inlNil,rcsNil,owsNil⟩ Tryz.func154 rfl (by decide) (by kernel_rfl) (by kernel_rfl) (by kernel_rfl) (by kernel_rfl) (fun x r _ h=>⟨Tz34,6,big,(lz34 big x).trans h⟩)
def Tz35:LT:={ live:=[(6,[0,32,33])],keep:=[] }
noncomputable def Ez35:Env2:={ tab:=tab,fs:=[(147,Gz33),(154,Gz34)],inl:=[] }
noncomputable def ez35_0 (v:Y10×Int×Int):St:={ s:=[(0,(.val ⟨(.slice Z6),v.1⟩)),(32,(.val ⟨Z2,v.2.1⟩)),(33,(.val ⟨Z2,v.2.2⟩))],l:=[],k:=[],b:=4096 }
def htables_Check_0 (self0:Y10×Int×Int→Option (Int)) (v:Y10×Int×Int):Option (Int):=
 (bif (decide (v.2.2 < v.2.1)) then ((getI v.1 v.2.2).bind fun x6=>(let x7:Int:=(IntKind.i64.wrap (v.2.2+(1:Int)));((getI v.1 x7).bind fun x8=>(bif (decide (x6.1≥x8.1)) then (some (8:Int)) else ((getI v.1 v.2.2).bind fun x9=>(let x10:Int:=(IntKind.i64.wrap (v.2.2+(1:Int)));((getI v.1 x10).bind fun x11=>((ctables_sameValue (x9,x11)).bind fun x12=>(bif x12 then (some (8:Int)) else (let x13:Int:=(IntKind.i64.wrap (v.2.2+(1:Int)));(self0 (v.1,v.2.1,x13)))))))))))) else (some (0:Int)))
def gtables_Check_0 (N:Nat) (self0:Y10×Int×Int→Option (Int)) (v:Y10×Int×Int):Option (Int):=htables_Check_0 self0 v
theorem kz35_0 (N:Nat) (s0:St→Option (Int)) (v):(floc (Ez35) Tz35 6 N Tryz.f126 [Z2] [false] [] 0 nowhereR) s0 (ez35_0 v)=htables_Check_0 (fun v=>s0 (ez35_0 v)) v:=by kernel_rfl
theorem bz35_0 (N:Nat) (s0:St→Option (Int)) (v):(floc (Ez35) Tz35 6 N Tryz.f126 [Z2] [false] [] 0 nowhereR) s0 (ez35_0 v)=gtables_Check_0 N (fun v=>s0 (ez35_0 v)) v:=kz35_0 N s0 v
def ntables_Check (loop0:Y10×Int×Int→Option (Int)) (x:Y10×Int):Option (Int):=
 ((ctables_isCount x.2).bind fun x1=>(bif (!x1) then (some (2:Int)) else (bif ((List.length x.1:Int)==(0:Int)) then (some (8:Int)) else ((getI x.1 (0:Int)).bind fun x2=>(bif (x2.1 != (0:Int)) then (some (8:Int)) else (let x3:Int:=(IntKind.i64.wrap ((List.length x.1:Int) - (1:Int)));((getI x.1 x3).bind fun x4=>(bif (decide (x4.1≥x.2)) then (some (8:Int)) else (let x5:Int:=(IntKind.i64.wrap ((List.length x.1:Int) - (1:Int)));(loop0 (x.1,x5,(0:Int))))))))))))
def mtables_Check (N:Nat) (x:Y10×Int):Option (Int):=ntables_Check (iterV (gtables_Check_0 N) N) x
theorem jz35 (N:Nat) (x:Y10×Int):rise (Ez35) Tz35 6 N Tryz.f126 [(.slice Z6),Z2] [Z2] [false] x=ntables_Check (fun v=>iterR (floc (Ez35) Tz35 6 N Tryz.f126 [Z2] [false] [] 0 nowhereR) N (ez35_0 v)) x:=by kernel_rfl
theorem lz35 (N:Nat) (x:Y10×Int):rise (Ez35) Tz35 6 N Tryz.f126 [(.slice Z6),Z2] [Z2] [false] x=mtables_Check N x:=(jz35 N x).trans (by rw [funext (iterR_eq ez35_0 (bz35_0 N) N)];rfl)
def ctables_Check (x:Y10×Int):Option (Int):=mtables_Check big x
def Gz35:Fn2:=⟨[(.slice Z6),Z2],[Z2],[false],fun x=>ctables_Check x⟩
theorem Lz35:Rises Tryz.prog 126 Gz35:=rises_of (E:=Ez35) ⟨tabOk,(fsCons2 Lz33 (fsCons2 Lz34 fsNil2)),fun _ _ _=>rfl,mixed,inlNil,rcsNil,owsNil⟩ Tryz.func126 rfl (by decide) (by kernel_rfl) (by kernel_rfl) (by kernel_rfl) (by kernel_rfl) (fun x r _ h=>⟨Tz35,6,big,(lz35 big x).trans h⟩)
def Tz36:LT:={ live:=[],keep:=[] }
noncomputable def Ez36:Env2:={ tab:=tab,fs:=[(27,Gz23),(124,Gz26),(125,Gz32),(126,Gz35)],inl:=[] }
def nimage_isFunc (x:Y0×Int):Option (Bool):=
 ((cimage_areSlots (x.1.2.2.2.1,x.2)).bind fun x1=>(bif (!x1) then (some false) else (bif (decide (x.1.2.1 < (0:Int))) then (some false) else (bif (decide (x.1.2.1 > (List.length x.1.2.2.2.1:Int))) then (some false) else (bif (x.1.2.2.1 != (-1:Int)) then ((cimage_isIndex (x.1.2.2.1,x.2)).bind fun x2=>(bif (!x2) then (some false) else ((cimage_isCode x.1.2.2.2.2.1).bind fun x3=>(bif x3 then ((ctables_Check (x.1.2.2.2.2.2.1,(List.length x.1.2.2.2.2.1:Int))).bind fun x4=>(bif (x4==(0:Int)) then ((ctables_Check (x.1.2.2.2.2.2.2.1,(List.length x.1.2.2.2.2.1:Int))).bind fun x5=>(some (x5==(0:Int)))) else (some false))) else (some false))))) else ((cimage_isCode x.1.2.2.2.2.1).bind fun x6=>(bif x6 then ((ctables_Check (x.1.2.2.2.2.2.1,(List.length x.1.2.2.2.2.1:Int))).bind fun x7=>(bif (x7==(0:Int)) then ((ctables_Check (x.1.2.2.2.2.2.2.1,(List.length x.1.2.2.2.2.1:Int))).bind fun x8=>(some (x8==(0:Int)))) else (some false))) else (some false))))))))
def mimage_isFunc (N:Nat) (x:Y0×Int):Option (Bool):=nimage_isFunc x
theorem jz36 (N:Nat) (x:Y0×Int):rise (Ez36) Tz36 6 N Tryz.f89 [Z0,Z2] [.bool] [false] x=nimage_isFunc x:=by kernel_rfl
theorem lz36 (N:Nat) (x:Y0×Int):rise (Ez36) Tz36 6 N Tryz.f89 [Z0,Z2] [.bool] [false] x=mimage_isFunc N x:=(jz36 N x).trans rfl
def cimage_isFunc (x:Y0×Int):Option (Bool):=mimage_isFunc big x
def Gz36:Fn2:=⟨[Z0,Z2],[.bool],[false],fun x=>cimage_isFunc x⟩
theorem Lz36:Rises Tryz.prog 89 Gz36:=rises_of (E:=Ez36) ⟨tabOk,(fsCons2 Lz23 (fsCons2 Lz26 (fsCons2 Lz32 (fsCons2 Lz35 fsNil2)))),fun _ _ _=>rfl,mixed,inlNil,rcsNil,owsNil⟩ Tryz.func89 rfl (by decide) (by kernel_rfl) (by kernel_rfl) (by kernel_rfl) (by kernel_rfl) (fun x r _ h=>⟨Tz36,6,big,(lz36 big x).trans h⟩)
def Tz37:LT:={ live:=[(3,[1,5,10,11,12])],keep:=[] }
def Tz38:LT:={ live:=[],keep:=[] }
noncomputable def Ez38:Env2:={ tab:=tab,fs:=[],inl:=[] }
def nimage_areFuncs_1 (x:Y0):Option (Y6):=
 (some x.1)
def mimage_areFuncs_1 (N:Nat) (x:Y0):Option (Y6):=nimage_areFuncs_1 x
theorem jz38 (N:Nat) (x:Y0):rise (Ez38) Tz38 6 N Tryz.f91 [Z0] [.str] [false] x=nimage_areFuncs_1 x:=by kernel_rfl
theorem lz38 (N:Nat) (x:Y0):rise (Ez38) Tz38 6 N Tryz.f91 [Z0] [.str] [false] x=mimage_areFuncs_1 N x:=(jz38 N x).trans rfl
def cimage_areFuncs_1 (x:Y0):Option (Y6):=mimage_areFuncs_1 big x
def Gz38:Fn2:=⟨[Z0],[.str],[false],fun x=>cimage_areFuncs_1 x⟩
theorem Lz38:Rises Tryz.prog 91 Gz38:=rises_of (E:=Ez38) ⟨tabOk,fsNil2,fun _ _ _=>rfl,mixed,inlNil,rcsNil,owsNil⟩ Tryz.func91 rfl (by decide) (by kernel_rfl) (by kernel_rfl) (by kernel_rfl) (by kernel_rfl) (fun x r _ h=>⟨Tz38,6,big,(lz38 big x).trans h⟩)
def Tz39:LT:={ live:=[(4,[0,1,15,16,17])],keep:=[(27,[])] }
noncomputable def Ez39:Env2:={ tab:=tab,fs:=[(89,Gz36),(91,Gz38),(127,Gz6)],inl:=[(90,Tryz.f90,Tz37)] }
noncomputable def ez38 (v:Y14×Int×Int×(List (Y6×Bool))):St:={ s:=[(1,(.clo 91 .unit)),(5,(.mp 0)),(10,(.val ⟨(.slice Z0),v.1⟩)),(11,(.val ⟨Z2,v.2.1⟩)),(12,(.val ⟨Z2,v.2.2.1⟩))],l:=[(0,.mp .str .bool v.2.2.2)],k:=[(4096,[])],b:=16891904 }
noncomputable def ez39_0 (v:Y14×Int×Y14×Int×Int):St:={ s:=[(0,(.val ⟨(.slice Z0),v.1⟩)),(1,(.val ⟨Z2,v.2.1⟩)),(15,(.val ⟨(.slice Z0),v.2.2.1⟩)),(16,(.val ⟨Z2,v.2.2.2.1⟩)),(17,(.val ⟨Z2,v.2.2.2.2⟩))],l:=[],k:=[],b:=4096 }
def himage_areFuncs_1 (self0:Y14×Int×Y14×Int×Int→Option (Bool)) (self1:Y14×Int×Int×(List (Y6×Bool))→Option (Bool)) (v:Y14×Int×Int×(List (Y6×Bool))):Option (Bool):=
 (bif (decide (v.2.2.1 < v.2.1)) then ((getI v.1 v.2.2.1).bind fun x4=>((cimage_areFuncs_1 x4).bind fun x5=>((ckinds_Named x5).bind fun x6=>(bif (!x6) then (some false) else (bif (@atK .str .bool x5 false v.2.2.2).1 then (some false) else (let x7:(List (Y6×Bool)):=(@putK .str .bool x5 true v.2.2.2);(let x8:Int:=(IntKind.i64.wrap (v.2.2.1+(1:Int)));(self1 (v.1,v.2.1,x8,x7))))))))) else (some true))
def gimage_areFuncs_1 (N:Nat) (self0:Y14×Int×Y14×Int×Int→Option (Bool)) (self1:Y14×Int×Int×(List (Y6×Bool))→Option (Bool)) (v:Y14×Int×Int×(List (Y6×Bool))):Option (Bool):=himage_areFuncs_1 self0 self1 v
theorem kz38 (N:Nat) (s0:St→Option (Bool)) (s1:St→Option (Bool)) (v):(floc (Ez39) Tz39 6 N Tryz.f51 [.bool] [false] [.call 9 1 90] 0 nowhereR) s1 (ez38 v)=himage_areFuncs_1 (fun v=>s0 (ez39_0 v)) (fun v=>s1 (ez38 v)) v:=by kernel_rfl
theorem bz38 (N:Nat) (s0:St→Option (Bool)) (s1:St→Option (Bool)) (v):(floc (Ez39) Tz39 6 N Tryz.f51 [.bool] [false] [.call 9 1 90] 0 nowhereR) s1 (ez38 v)=gimage_areFuncs_1 N (fun v=>s0 (ez39_0 v)) (fun v=>s1 (ez38 v)) v:=kz38 N s0 s1 v
def himage_areFuncs_0 (loop1:Y14×Int×Int×(List (Y6×Bool))→Option (Bool)) (self0:Y14×Int×Y14×Int×Int→Option (Bool)) (v:Y14×Int×Y14×Int×Int):Option (Bool):=
 (bif (decide (v.2.2.2.2 < v.2.2.2.1)) then ((getI v.2.2.1 v.2.2.2.2).bind fun x1=>((cimage_isFunc (x1,v.2.1)).bind fun x2=>(bif (!x2) then (some false) else (let x3:Int:=(IntKind.i64.wrap (v.2.2.2.2+(1:Int)));(self0 (v.1,v.2.1,v.2.2.1,v.2.2.2.1,x3)))))) else (loop1 (v.1,(List.length v.1:Int),(0:Int),([]:List (Y6×Bool)))))
def gimage_areFuncs_0 (N:Nat) (self0:Y14×Int×Y14×Int×Int→Option (Bool)) (v:Y14×Int×Y14×Int×Int):Option (Bool):=himage_areFuncs_0 (iterV (gimage_areFuncs_1 N self0) N) self0 v
theorem kz39_0 (N:Nat) (s0:St→Option (Bool)) (v):(floc (Ez39) Tz39 6 N Tryz.f51 [.bool] [false] [] 0 nowhereR) s0 (ez39_0 v)=himage_areFuncs_0 (fun v=>iterR (floc (Ez39) Tz39 6 N Tryz.f51 [.bool] [false] [.call 9 1 90] 0 nowhereR) N (ez38 v)) (fun v=>s0 (ez39_0 v)) v:=by kernel_rfl
theorem bz39_0 (N:Nat) (s0:St→Option (Bool)) (v):(floc (Ez39) Tz39 6 N Tryz.f51 [.bool] [false] [] 0 nowhereR) s0 (ez39_0 v)=gimage_areFuncs_0 N (fun v=>s0 (ez39_0 v)) v:=(kz39_0 N s0 v).trans (by rw [funext (iterR_eq ez38 (bz38 N s0) N)];rfl)
def nimage_areFuncs (loop0:Y14×Int×Y14×Int×Int→Option (Bool)) (x:Y14×Int):Option (Bool):=
 (bif (decide ((List.length x.1:Int) < (1:Int))) then (some false) else (bif (decide ((List.length x.1:Int) > (32:Int))) then (some false) else (loop0 (x.1,x.2,x.1,(List.length x.1:Int),(0:Int)))))
def mimage_areFuncs (N:Nat) (x:Y14×Int):Option (Bool):=nimage_areFuncs (iterV (gimage_areFuncs_0 N) N) x
theorem jz39 (N:Nat) (x:Y14×Int):rise (Ez39) Tz39 6 N Tryz.f51 [(.slice Z0),Z2] [.bool] [false] x=nimage_areFuncs (fun v=>iterR (floc (Ez39) Tz39 6 N Tryz.f51 [.bool] [false] [] 0 nowhereR) N (ez39_0 v)) x:=by kernel_rfl
theorem lz39 (N:Nat) (x:Y14×Int):rise (Ez39) Tz39 6 N Tryz.f51 [(.slice Z0),Z2] [.bool] [false] x=mimage_areFuncs N x:=(jz39 N x).trans (by rw [funext (iterR_eq ez39_0 (bz39_0 N) N)];rfl)
def cimage_areFuncs (x:Y14×Int):Option (Bool):=mimage_areFuncs big x
def Gz39:Fn2:=⟨[(.slice Z0),Z2],[.bool],[false],fun x=>cimage_areFuncs x⟩
theorem Lz39:Rises Tryz.prog 51 Gz39:=rises_of (E:=Ez39) ⟨tabOk,(fsCons2 Lz36 (fsCons2 Lz38 (fsCons2 Lz6 fsNil2))),fun _ _ _=>rfl,mixed,(inlCons (inlB_of Tryz.func90 rfl rfl (by kernel_rfl)) inlNil),rcsNil,owsNil⟩ Tryz.func51 rfl (by decide) (by kernel_rfl) (by kernel_rfl) (by kernel_rfl) (by kernel_rfl) (fun x r _ h=>⟨Tz39,6,big,(lz39 big x).trans h⟩)
def Tz40:LT:={ live:=[],keep:=[] }
noncomputable def Ez40:Env2:={ tab:=tab,fs:=[(49,Gz21),(50,Gz22),(51,Gz39)],inl:=[] }
def nimage_isValid (x:Y3):Option (Bool):=
 ((cimage_areTypes x.1).bind fun x1=>(bif x1 then ((cimage_areTexts x.2.1).bind fun x2=>(bif x2 then ((cimage_areFuncs (x.2.2.1,(List.length x.1:Int))).bind fun x3=>(some x3)) else (some false))) else (some false)))
def mimage_isValid (N:Nat) (x:Y3):Option (Bool):=nimage_isValid x
theorem jz40 (N:Nat) (x:Y3):rise (Ez40) Tz40 6 N Tryz.f29 [Z4] [.bool] [false] x=nimage_isValid x:=by kernel_rfl
theorem lz40 (N:Nat) (x:Y3):rise (Ez40) Tz40 6 N Tryz.f29 [Z4] [.bool] [false] x=mimage_isValid N x:=(jz40 N x).trans rfl
def cimage_isValid (x:Y3):Option (Bool):=mimage_isValid big x
def Gz40:Fn2:=⟨[Z4],[.bool],[false],fun x=>cimage_isValid x⟩
theorem Lz40:Rises Tryz.prog 29 Gz40:=rises_of (E:=Ez40) ⟨tabOk,(fsCons2 Lz21 (fsCons2 Lz22 (fsCons2 Lz39 fsNil2))),fun _ _ _=>rfl,mixed,inlNil,rcsNil,owsNil⟩ Tryz.func29 rfl (by decide) (by kernel_rfl) (by kernel_rfl) (by kernel_rfl) (by kernel_rfl) (fun x r _ h=>⟨Tz40,6,big,(lz40 big x).trans h⟩)
def Tz41:LT:={ live:=[(3,[0,3,9,10,11]),(9,[6,22,23,24])],keep:=[] }
noncomputable def Ez41 (mk:(α:Type)→Nat→α→List α):Env2:={ tab:=tab,fs:=[],inl:=[],rep:=mk }
noncomputable def ez41_1 (v:Y13×Int×Int×Y6):St:={ s:=[(6,(.row 0)),(22,(.val ⟨(.slice Z11),v.1⟩)),(23,(.val ⟨Z2,v.2.1⟩)),(24,(.val ⟨Z2,v.2.2.1⟩))],l:=[(0,.row Z8 v.2.2.2)],k:=[],b:=4096 }
noncomputable def ez41_0 (v:Y13×Int×Y13×Int×Int):St:={ s:=[(0,(.val ⟨(.slice Z11),v.1⟩)),(3,(.val ⟨Z2,v.2.1⟩)),(9,(.val ⟨(.slice Z11),v.2.2.1⟩)),(10,(.val ⟨Z2,v.2.2.2.1⟩)),(11,(.val ⟨Z2,v.2.2.2.2⟩))],l:=[],k:=[],b:=4096 }
def hwire_joined_1 (mk:(α:Type)→Nat→α→List α) (self0:Y13×Int×Y13×Int×Int→Option (Y6)) (self1:Y13×Int×Int×Y6→Option (Y6)) (v:Y13×Int×Int×Y6):Option (Y6):=
 (bif (decide (v.2.2.1 < v.2.1)) then ((getI v.1 v.2.2.1).bind fun x5=>(bif (Nat.ble 1 1&&Nat.ble (List.length v.2.2.2+List.length x5) lim) then (let x6:Int:=(IntKind.i64.wrap (v.2.2.1+(1:Int)));(self1 (v.1,v.2.1,x6,(List.append v.2.2.2 x5)))) else none)) else (some v.2.2.2))
def gwire_joined_1 (mk:(α:Type)→Nat→α→List α) (N:Nat) (self0:Y13×Int×Y13×Int×Int→Option (Y6)) (self1:Y13×Int×Int×Y6→Option (Y6)) (v:Y13×Int×Int×Y6):Option (Y6):=hwire_joined_1 mk self0 self1 v
theorem kz41_1 (mk:(α:Type)→Nat→α→List α) (N:Nat) (s0:St→Option (Y6)) (s1:St→Option (Y6)) (v):(floc (Ez41 mk) Tz41 6 N Tryz.f129 [Z11] [true] [] 1 nowhereR) s1 (ez41_1 v)=hwire_joined_1 mk (fun v=>s0 (ez41_0 v)) (fun v=>s1 (ez41_1 v)) v:=by kernel_rfl
theorem bz41_1 (mk:(α:Type)→Nat→α→List α) (N:Nat) (s0:St→Option (Y6)) (s1:St→Option (Y6)) (v):(floc (Ez41 mk) Tz41 6 N Tryz.f129 [Z11] [true] [] 1 nowhereR) s1 (ez41_1 v)=gwire_joined_1 mk N (fun v=>s0 (ez41_0 v)) (fun v=>s1 (ez41_1 v)) v:=kz41_1 mk N s0 s1 v
def hwire_joined_0 (mk:(α:Type)→Nat→α→List α) (loop1:Y13×Int×Int×Y6→Option (Y6)) (self0:Y13×Int×Y13×Int×Int→Option (Y6)) (v:Y13×Int×Y13×Int×Int):Option (Y6):=
 (bif (decide (v.2.2.2.2 < v.2.2.2.1)) then ((getI v.2.2.1 v.2.2.2.2).bind fun x1=>(let x2:Int:=(IntKind.i64.wrap (v.2.1+(List.length x1:Int)));(let x3:Int:=(IntKind.i64.wrap (v.2.2.2.2+(1:Int)));(self0 (v.1,x2,v.2.2.1,v.2.2.2.1,x3))))) else (bif (decide (0≤(0:Int))&&(decide ((0:Int)≤v.2.1)&&(decide (v.2.1≤68719476736)&&true))) then (let x4:Y6:=(mk Int (Int.toNat (0:Int)) (0:Int));(loop1 (v.1,(List.length v.1:Int),(0:Int),x4))) else none))
def gwire_joined_0 (mk:(α:Type)→Nat→α→List α) (N:Nat) (self0:Y13×Int×Y13×Int×Int→Option (Y6)) (v:Y13×Int×Y13×Int×Int):Option (Y6):=hwire_joined_0 mk (iterV (gwire_joined_1 mk N self0) N) self0 v
theorem kz41_0 (mk:(α:Type)→Nat→α→List α) (N:Nat) (s0:St→Option (Y6)) (v):(floc (Ez41 mk) Tz41 6 N Tryz.f129 [Z11] [true] [] 0 nowhereR) s0 (ez41_0 v)=hwire_joined_0 mk (fun v=>iterR (floc (Ez41 mk) Tz41 6 N Tryz.f129 [Z11] [true] [] 1 nowhereR) N (ez41_1 v)) (fun v=>s0 (ez41_0 v)) v:=by kernel_rfl
theorem bz41_0 (mk:(α:Type)→Nat→α→List α) (N:Nat) (s0:St→Option (Y6)) (v):(floc (Ez41 mk) Tz41 6 N Tryz.f129 [Z11] [true] [] 0 nowhereR) s0 (ez41_0 v)=gwire_joined_0 mk N (fun v=>s0 (ez41_0 v)) v:=(kz41_0 mk N s0 v).trans (by rw [funext (iterR_eq ez41_1 (bz41_1 mk N s0) N)];rfl)
def nwire_joined (mk:(α:Type)→Nat→α→List α) (loop0:Y13×Int×Y13×Int×Int→Option (Y6)) (x:Y13):Option (Y6):=
 (loop0 (x,(0:Int),x,(List.length x:Int),(0:Int)))
def mwire_joined (mk:(α:Type)→Nat→α→List α) (N:Nat) (x:Y13):Option (Y6):=nwire_joined mk (iterV (gwire_joined_0 mk N) N) x
theorem jz41 (mk:(α:Type)→Nat→α→List α) (N:Nat) (x:Y13):rise (Ez41 mk) Tz41 6 N Tryz.f129 [(.slice Z11)] [Z11] [true] x=nwire_joined mk (fun v=>iterR (floc (Ez41 mk) Tz41 6 N Tryz.f129 [Z11] [true] [] 0 nowhereR) N (ez41_0 v)) x:=by kernel_rfl
theorem lz41 (mk:(α:Type)→Nat→α→List α) (N:Nat) (x:Y13):rise (Ez41 mk) Tz41 6 N Tryz.f129 [(.slice Z11)] [Z11] [true] x=mwire_joined mk N x:=(jz41 mk N x).trans (by rw [funext (iterR_eq ez41_0 (bz41_0 mk N) N)];rfl)
def cwire_joined (x:Y13):Option (Y6):=mwire_joined (fun _=>List.replicate) big x
def Gz41:Fn2:=⟨[(.slice Z11)],[Z11],[true],fun x=>cwire_joined x⟩
theorem Lz41:Rises Tryz.prog 129 Gz41:=rises_of (E:=Ez41 (fun _=>List.replicate)) ⟨tabOk,fsNil2,fun _ _ _=>rfl,mixed,inlNil,rcsNil,owsNil⟩ Tryz.func129 rfl (by decide) (by kernel_rfl) (by kernel_rfl) (by kernel_rfl) (by kernel_rfl) (fun x r _ h=>⟨Tz41,6,big,(lz41 (fun _=>List.replicate) big x).trans h⟩)
def Tz42:LT:={ live:=[(3,[0,3,4])],keep:=[] }
noncomputable def Ez42:Env2:={ tab:=tab,fs:=[(129,Gz41)],inl:=[] }
noncomputable def ez42_0 (v:Int×Int×Y6):St:={ s:=[(0,(.val ⟨(.int .u64),v.1⟩)),(3,(.loc 0 [])),(4,(.val ⟨Z2,v.2.1⟩))],l:=[(0,.var (.arr 10 Z8) (.val ⟨(.arr 10 Z8),v.2.2⟩))],k:=[],b:=4096 }
def hwire_Vary_0 (self0:Int×Int×Y6→Option (Y6)) (v:Int×Int×Y6):Option (Y6):=
 (bif (decide (v.1≥(128:Int))) then (let x1:Int:=(bits .or .u8 (IntKind.u8.wrap v.1) (128:Int));(bif (decide (0≤v.2.1)&&decide (v.2.1 < (10:Int))) then (let x2:Y6:=(List.set v.2.2 (Int.toNat v.2.1) x1);(let x3:Int:=(IntKind.i64.wrap (v.2.1+(1:Int)));(self0 ((v.1.fdiv (2 ^ 7)),x3,x2)))) else none)) else (bif (decide (0≤v.2.1)&&decide (v.2.1 < (10:Int))) then (let x4:Y6:=(List.set v.2.2 (Int.toNat v.2.1) (IntKind.u8.wrap v.1));(let x5:Int:=(IntKind.i64.wrap (v.2.1+(1:Int)));(bif (decide (0≤x5)&&decide (x5≤(List.length x4:Int))) then (let x6:Y6:=(List.take (Int.toNat x5) x4);(let x7:Y13:=([x6]:Y13);((cwire_joined x7).bind fun x8=>(some x8)))) else none))) else none))
def gwire_Vary_0 (N:Nat) (self0:Int×Int×Y6→Option (Y6)) (v:Int×Int×Y6):Option (Y6):=hwire_Vary_0 self0 v
theorem kz42_0 (N:Nat) (s0:St→Option (Y6)) (v):(floc (Ez42) Tz42 6 N Tryz.f128 [Z11] [true] [] 0 nowhereR) s0 (ez42_0 v)=hwire_Vary_0 (fun v=>s0 (ez42_0 v)) v:=by kernel_rfl
theorem bz42_0 (N:Nat) (s0:St→Option (Y6)) (v):(floc (Ez42) Tz42 6 N Tryz.f128 [Z11] [true] [] 0 nowhereR) s0 (ez42_0 v)=gwire_Vary_0 N (fun v=>s0 (ez42_0 v)) v:=kz42_0 N s0 v
def nwire_Vary (loop0:Int×Int×Y6→Option (Y6)) (x:Int):Option (Y6):=
 (loop0 (x,(0:Int),(List.replicate 10 (0:Int))))
def mwire_Vary (N:Nat) (x:Int):Option (Y6):=nwire_Vary (iterV (gwire_Vary_0 N) N) x
theorem jz42 (N:Nat) (x:Int):rise (Ez42) Tz42 6 N Tryz.f128 [(.int .u64)] [Z11] [true] x=nwire_Vary (fun v=>iterR (floc (Ez42) Tz42 6 N Tryz.f128 [Z11] [true] [] 0 nowhereR) N (ez42_0 v)) x:=by kernel_rfl
theorem lz42 (N:Nat) (x:Int):rise (Ez42) Tz42 6 N Tryz.f128 [(.int .u64)] [Z11] [true] x=mwire_Vary N x:=(jz42 N x).trans (by rw [funext (iterR_eq ez42_0 (bz42_0 N) N)];rfl)
def cwire_Vary (x:Int):Option (Y6):=mwire_Vary big x
def Gz42:Fn2:=⟨[(.int .u64)],[Z11],[true],fun x=>cwire_Vary x⟩
theorem Lz42:Rises Tryz.prog 128 Gz42:=rises_of (E:=Ez42) ⟨tabOk,(fsCons2 Lz41 fsNil2),fun _ _ _=>rfl,mixed,inlNil,rcsNil,owsNil⟩ Tryz.func128 rfl (by decide) (by kernel_rfl) (by kernel_rfl) (by kernel_rfl) (by kernel_rfl) (fun x r _ h=>⟨Tz42,6,big,(lz42 big x).trans h⟩)
def Tz43:LT:={ live:=[],keep:=[] }
noncomputable def Ez43:Env2:={ tab:=tab,fs:=[(128,Gz42)],inl:=[] }
def nimage_appendNumber (x:Y6) (y:(Int×Unit)):Option (Y6):=
 ((cwire_Vary (IntKind.u64.wrap y.1)).bind fun x1=>(bif (Nat.ble 1 1&&Nat.ble (List.length x+List.length x1) lim) then (some (List.append x x1)) else none))
def mimage_appendNumber (N:Nat) (x:Y6) (y:(Int×Unit)):Option (Y6):=nimage_appendNumber x y
theorem jz43 (N:Nat) (x:Y6) (y:(Int×Unit)):riseO (Ez43) Tz43 6 N Tryz.f92 Z8 [.hole Z2] x y=nimage_appendNumber x y:=by kernel_rfl
theorem lz43 (N:Nat) (x:Y6) (y:(Int×Unit)):riseO (Ez43) Tz43 6 N Tryz.f92 Z8 [.hole Z2] x y=mimage_appendNumber N x y:=(jz43 N x y).trans rfl
def cimage_appendNumber (x:Y6) (y:(Int×Unit)):Option (Y6):=mimage_appendNumber big x y
@[reducible] def Oz43:OwnC:=⟨Z8,[.hole Z2],fun x y=>cimage_appendNumber x y⟩
theorem Lz43:OwnOk Tryz.prog 92 Oz43:=own_of (c:=Oz43) (E:=Ez43) ⟨tabOk,(fsCons2 Lz42 fsNil2),fun _ _ _=>rfl,mixed,inlNil,rcsNil,owsNil⟩ Tryz.func92 rfl (by decide) (by kernel_rfl) (by kernel_rfl) (fun x y z h=>⟨Tz43,6,big,(lz43 big x y).trans h⟩)
def Tz44:LT:={ live:=[(3,[0,2,13,14,15])],keep:=[] }
def Tz45:LT:={ live:=[(3,[0,2,13,14,15])],keep:=[] }
def Tz46:LT:={ live:=[],keep:=[] }
noncomputable def Ez46:Env2:={ tab:=tab,fs:=[(128,Gz42),(129,Gz41)],inl:=[] }
def nwire_Text (x:Y6):Option (Y6×Int):=
 (bif (decide ((List.length x:Int) > (200000:Int))) then (some (([]:List Int),(4:Int))) else (let x1:Int:=(IntKind.u64.wrap (List.length x:Int));((cwire_Vary x1).bind fun x2=>(let x3:Y13:=([x2,x]:Y13);((cwire_joined x3).bind fun x4=>(some (x4,(0:Int))))))))
def mwire_Text (N:Nat) (x:Y6):Option (Y6×Int):=nwire_Text x
theorem jz46 (N:Nat) (x:Y6):rise (Ez46) Tz46 6 N Tryz.f95 [.str] [Z11,Z2] [true,false] x=nwire_Text x:=by kernel_rfl
theorem lz46 (N:Nat) (x:Y6):rise (Ez46) Tz46 6 N Tryz.f95 [.str] [Z11,Z2] [true,false] x=mwire_Text N x:=(jz46 N x).trans rfl
def cwire_Text (x:Y6):Option (Y6×Int):=mwire_Text big x
def Gz46:Fn2:=⟨[.str],[Z11,Z2],[true,false],fun x=>cwire_Text x⟩
theorem Lz46:Rises Tryz.prog 95 Gz46:=rises_of (E:=Ez46) ⟨tabOk,(fsCons2 Lz42 (fsCons2 Lz41 fsNil2)),fun _ _ _=>rfl,mixed,inlNil,rcsNil,owsNil⟩ Tryz.func95 rfl (by decide) (by kernel_rfl) (by kernel_rfl) (by kernel_rfl) (by kernel_rfl) (fun x r _ h=>⟨Tz46,6,big,(lz46 big x).trans h⟩)
def Tz47:LT:={ live:=[],keep:=[] }
noncomputable def Ez47:Env2:={ tab:=tab,fs:=[(95,Gz46)],inl:=[] }
def nimage_appendText (x:Y6) (y:(Y6×Unit)):Option (Y6):=
 ((cwire_Text y.1).bind fun x1=>(bif (Nat.ble 1 1&&Nat.ble (List.length x+List.length x1.1) lim) then (some (List.append x x1.1)) else none))
def mimage_appendText (N:Nat) (x:Y6) (y:(Y6×Unit)):Option (Y6):=nimage_appendText x y
theorem jz47 (N:Nat) (x:Y6) (y:(Y6×Unit)):riseO (Ez47) Tz47 6 N Tryz.f58 Z8 [.hole .str] x y=nimage_appendText x y:=by kernel_rfl
theorem lz47 (N:Nat) (x:Y6) (y:(Y6×Unit)):riseO (Ez47) Tz47 6 N Tryz.f58 Z8 [.hole .str] x y=mimage_appendText N x y:=(jz47 N x y).trans rfl
def cimage_appendText (x:Y6) (y:(Y6×Unit)):Option (Y6):=mimage_appendText big x y
@[reducible] def Oz47:OwnC:=⟨Z8,[.hole .str],fun x y=>cimage_appendText x y⟩
theorem Lz47:OwnOk Tryz.prog 58 Oz47:=own_of (c:=Oz47) (E:=Ez47) ⟨tabOk,(fsCons2 Lz46 fsNil2),fun _ _ _=>rfl,mixed,inlNil,rcsNil,owsNil⟩ Tryz.func58 rfl (by decide) (by kernel_rfl) (by kernel_rfl) (fun x y z h=>⟨Tz47,6,big,(lz47 big x y).trans h⟩)
def Tz48:LT:={ live:=[],keep:=[] }
noncomputable def Ez48:Env2:={ tab:=tab,fs:=[],inl:=[],ow:=[(58,Oz47),(92,Oz43)] }
def nimage_appendField (x:Y6) (y:(Y2×Unit)):Option (Y6):=
 ((cimage_appendText x (y.1.1,())).bind fun x1=>((cimage_appendNumber x1 (y.1.2.1,())).bind fun x2=>(some x2)))
def mimage_appendField (N:Nat) (x:Y6) (y:(Y2×Unit)):Option (Y6):=nimage_appendField x y
theorem jz48 (N:Nat) (x:Y6) (y:(Y2×Unit)):riseO (Ez48) Tz48 6 N Tryz.f94 Z8 [.hole Z7] x y=nimage_appendField x y:=by kernel_rfl
theorem lz48 (N:Nat) (x:Y6) (y:(Y2×Unit)):riseO (Ez48) Tz48 6 N Tryz.f94 Z8 [.hole Z7] x y=mimage_appendField N x y:=(jz48 N x y).trans rfl
def cimage_appendField (x:Y6) (y:(Y2×Unit)):Option (Y6):=mimage_appendField big x y
@[reducible] def Oz48:OwnC:=⟨Z8,[.hole Z7],fun x y=>cimage_appendField x y⟩
theorem Lz48:OwnOk Tryz.prog 94 Oz48:=own_of (c:=Oz48) (E:=Ez48) ⟨tabOk,fsNil2,fun _ _ _=>rfl,mixed,inlNil,rcsNil,(owsCons Lz47 (owsCons Lz43 owsNil))⟩ Tryz.func94 rfl (by decide) (by kernel_rfl) (by kernel_rfl) (fun x y z h=>⟨Tz48,6,big,(lz48 big x y).trans h⟩)
def Tz49:LT:={ live:=[],keep:=[(34,[])] }
noncomputable def Ez49:Env2:={ tab:=tab,fs:=[],inl:=[(93,Tryz.f93,Tz45)],ow:=[(92,Oz43),(94,Oz48)] }
noncomputable def ez49_0 (v:Y12×Int×Int×Y6):St:={ s:=[(0,(.row 0)),(2,(.clo 94 .unit)),(13,(.val ⟨(.slice Z7),v.1⟩)),(14,(.val ⟨Z2,v.2.1⟩)),(15,(.val ⟨Z2,v.2.2.1⟩))],l:=[(0,.row Z8 v.2.2.2)],k:=[(4096,[])],b:=16920576 }
def himage_appendType_0 (self0:Y12×Int×Int×Y6→Option (Y6)) (v:Y12×Int×Int×Y6):Option (Y6):=
 (bif (decide (v.2.2.1 < v.2.1)) then ((getI v.1 v.2.2.1).bind fun x6=>((cimage_appendField v.2.2.2 (x6,())).bind fun x7=>(let x8:Int:=(IntKind.i64.wrap (v.2.2.1+(1:Int)));(self0 (v.1,v.2.1,x8,x7))))) else (some v.2.2.2))
def gimage_appendType_0 (N:Nat) (self0:Y12×Int×Int×Y6→Option (Y6)) (v:Y12×Int×Int×Y6):Option (Y6):=himage_appendType_0 self0 v
theorem kz49_0 (N:Nat) (s0:St→Option (Y6)) (v):(flocO (Ez49) Tz49 6 N Tryz.f56 Z8 [.call 10 3 93] 0 nowhereR) s0 (ez49_0 v)=himage_appendType_0 (fun v=>s0 (ez49_0 v)) v:=by kernel_rfl
theorem bz49_0 (N:Nat) (s0:St→Option (Y6)) (v):(flocO (Ez49) Tz49 6 N Tryz.f56 Z8 [.call 10 3 93] 0 nowhereR) s0 (ez49_0 v)=gimage_appendType_0 N (fun v=>s0 (ez49_0 v)) v:=kz49_0 N s0 v
def nimage_appendType (loop0:Y12×Int×Int×Y6→Option (Y6)) (x:Y6) (y:(Y1×Unit)):Option (Y6):=
 (bif (Nat.ble 1 1&&Nat.ble (List.length x+List.length ([y.1.1]:Y6)) lim) then (let x1:Y6:=(List.append x ([y.1.1]:Y6));(bif (y.1.1==(4:Int)) then (bif (y.1.1==(4:Int)) then ((cimage_appendNumber x1 (y.1.2.1,())).bind fun x2=>(some x2)) else (bif (y.1.1==(6:Int)) then ((cimage_appendNumber x1 (y.1.2.1,())).bind fun x3=>((cimage_appendNumber x3 (y.1.2.2.1,())).bind fun x4=>(some x4))) else (bif (y.1.1==(5:Int)) then ((cimage_appendNumber x1 ((List.length y.1.2.2.2.1:Int),())).bind fun x5=>(loop0 (y.1.2.2.2.1,(List.length y.1.2.2.2.1:Int),(0:Int),x5))) else (some x1)))) else (bif (y.1.1==(7:Int)) then ((cimage_appendNumber x1 (y.1.2.1,())).bind fun x9=>(some x9)) else (bif (y.1.1==(6:Int)) then ((cimage_appendNumber x1 (y.1.2.1,())).bind fun x10=>((cimage_appendNumber x10 (y.1.2.2.1,())).bind fun x11=>(some x11))) else (bif (y.1.1==(5:Int)) then ((cimage_appendNumber x1 ((List.length y.1.2.2.2.1:Int),())).bind fun x12=>(loop0 (y.1.2.2.2.1,(List.length y.1.2.2.2.1:Int),(0:Int),x12))) else (some x1)))))) else none)
def mimage_appendType (N:Nat) (x:Y6) (y:(Y1×Unit)):Option (Y6):=nimage_appendType (iterV (gimage_appendType_0 N) N) x y
theorem jz49 (N:Nat) (x:Y6) (y:(Y1×Unit)):riseO (Ez49) Tz49 6 N Tryz.f56 Z8 [.hole Z1] x y=nimage_appendType (fun v=>iterR (flocO (Ez49) Tz49 6 N Tryz.f56 Z8 [.call 10 3 93] 0 nowhereR) N (ez49_0 v)) x y:=by kernel_rfl
theorem lz49 (N:Nat) (x:Y6) (y:(Y1×Unit)):riseO (Ez49) Tz49 6 N Tryz.f56 Z8 [.hole Z1] x y=mimage_appendType N x y:=(jz49 N x y).trans (by rw [funext (iterR_eq ez49_0 (bz49_0 N) N)];rfl)
def cimage_appendType (x:Y6) (y:(Y1×Unit)):Option (Y6):=mimage_appendType big x y
@[reducible] def Oz49:OwnC:=⟨Z8,[.hole Z1],fun x y=>cimage_appendType x y⟩
theorem Lz49:OwnOk Tryz.prog 56 Oz49:=own_of (c:=Oz49) (E:=Ez49) ⟨tabOk,fsNil2,fun _ _ _=>rfl,mixed,(inlCons (inlB_of Tryz.func93 rfl rfl (by kernel_rfl)) inlNil),rcsNil,(owsCons Lz43 (owsCons Lz48 owsNil))⟩ Tryz.func56 rfl (by decide) (by kernel_rfl) (by kernel_rfl) (fun x y z h=>⟨Tz49,6,big,(lz49 big x y).trans h⟩)
def Tz50:LT:={ live:=[(3,[0,2,13,14,15])],keep:=[] }
def Tz51:LT:={ live:=[(3,[0,2,13,14,15])],keep:=[] }
def Tz52:LT:={ live:=[],keep:=[] }
noncomputable def Ez52:Env2:={ tab:=tab,fs:=[(128,Gz42)],inl:=[] }
def nwire_Signed (x:Int):Option (Y6):=
 (bif (decide (x < (0:Int))) then (let x1:Int:=(bits .xor .i64 (if IntKind.signed .i64 then -1 else IntKind.max .i64) x);(let x2:Int:=(IntKind.u64.wrap ((IntKind.u64.wrap x1) * 2 ^ 1));(let x3:Int:=(bits .or .u64 x2 (1:Int));((cwire_Vary x3).bind fun x4=>(some x4))))) else (let x5:Int:=(IntKind.u64.wrap ((IntKind.u64.wrap x) * 2 ^ 1));((cwire_Vary x5).bind fun x6=>(some x6))))
def mwire_Signed (N:Nat) (x:Int):Option (Y6):=nwire_Signed x
theorem jz52 (N:Nat) (x:Int):rise (Ez52) Tz52 6 N Tryz.f96 [Z2] [Z11] [true] x=nwire_Signed x:=by kernel_rfl
theorem lz52 (N:Nat) (x:Int):rise (Ez52) Tz52 6 N Tryz.f96 [Z2] [Z11] [true] x=mwire_Signed N x:=(jz52 N x).trans rfl
def cwire_Signed (x:Int):Option (Y6):=mwire_Signed big x
def Gz52:Fn2:=⟨[Z2],[Z11],[true],fun x=>cwire_Signed x⟩
theorem Lz52:Rises Tryz.prog 96 Gz52:=rises_of (E:=Ez52) ⟨tabOk,(fsCons2 Lz42 fsNil2),fun _ _ _=>rfl,mixed,inlNil,rcsNil,owsNil⟩ Tryz.func96 rfl (by decide) (by kernel_rfl) (by kernel_rfl) (by kernel_rfl) (by kernel_rfl) (fun x r _ h=>⟨Tz52,6,big,(lz52 big x).trans h⟩)
def Tz53:LT:={ live:=[(3,[0,2,13,14,15])],keep:=[] }
def Tz54:LT:={ live:=[],keep:=[] }
noncomputable def Ez54:Env2:={ tab:=tab,fs:=[],inl:=[] }
def nops_isSigned (x:Int):Option (Bool):=
 (bif (x==(5:Int)) then (some true) else (bif (x==(3:Int)) then (some true) else (some (x==(4:Int)))))
def mops_isSigned (N:Nat) (x:Int):Option (Bool):=nops_isSigned x
theorem jz54 (N:Nat) (x:Int):rise (Ez54) Tz54 6 N Tryz.f159 [Z8] [.bool] [false] x=nops_isSigned x:=by kernel_rfl
theorem lz54 (N:Nat) (x:Int):rise (Ez54) Tz54 6 N Tryz.f159 [Z8] [.bool] [false] x=mops_isSigned N x:=(jz54 N x).trans rfl
def cops_isSigned (x:Int):Option (Bool):=mops_isSigned big x
def Gz54:Fn2:=⟨[Z8],[.bool],[false],fun x=>cops_isSigned x⟩
theorem Lz54:Rises Tryz.prog 159 Gz54:=rises_of (E:=Ez54) ⟨tabOk,fsNil2,fun _ _ _=>rfl,mixed,inlNil,rcsNil,owsNil⟩ Tryz.func159 rfl (by decide) (by kernel_rfl) (by kernel_rfl) (by kernel_rfl) (by kernel_rfl) (fun x r _ h=>⟨Tz54,6,big,(lz54 big x).trans h⟩)
def Tz55:LT:={ live:=[],keep:=[] }
def Tz56:LT:={ live:=[(3,[1,4,13,14])],keep:=[(25,[1,4,13,14])] }
def Tz57:LT:={ live:=[],keep:=[(16,[5])] }
noncomputable def Ez57:Env2:={ tab:=tab,fs:=[(96,Gz52),(128,Gz42),(145,Gz31),(159,Gz54),(161,Gz28)],inl:=[(157,Tryz.f157,Tz56),(158,Tryz.f158,Tz55)] }
noncomputable def ez57_0 (v:Y6×Int×Y6×Y6):St:={ s:=[(1,(.clo 158 (.pair (.loc 0 []) .unit))),(4,(.loc 2 [])),(13,(.val ⟨(.arr 3 Z8),v.1⟩)),(14,(.val ⟨Z2,v.2.1⟩))],l:=[(0,.var Z11 (.row 1)),(1,.row Z8 v.2.2.1),(2,.var (.arr 3 Z2) (.val ⟨(.arr 3 Z2),v.2.2.2⟩))],k:=[(4096,[(5,(.loc 0 []))])],b:=16846848 }
def hops_Encode_0 (self0:Y6×Int×Y6×Y6→Option (Y6×Int)) (v:Y6×Int×Y6×Y6):Option (Y6×Int):=
 (bif (decide (v.2.1 < (3:Int))) then ((getI v.1 v.2.1).bind fun x4=>(bif (x4 != (0:Int)) then (bif (decide (0≤v.2.1)&&decide (v.2.1 < (3:Int))) then ((nth v.2.2.2 (Int.toNat v.2.1)).bind fun x5=>((cops_isSigned x4).bind fun x6=>(bif x6 then ((cwire_Signed x5).bind fun x7=>(bif (Nat.ble 1 1&&Nat.ble (List.length v.2.2.1+List.length x7) lim) then (let x8:Int:=(IntKind.i64.wrap (v.2.1+(1:Int)));(self0 (v.1,x8,(List.append v.2.2.1 x7),v.2.2.2))) else none)) else ((cwire_Vary (IntKind.u64.wrap x5)).bind fun x9=>(bif (Nat.ble 1 1&&Nat.ble (List.length v.2.2.1+List.length x9) lim) then (let x10:Int:=(IntKind.i64.wrap (v.2.1+(1:Int)));(self0 (v.1,x10,(List.append v.2.2.1 x9),v.2.2.2))) else none))))) else none) else (let x11:Int:=(IntKind.i64.wrap (v.2.1+(1:Int)));(self0 (v.1,x11,v.2.2.1,v.2.2.2))))) else (some (v.2.2.1,(0:Int))))
def gops_Encode_0 (N:Nat) (self0:Y6×Int×Y6×Y6→Option (Y6×Int)) (v:Y6×Int×Y6×Y6):Option (Y6×Int):=hops_Encode_0 self0 v
theorem kz57_0 (N:Nat) (s0:St→Option (Y6×Int)) (v):(floc (Ez57) Tz57 6 N Tryz.f130 [Z11,Z2] [true,false] [.call 5 2 157] 0 nowhereR) s0 (ez57_0 v)=hops_Encode_0 (fun v=>s0 (ez57_0 v)) v:=by kernel_rfl
theorem bz57_0 (N:Nat) (s0:St→Option (Y6×Int)) (v):(floc (Ez57) Tz57 6 N Tryz.f130 [Z11,Z2] [true,false] [.call 5 2 157] 0 nowhereR) s0 (ez57_0 v)=gops_Encode_0 N (fun v=>s0 (ez57_0 v)) v:=kz57_0 N s0 v
def nops_Encode (loop0:Y6×Int×Y6×Y6→Option (Y6×Int)) (x:Y7):Option (Y6×Int):=
 ((cops_Check x).bind fun x1=>(bif (x1 != (0:Int)) then (some (([]:List Int),x1)) else ((cops_operands x).bind fun x2=>((getI gl0 x.1).bind fun x3=>(loop0 (x3.2.1,(0:Int),([x.1]:Y6),x2))))))
def mops_Encode (N:Nat) (x:Y7):Option (Y6×Int):=nops_Encode (iterV (gops_Encode_0 N) N) x
theorem jz57 (N:Nat) (x:Y7):rise (Ez57) Tz57 6 N Tryz.f130 [Z5] [Z11,Z2] [true,false] x=nops_Encode (fun v=>iterR (floc (Ez57) Tz57 6 N Tryz.f130 [Z11,Z2] [true,false] [.call 5 2 157] 0 nowhereR) N (ez57_0 v)) x:=by kernel_rfl
theorem lz57 (N:Nat) (x:Y7):rise (Ez57) Tz57 6 N Tryz.f130 [Z5] [Z11,Z2] [true,false] x=mops_Encode N x:=(jz57 N x).trans (by rw [funext (iterR_eq ez57_0 (bz57_0 N) N)];rfl)
def cops_Encode (x:Y7):Option (Y6×Int):=mops_Encode big x
def Gz57:Fn2:=⟨[Z5],[Z11,Z2],[true,false],fun x=>cops_Encode x⟩
theorem Lz57:Rises Tryz.prog 130 Gz57:=rises_of (E:=Ez57) ⟨tabOk,(fsCons2 Lz52 (fsCons2 Lz42 (fsCons2 Lz31 (fsCons2 Lz54 (fsCons2 Lz28 fsNil2))))),fun _ _ _=>rfl,mixed,(inlCons (inlB_of Tryz.func157 rfl rfl (by kernel_rfl)) (inlCons (inlB_of Tryz.func158 rfl rfl (by kernel_rfl)) inlNil)),rcsNil,owsNil⟩ Tryz.func130 rfl (by decide) (by kernel_rfl) (by kernel_rfl) (by kernel_rfl) (by kernel_rfl) (fun x r _ h=>⟨Tz57,6,big,(lz57 big x).trans h⟩)
def Tz58:LT:={ live:=[],keep:=[] }
noncomputable def Ez58:Env2:={ tab:=tab,fs:=[(130,Gz57)],inl:=[] }
def nimage_appendInstr (x:Y6) (y:(Y7×Unit)):Option (Y6):=
 ((cops_Encode y.1).bind fun x1=>(bif (Nat.ble 1 1&&Nat.ble (List.length x+List.length x1.1) lim) then (some (List.append x x1.1)) else none))
def mimage_appendInstr (N:Nat) (x:Y6) (y:(Y7×Unit)):Option (Y6):=nimage_appendInstr x y
theorem jz58 (N:Nat) (x:Y6) (y:(Y7×Unit)):riseO (Ez58) Tz58 6 N Tryz.f98 Z8 [.hole Z5] x y=nimage_appendInstr x y:=by kernel_rfl
theorem lz58 (N:Nat) (x:Y6) (y:(Y7×Unit)):riseO (Ez58) Tz58 6 N Tryz.f98 Z8 [.hole Z5] x y=mimage_appendInstr N x y:=(jz58 N x y).trans rfl
def cimage_appendInstr (x:Y6) (y:(Y7×Unit)):Option (Y6):=mimage_appendInstr big x y
@[reducible] def Oz58:OwnC:=⟨Z8,[.hole Z5],fun x y=>cimage_appendInstr x y⟩
theorem Lz58:OwnOk Tryz.prog 98 Oz58:=own_of (c:=Oz58) (E:=Ez58) ⟨tabOk,(fsCons2 Lz57 fsNil2),fun _ _ _=>rfl,mixed,inlNil,rcsNil,owsNil⟩ Tryz.func98 rfl (by decide) (by kernel_rfl) (by kernel_rfl) (fun x y z h=>⟨Tz58,6,big,(lz58 big x y).trans h⟩)
def Tz59:LT:={ live:=[(7,[7,8,21,22,23])],keep:=[] }
noncomputable def Ez59:Env2:={ tab:=tab,fs:=[(126,Gz35),(128,Gz42)],inl:=[] }
noncomputable def ez59_0 (v:Int×Y10×Int×Int×Y6):St:={ s:=[(7,(.row 0)),(8,(.val ⟨Z2,v.1⟩)),(21,(.val ⟨(.slice Z6),v.2.1⟩)),(22,(.val ⟨Z2,v.2.2.1⟩)),(23,(.val ⟨Z2,v.2.2.2.1⟩))],l:=[(0,.row Z8 v.2.2.2.2)],k:=[],b:=4096 }
def htables_Encode_0 (self0:Int×Y10×Int×Int×Y6→Option (Y6×Int)) (v:Int×Y10×Int×Int×Y6):Option (Y6×Int):=
 (bif (decide (v.2.2.2.1 < v.2.2.1)) then ((getI v.2.1 v.2.2.2.1).bind fun x4=>(let x5:Int:=(IntKind.i64.wrap (x4.1 - v.1));((cwire_Vary (IntKind.u64.wrap x5)).bind fun x6=>(bif (Nat.ble 1 1&&Nat.ble (List.length v.2.2.2.2+List.length x6) lim) then (let x7:Y6:=(List.append v.2.2.2.2 x6);((cwire_Vary x4.2.1).bind fun x8=>(bif (Nat.ble 1 1&&Nat.ble (List.length x7+List.length x8) lim) then (let x9:Int:=(IntKind.i64.wrap (v.2.2.2.1+(1:Int)));(self0 (x4.1,v.2.1,v.2.2.1,x9,(List.append x7 x8)))) else none))) else none)))) else (some (v.2.2.2.2,(0:Int))))
def gtables_Encode_0 (N:Nat) (self0:Int×Y10×Int×Int×Y6→Option (Y6×Int)) (v:Int×Y10×Int×Int×Y6):Option (Y6×Int):=htables_Encode_0 self0 v
theorem kz59_0 (N:Nat) (s0:St→Option (Y6×Int)) (v):(floc (Ez59) Tz59 6 N Tryz.f131 [Z11,Z2] [true,false] [] 0 nowhereR) s0 (ez59_0 v)=htables_Encode_0 (fun v=>s0 (ez59_0 v)) v:=by kernel_rfl
theorem bz59_0 (N:Nat) (s0:St→Option (Y6×Int)) (v):(floc (Ez59) Tz59 6 N Tryz.f131 [Z11,Z2] [true,false] [] 0 nowhereR) s0 (ez59_0 v)=gtables_Encode_0 N (fun v=>s0 (ez59_0 v)) v:=kz59_0 N s0 v
def ntables_Encode (loop0:Int×Y10×Int×Int×Y6→Option (Y6×Int)) (x:Y10×Int):Option (Y6×Int):=
 ((ctables_Check (x.1,x.2)).bind fun x1=>(bif (x1 != (0:Int)) then (some (([]:List Int),x1)) else (let x2:Int:=(IntKind.u64.wrap (List.length x.1:Int));((cwire_Vary x2).bind fun x3=>(loop0 ((0:Int),x.1,(List.length x.1:Int),(0:Int),x3))))))
def mtables_Encode (N:Nat) (x:Y10×Int):Option (Y6×Int):=ntables_Encode (iterV (gtables_Encode_0 N) N) x
theorem jz59 (N:Nat) (x:Y10×Int):rise (Ez59) Tz59 6 N Tryz.f131 [(.slice Z6),Z2] [Z11,Z2] [true,false] x=ntables_Encode (fun v=>iterR (floc (Ez59) Tz59 6 N Tryz.f131 [Z11,Z2] [true,false] [] 0 nowhereR) N (ez59_0 v)) x:=by kernel_rfl
theorem lz59 (N:Nat) (x:Y10×Int):rise (Ez59) Tz59 6 N Tryz.f131 [(.slice Z6),Z2] [Z11,Z2] [true,false] x=mtables_Encode N x:=(jz59 N x).trans (by rw [funext (iterR_eq ez59_0 (bz59_0 N) N)];rfl)
def ctables_Encode (x:Y10×Int):Option (Y6×Int):=mtables_Encode big x
def Gz59:Fn2:=⟨[(.slice Z6),Z2],[Z11,Z2],[true,false],fun x=>ctables_Encode x⟩
theorem Lz59:Rises Tryz.prog 131 Gz59:=rises_of (E:=Ez59) ⟨tabOk,(fsCons2 Lz35 (fsCons2 Lz42 fsNil2)),fun _ _ _=>rfl,mixed,inlNil,rcsNil,owsNil⟩ Tryz.func131 rfl (by decide) (by kernel_rfl) (by kernel_rfl) (by kernel_rfl) (by kernel_rfl) (fun x r _ h=>⟨Tz59,6,big,(lz59 big x).trans h⟩)
def Tz60:LT:={ live:=[],keep:=[] }
noncomputable def Ez60:Env2:={ tab:=tab,fs:=[(131,Gz59)],inl:=[] }
def nimage_appendRuns (x:Y6) (y:(Y10×(Int×Unit))):Option (Y6):=
 ((ctables_Encode (y.1,y.2.1)).bind fun x1=>(bif (Nat.ble 1 1&&Nat.ble (List.length x+List.length x1.1) lim) then (some (List.append x x1.1)) else none))
def mimage_appendRuns (N:Nat) (x:Y6) (y:(Y10×(Int×Unit))):Option (Y6):=nimage_appendRuns x y
theorem jz60 (N:Nat) (x:Y6) (y:(Y10×(Int×Unit))):riseO (Ez60) Tz60 6 N Tryz.f99 Z8 [.hole (.slice Z6),.hole Z2] x y=nimage_appendRuns x y:=by kernel_rfl
theorem lz60 (N:Nat) (x:Y6) (y:(Y10×(Int×Unit))):riseO (Ez60) Tz60 6 N Tryz.f99 Z8 [.hole (.slice Z6),.hole Z2] x y=mimage_appendRuns N x y:=(jz60 N x y).trans rfl
def cimage_appendRuns (x:Y6) (y:(Y10×(Int×Unit))):Option (Y6):=mimage_appendRuns big x y
@[reducible] def Oz60:OwnC:=⟨Z8,[.hole (.slice Z6),.hole Z2],fun x y=>cimage_appendRuns x y⟩
theorem Lz60:OwnOk Tryz.prog 99 Oz60:=own_of (c:=Oz60) (E:=Ez60) ⟨tabOk,(fsCons2 Lz59 fsNil2),fun _ _ _=>rfl,mixed,inlNil,rcsNil,owsNil⟩ Tryz.func99 rfl (by decide) (by kernel_rfl) (by kernel_rfl) (fun x y z h=>⟨Tz60,6,big,(lz60 big x y).trans h⟩)
def Tz61:LT:={ live:=[],keep:=[(21,[3]),(25,[3])] }
noncomputable def Ez61:Env2:={ tab:=tab,fs:=[(96,Gz52)],inl:=[(93,Tryz.f93,Tz45),(97,Tryz.f97,Tz53)],ow:=[(58,Oz47),(92,Oz43),(94,Oz48),(98,Oz58),(99,Oz60)] }
noncomputable def ez61_1 (v:Y16×Int×Int×Y6×Y0):St:={ s:=[(0,(.row 0)),(2,(.clo 98 .unit)),(13,(.val ⟨(.slice Z5),v.1⟩)),(14,(.val ⟨Z2,v.2.1⟩)),(15,(.val ⟨Z2,v.2.2.1⟩))],l:=[(0,.row Z8 v.2.2.2.1),(1,.var Z0 (.val ⟨Z0,v.2.2.2.2⟩))],k:=[(4096,[(3,(.loc 1 []))])],b:=16883712 }
noncomputable def ez61_0 (v:Y12×Int×Int×Y6×Y0):St:={ s:=[(0,(.row 0)),(2,(.clo 94 .unit)),(13,(.val ⟨(.slice Z7),v.1⟩)),(14,(.val ⟨Z2,v.2.1⟩)),(15,(.val ⟨Z2,v.2.2.1⟩))],l:=[(0,.row Z8 v.2.2.2.1),(1,.var Z0 (.val ⟨Z0,v.2.2.2.2⟩))],k:=[(4096,[(3,(.loc 1 []))])],b:=16867328 }
def himage_appendFunc_1 (self0:Y12×Int×Int×Y6×Y0→Option (Y6)) (self1:Y16×Int×Int×Y6×Y0→Option (Y6)) (v:Y16×Int×Int×Y6×Y0):Option (Y6):=
 (bif (decide (v.2.2.1 < v.2.1)) then ((getI v.1 v.2.2.1).bind fun x9=>((cimage_appendInstr v.2.2.2.1 (x9,())).bind fun x10=>(let x11:Int:=(IntKind.i64.wrap (v.2.2.1+(1:Int)));(self1 (v.1,v.2.1,x11,x10,v.2.2.2.2))))) else ((cimage_appendRuns v.2.2.2.1 (v.2.2.2.2.2.2.2.2.2.1,((List.length v.2.2.2.2.2.2.2.2.1:Int),()))).bind fun x12=>((cimage_appendRuns x12 (v.2.2.2.2.2.2.2.2.2.2.1,((List.length v.2.2.2.2.2.2.2.2.1:Int),()))).bind fun x13=>(some x13))))
def gimage_appendFunc_1 (N:Nat) (self0:Y12×Int×Int×Y6×Y0→Option (Y6)) (self1:Y16×Int×Int×Y6×Y0→Option (Y6)) (v:Y16×Int×Int×Y6×Y0):Option (Y6):=himage_appendFunc_1 self0 self1 v
theorem kz61_1 (N:Nat) (s0:St→Option (Y6)) (s1:St→Option (Y6)) (v):(flocO (Ez61) Tz61 6 N Tryz.f60 Z8 [.call 5 3 97] 0 nowhereR) s1 (ez61_1 v)=himage_appendFunc_1 (fun v=>s0 (ez61_0 v)) (fun v=>s1 (ez61_1 v)) v:=by kernel_rfl
theorem bz61_1 (N:Nat) (s0:St→Option (Y6)) (s1:St→Option (Y6)) (v):(flocO (Ez61) Tz61 6 N Tryz.f60 Z8 [.call 5 3 97] 0 nowhereR) s1 (ez61_1 v)=gimage_appendFunc_1 N (fun v=>s0 (ez61_0 v)) (fun v=>s1 (ez61_1 v)) v:=kz61_1 N s0 s1 v
def himage_appendFunc_0 (loop1:Y16×Int×Int×Y6×Y0→Option (Y6)) (self0:Y12×Int×Int×Y6×Y0→Option (Y6)) (v:Y12×Int×Int×Y6×Y0):Option (Y6):=
 (bif (decide (v.2.2.1 < v.2.1)) then ((getI v.1 v.2.2.1).bind fun x5=>((cimage_appendField v.2.2.2.1 (x5,())).bind fun x6=>(let x7:Int:=(IntKind.i64.wrap (v.2.2.1+(1:Int)));(self0 (v.1,v.2.1,x7,x6,v.2.2.2.2))))) else ((cimage_appendNumber v.2.2.2.1 ((List.length v.2.2.2.2.2.2.2.2.1:Int),())).bind fun x8=>(loop1 (v.2.2.2.2.2.2.2.2.1,(List.length v.2.2.2.2.2.2.2.2.1:Int),(0:Int),x8,v.2.2.2.2))))
def gimage_appendFunc_0 (N:Nat) (self0:Y12×Int×Int×Y6×Y0→Option (Y6)) (v:Y12×Int×Int×Y6×Y0):Option (Y6):=himage_appendFunc_0 (iterV (gimage_appendFunc_1 N self0) N) self0 v
theorem kz61_0 (N:Nat) (s0:St→Option (Y6)) (v):(flocO (Ez61) Tz61 6 N Tryz.f60 Z8 [.call 4 3 93] 0 nowhereR) s0 (ez61_0 v)=himage_appendFunc_0 (fun v=>iterR (flocO (Ez61) Tz61 6 N Tryz.f60 Z8 [.call 5 3 97] 0 nowhereR) N (ez61_1 v)) (fun v=>s0 (ez61_0 v)) v:=by kernel_rfl
theorem bz61_0 (N:Nat) (s0:St→Option (Y6)) (v):(flocO (Ez61) Tz61 6 N Tryz.f60 Z8 [.call 4 3 93] 0 nowhereR) s0 (ez61_0 v)=gimage_appendFunc_0 N (fun v=>s0 (ez61_0 v)) v:=(kz61_0 N s0 v).trans (by rw [funext (iterR_eq ez61_1 (bz61_1 N s0) N)];rfl)
def nimage_appendFunc (loop0:Y12×Int×Int×Y6×Y0→Option (Y6)) (x:Y6) (y:(Y0×Unit)):Option (Y6):=
 ((cimage_appendText x (y.1.1,())).bind fun x1=>((cimage_appendNumber x1 (y.1.2.1,())).bind fun x2=>((cwire_Signed y.1.2.2.1).bind fun x3=>(bif (Nat.ble 1 1&&Nat.ble (List.length x2+List.length x3) lim) then ((cimage_appendNumber (List.append x2 x3) ((List.length y.1.2.2.2.1:Int),())).bind fun x4=>(loop0 (y.1.2.2.2.1,(List.length y.1.2.2.2.1:Int),(0:Int),x4,y.1))) else none))))
def mimage_appendFunc (N:Nat) (x:Y6) (y:(Y0×Unit)):Option (Y6):=nimage_appendFunc (iterV (gimage_appendFunc_0 N) N) x y
theorem jz61 (N:Nat) (x:Y6) (y:(Y0×Unit)):riseO (Ez61) Tz61 6 N Tryz.f60 Z8 [.hole Z0] x y=nimage_appendFunc (fun v=>iterR (flocO (Ez61) Tz61 6 N Tryz.f60 Z8 [.call 4 3 93] 0 nowhereR) N (ez61_0 v)) x y:=by kernel_rfl
theorem lz61 (N:Nat) (x:Y6) (y:(Y0×Unit)):riseO (Ez61) Tz61 6 N Tryz.f60 Z8 [.hole Z0] x y=mimage_appendFunc N x y:=(jz61 N x y).trans (by rw [funext (iterR_eq ez61_0 (bz61_0 N) N)];rfl)
def cimage_appendFunc (x:Y6) (y:(Y0×Unit)):Option (Y6):=mimage_appendFunc big x y
@[reducible] def Oz61:OwnC:=⟨Z8,[.hole Z0],fun x y=>cimage_appendFunc x y⟩
theorem Lz61:OwnOk Tryz.prog 60 Oz61:=own_of (c:=Oz61) (E:=Ez61) ⟨tabOk,(fsCons2 Lz52 fsNil2),fun _ _ _=>rfl,mixed,(inlCons (inlB_of Tryz.func93 rfl rfl (by kernel_rfl)) (inlCons (inlB_of Tryz.func97 rfl rfl (by kernel_rfl)) inlNil)),rcsNil,(owsCons Lz47 (owsCons Lz43 (owsCons Lz48 (owsCons Lz58 (owsCons Lz60 owsNil)))))⟩ Tryz.func60 rfl (by decide) (by kernel_rfl) (by kernel_rfl) (fun x y z h=>⟨Tz61,6,big,(lz61 big x y).trans h⟩)
def Tz62:LT:={ live:=[],keep:=[(8,[3]),(12,[3]),(16,[])] }
noncomputable def Ez62:Env2:={ tab:=tab,fs:=[],inl:=[(55,Tryz.f55,Tz44),(57,Tryz.f57,Tz50),(59,Tryz.f59,Tz51)],ow:=[(56,Oz49),(58,Oz47),(60,Oz61),(92,Oz43)] }
noncomputable def ez62_2 (v:Y14×Int×Int×Y6):St:={ s:=[(0,(.row 0)),(2,(.clo 60 .unit)),(13,(.val ⟨(.slice Z0),v.1⟩)),(14,(.val ⟨Z2,v.2.1⟩)),(15,(.val ⟨Z2,v.2.2.1⟩))],l:=[(0,.row Z8 v.2.2.2)],k:=[(4096,[])],b:=16846848 }
noncomputable def ez62_1 (v:Y13×Int×Int×Y6×Y3):St:={ s:=[(0,(.row 0)),(2,(.clo 58 .unit)),(13,(.val ⟨(.slice .str),v.1⟩)),(14,(.val ⟨Z2,v.2.1⟩)),(15,(.val ⟨Z2,v.2.2.1⟩))],l:=[(0,.row Z8 v.2.2.2.1),(1,.var Z4 (.val ⟨Z4,v.2.2.2.2⟩))],k:=[(4096,[(3,(.loc 1 []))])],b:=16830464 }
noncomputable def ez62_0 (v:Y8×Int×Int×Y6×Y3):St:={ s:=[(0,(.row 0)),(2,(.clo 56 .unit)),(13,(.val ⟨(.slice Z1),v.1⟩)),(14,(.val ⟨Z2,v.2.1⟩)),(15,(.val ⟨Z2,v.2.2.1⟩))],l:=[(0,.row Z8 v.2.2.2.1),(1,.var Z4 (.val ⟨Z4,v.2.2.2.2⟩))],k:=[(4096,[(3,(.loc 1 []))])],b:=16814080 }
def himage_appendImage_2 (self0:Y8×Int×Int×Y6×Y3→Option (Y6)) (self1:Y13×Int×Int×Y6×Y3→Option (Y6)) (self2:Y14×Int×Int×Y6→Option (Y6)) (v:Y14×Int×Int×Y6):Option (Y6):=
 (bif (decide (v.2.2.1 < v.2.1)) then ((getI v.1 v.2.2.1).bind fun x10=>((cimage_appendFunc v.2.2.2 (x10,())).bind fun x11=>(let x12:Int:=(IntKind.i64.wrap (v.2.2.1+(1:Int)));(self2 (v.1,v.2.1,x12,x11))))) else (some v.2.2.2))
def gimage_appendImage_2 (N:Nat) (self0:Y8×Int×Int×Y6×Y3→Option (Y6)) (self1:Y13×Int×Int×Y6×Y3→Option (Y6)) (self2:Y14×Int×Int×Y6→Option (Y6)) (v:Y14×Int×Int×Y6):Option (Y6):=himage_appendImage_2 self0 self1 self2 v
theorem kz62_2 (N:Nat) (s0:St→Option (Y6)) (s1:St→Option (Y6)) (s2:St→Option (Y6)) (v):(flocO (Ez62) Tz62 6 N Tryz.f34 Z8 [.call 3 3 59] 0 nowhereR) s2 (ez62_2 v)=himage_appendImage_2 (fun v=>s0 (ez62_0 v)) (fun v=>s1 (ez62_1 v)) (fun v=>s2 (ez62_2 v)) v:=by kernel_rfl
theorem bz62_2 (N:Nat) (s0:St→Option (Y6)) (s1:St→Option (Y6)) (s2:St→Option (Y6)) (v):(flocO (Ez62) Tz62 6 N Tryz.f34 Z8 [.call 3 3 59] 0 nowhereR) s2 (ez62_2 v)=gimage_appendImage_2 N (fun v=>s0 (ez62_0 v)) (fun v=>s1 (ez62_1 v)) (fun v=>s2 (ez62_2 v)) v:=kz62_2 N s0 s1 s2 v
def himage_appendImage_1 (loop2:Y14×Int×Int×Y6→Option (Y6)) (self0:Y8×Int×Int×Y6×Y3→Option (Y6)) (self1:Y13×Int×Int×Y6×Y3→Option (Y6)) (v:Y13×Int×Int×Y6×Y3):Option (Y6):=
 (bif (decide (v.2.2.1 < v.2.1)) then ((getI v.1 v.2.2.1).bind fun x6=>((cimage_appendText v.2.2.2.1 (x6,())).bind fun x7=>(let x8:Int:=(IntKind.i64.wrap (v.2.2.1+(1:Int)));(self1 (v.1,v.2.1,x8,x7,v.2.2.2.2))))) else ((cimage_appendNumber v.2.2.2.1 ((List.length v.2.2.2.2.2.2.1:Int),())).bind fun x9=>(loop2 (v.2.2.2.2.2.2.1,(List.length v.2.2.2.2.2.2.1:Int),(0:Int),x9))))
def gimage_appendImage_1 (N:Nat) (self0:Y8×Int×Int×Y6×Y3→Option (Y6)) (self1:Y13×Int×Int×Y6×Y3→Option (Y6)) (v:Y13×Int×Int×Y6×Y3):Option (Y6):=himage_appendImage_1 (iterV (gimage_appendImage_2 N self0 self1) N) self0 self1 v
theorem kz62_1 (N:Nat) (s0:St→Option (Y6)) (s1:St→Option (Y6)) (v):(flocO (Ez62) Tz62 6 N Tryz.f34 Z8 [.call 2 3 57] 0 nowhereR) s1 (ez62_1 v)=himage_appendImage_1 (fun v=>iterR (flocO (Ez62) Tz62 6 N Tryz.f34 Z8 [.call 3 3 59] 0 nowhereR) N (ez62_2 v)) (fun v=>s0 (ez62_0 v)) (fun v=>s1 (ez62_1 v)) v:=by kernel_rfl
theorem bz62_1 (N:Nat) (s0:St→Option (Y6)) (s1:St→Option (Y6)) (v):(flocO (Ez62) Tz62 6 N Tryz.f34 Z8 [.call 2 3 57] 0 nowhereR) s1 (ez62_1 v)=gimage_appendImage_1 N (fun v=>s0 (ez62_0 v)) (fun v=>s1 (ez62_1 v)) v:=(kz62_1 N s0 s1 v).trans (by rw [funext (iterR_eq ez62_2 (bz62_2 N s0 s1) N)];rfl)
def himage_appendImage_0 (loop1:Y13×Int×Int×Y6×Y3→Option (Y6)) (self0:Y8×Int×Int×Y6×Y3→Option (Y6)) (v:Y8×Int×Int×Y6×Y3):Option (Y6):=
 (bif (decide (v.2.2.1 < v.2.1)) then ((getI v.1 v.2.2.1).bind fun x2=>((cimage_appendType v.2.2.2.1 (x2,())).bind fun x3=>(let x4:Int:=(IntKind.i64.wrap (v.2.2.1+(1:Int)));(self0 (v.1,v.2.1,x4,x3,v.2.2.2.2))))) else ((cimage_appendNumber v.2.2.2.1 ((List.length v.2.2.2.2.2.1:Int),())).bind fun x5=>(loop1 (v.2.2.2.2.2.1,(List.length v.2.2.2.2.2.1:Int),(0:Int),x5,v.2.2.2.2))))
def gimage_appendImage_0 (N:Nat) (self0:Y8×Int×Int×Y6×Y3→Option (Y6)) (v:Y8×Int×Int×Y6×Y3):Option (Y6):=himage_appendImage_0 (iterV (gimage_appendImage_1 N self0) N) self0 v
theorem kz62_0 (N:Nat) (s0:St→Option (Y6)) (v):(flocO (Ez62) Tz62 6 N Tryz.f34 Z8 [.call 1 3 55] 0 nowhereR) s0 (ez62_0 v)=himage_appendImage_0 (fun v=>iterR (flocO (Ez62) Tz62 6 N Tryz.f34 Z8 [.call 2 3 57] 0 nowhereR) N (ez62_1 v)) (fun v=>s0 (ez62_0 v)) v:=by kernel_rfl
theorem bz62_0 (N:Nat) (s0:St→Option (Y6)) (v):(flocO (Ez62) Tz62 6 N Tryz.f34 Z8 [.call 1 3 55] 0 nowhereR) s0 (ez62_0 v)=gimage_appendImage_0 N (fun v=>s0 (ez62_0 v)) v:=(kz62_0 N s0 v).trans (by rw [funext (iterR_eq ez62_1 (bz62_1 N s0) N)];rfl)
def nimage_appendImage (loop0:Y8×Int×Int×Y6×Y3→Option (Y6)) (x:Y6) (y:(Y3×Unit)):Option (Y6):=
 ((cimage_appendNumber x ((List.length y.1.1:Int),())).bind fun x1=>(loop0 (y.1.1,(List.length y.1.1:Int),(0:Int),x1,y.1)))
def mimage_appendImage (N:Nat) (x:Y6) (y:(Y3×Unit)):Option (Y6):=nimage_appendImage (iterV (gimage_appendImage_0 N) N) x y
theorem jz62 (N:Nat) (x:Y6) (y:(Y3×Unit)):riseO (Ez62) Tz62 6 N Tryz.f34 Z8 [.hole Z4] x y=nimage_appendImage (fun v=>iterR (flocO (Ez62) Tz62 6 N Tryz.f34 Z8 [.call 1 3 55] 0 nowhereR) N (ez62_0 v)) x y:=by kernel_rfl
theorem lz62 (N:Nat) (x:Y6) (y:(Y3×Unit)):riseO (Ez62) Tz62 6 N Tryz.f34 Z8 [.hole Z4] x y=mimage_appendImage N x y:=(jz62 N x y).trans (by rw [funext (iterR_eq ez62_0 (bz62_0 N) N)];rfl)
def cimage_appendImage (x:Y6) (y:(Y3×Unit)):Option (Y6):=mimage_appendImage big x y
@[reducible] def Oz62:OwnC:=⟨Z8,[.hole Z4],fun x y=>cimage_appendImage x y⟩
theorem Lz62:OwnOk Tryz.prog 34 Oz62:=own_of (c:=Oz62) (E:=Ez62) ⟨tabOk,fsNil2,fun _ _ _=>rfl,mixed,(inlCons (inlB_of Tryz.func55 rfl rfl (by kernel_rfl)) (inlCons (inlB_of Tryz.func57 rfl rfl (by kernel_rfl)) (inlCons (inlB_of Tryz.func59 rfl rfl (by kernel_rfl)) inlNil))),rcsNil,(owsCons Lz49 (owsCons Lz47 (owsCons Lz61 (owsCons Lz43 owsNil))))⟩ Tryz.func34 rfl (by decide) (by kernel_rfl) (by kernel_rfl) (fun x y z h=>⟨Tz62,6,big,(lz62 big x y).trans h⟩)
def Tz63:LT:={ live:=[],keep:=[] }
noncomputable def Ez63:Env2:={ tab:=tab,fs:=[(29,Gz40)],inl:=[],ow:=[(34,Oz62)] }
def nimage_Encode (x:Y3):Option (Y6×Int):=
 ((cimage_isValid x).bind fun x1=>(bif (!x1) then (some (([]:List Int),(8:Int))) else ((cimage_appendImage ([]:List Int) (x,())).bind fun x2=>(bif (decide ((List.length x2:Int) > (20000:Int))) then (some (([]:List Int),(4:Int))) else (some (x2,(0:Int)))))))
def mimage_Encode (N:Nat) (x:Y3):Option (Y6×Int):=nimage_Encode x
theorem jz63 (N:Nat) (x:Y3):rise (Ez63) Tz63 6 N Tryz.f20 [Z4] [Z11,Z2] [true,false] x=nimage_Encode x:=by kernel_rfl
theorem lz63 (N:Nat) (x:Y3):rise (Ez63) Tz63 6 N Tryz.f20 [Z4] [Z11,Z2] [true,false] x=mimage_Encode N x:=(jz63 N x).trans rfl
def cimage_Encode (x:Y3):Option (Y6×Int):=mimage_Encode big x
def Gz63:Fn2:=⟨[Z4],[Z11,Z2],[true,false],fun x=>cimage_Encode x⟩
theorem Lz63:Rises Tryz.prog 20 Gz63:=rises_of (E:=Ez63) ⟨tabOk,(fsCons2 Lz40 fsNil2),fun _ _ _=>rfl,mixed,inlNil,rcsNil,(owsCons Lz62 owsNil)⟩ Tryz.func20 rfl (by decide) (by kernel_rfl) (by kernel_rfl) (by kernel_rfl) (by kernel_rfl) (fun x r _ h=>⟨Tz63,6,big,(lz63 big x).trans h⟩)
def Tz64:LT:={ live:=[],keep:=[] }
noncomputable def Ez64:Env2:={ tab:=tab,fs:=[(20,Gz63)],inl:=[] }
def nimage_Check (x:Y3):Option (Int):=
 ((cimage_Encode x).bind fun x1=>(some x1.2))
def mimage_Check (N:Nat) (x:Y3):Option (Int):=nimage_Check x
theorem jz64 (N:Nat) (x:Y3):rise (Ez64) Tz64 6 N Tryz.f15 [Z4] [Z2] [false] x=nimage_Check x:=by kernel_rfl
theorem lz64 (N:Nat) (x:Y3):rise (Ez64) Tz64 6 N Tryz.f15 [Z4] [Z2] [false] x=mimage_Check N x:=(jz64 N x).trans rfl
def cimage_Check (x:Y3):Option (Int):=mimage_Check big x
def Gz64:Fn2:=⟨[Z4],[Z2],[false],fun x=>cimage_Check x⟩
theorem Lz64:Rises Tryz.prog 15 Gz64:=rises_of (E:=Ez64) ⟨tabOk,(fsCons2 Lz63 fsNil2),fun _ _ _=>rfl,mixed,inlNil,rcsNil,owsNil⟩ Tryz.func15 rfl (by decide) (by kernel_rfl) (by kernel_rfl) (by kernel_rfl) (by kernel_rfl) (fun x r _ h=>⟨Tz64,6,big,(lz64 big x).trans h⟩)
def Tz65:LT:={ live:=[],keep:=[] }
noncomputable def Ez65:Env2:={ tab:=tab,fs:=[(15,Gz64),(27,Gz23)],inl:=[] }
def nimage_Address (x:Y3×Int×Int):Option (Int×Int):=
 ((cimage_Check x.1).bind fun x1=>(bif (x1 != (0:Int)) then (some ((0:Int),x1)) else ((cimage_isIndex (x.2.1,(List.length x.1.2.2.1:Int))).bind fun x2=>(bif (!x2) then (some ((0:Int),(2:Int))) else ((getI x.1.2.2.1 x.2.1).bind fun x3=>((cimage_isIndex (x.2.2,(List.length x3.2.2.2.2.1:Int))).bind fun x4=>(bif (!x4) then (some ((0:Int),(2:Int))) else (let x5:Int:=(IntKind.u64.wrap ((IntKind.u64.wrap x.2.1)+(1:Int)));(let x6:Int:=(IntKind.u64.wrap ((256:Int) * x5));(let x7:Int:=(IntKind.u64.wrap (x6+(IntKind.u64.wrap x.2.2)));(some (x7,(0:Int)))))))))))))
def mimage_Address (N:Nat) (x:Y3×Int×Int):Option (Int×Int):=nimage_Address x
theorem jz65 (N:Nat) (x:Y3×Int×Int):rise (Ez65) Tz65 6 N Tryz.f10 [Z4,Z2,Z2] [(.int .u64),Z2] [false,false] x=nimage_Address x:=by kernel_rfl
theorem lz65 (N:Nat) (x:Y3×Int×Int):rise (Ez65) Tz65 6 N Tryz.f10 [Z4,Z2,Z2] [(.int .u64),Z2] [false,false] x=mimage_Address N x:=(jz65 N x).trans rfl
def cimage_Address (x:Y3×Int×Int):Option (Int×Int):=mimage_Address big x
def Gz65:Fn2:=⟨[Z4,Z2,Z2],[(.int .u64),Z2],[false,false],fun x=>cimage_Address x⟩
theorem Lz65:Rises Tryz.prog 10 Gz65:=rises_of (E:=Ez65) ⟨tabOk,(fsCons2 Lz64 (fsCons2 Lz23 fsNil2)),fun _ _ _=>rfl,mixed,inlNil,rcsNil,owsNil⟩ Tryz.func10 rfl (by decide) (by kernel_rfl) (by kernel_rfl) (by kernel_rfl) (by kernel_rfl) (fun x r _ h=>⟨Tz65,6,big,(lz65 big x).trans h⟩)
def Tz74:LT:={ live:=[],keep:=[] }
noncomputable def Ez74:Env2:={ tab:=tab,fs:=[],inl:=[] }
def nwire_valid (x:Y2):Option (Bool):=
 (bif (decide ((List.length x.1:Int)≤(200000:Int))) then (bif (decide (x.2.1≥(0:Int))) then (some (decide (x.2.1≤(List.length x.1:Int)))) else (some false)) else (some false))
def mwire_valid (N:Nat) (x:Y2):Option (Bool):=nwire_valid x
theorem jz74 (N:Nat) (x:Y2):rise (Ez74) Tz74 6 N Tryz.f138 [Z3] [.bool] [false] x=nwire_valid x:=by kernel_rfl
theorem lz74 (N:Nat) (x:Y2):rise (Ez74) Tz74 6 N Tryz.f138 [Z3] [.bool] [false] x=mwire_valid N x:=(jz74 N x).trans rfl
def cwire_valid (x:Y2):Option (Bool):=mwire_valid big x
def Gz74:Fn2:=⟨[Z3],[.bool],[false],fun x=>cwire_valid x⟩
theorem Lz74:Rises Tryz.prog 138 Gz74:=rises_of (E:=Ez74) ⟨tabOk,fsNil2,fun _ _ _=>rfl,mixed,inlNil,rcsNil,owsNil⟩ Tryz.func138 rfl (by decide) (by kernel_rfl) (by kernel_rfl) (by kernel_rfl) (by kernel_rfl) (fun x r _ h=>⟨Tz74,6,big,(lz74 big x).trans h⟩)
def Tz75:LT:={ live:=[],keep:=[] }
noncomputable def Ez75:Env2:={ tab:=tab,fs:=[],inl:=[] }
def nwire_left (x:Y2):Option (Int):=
 (let x1:Int:=(IntKind.i64.wrap ((List.length x.1:Int) - x.2.1));(some x1))
def mwire_left (N:Nat) (x:Y2):Option (Int):=nwire_left x
theorem jz75 (N:Nat) (x:Y2):rise (Ez75) Tz75 6 N Tryz.f142 [Z3] [Z2] [false] x=nwire_left x:=by kernel_rfl
theorem lz75 (N:Nat) (x:Y2):rise (Ez75) Tz75 6 N Tryz.f142 [Z3] [Z2] [false] x=mwire_left N x:=(jz75 N x).trans rfl
def cwire_left (x:Y2):Option (Int):=mwire_left big x
def Gz75:Fn2:=⟨[Z3],[Z2],[false],fun x=>cwire_left x⟩
theorem Lz75:Rises Tryz.prog 142 Gz75:=rises_of (E:=Ez75) ⟨tabOk,fsNil2,fun _ _ _=>rfl,mixed,inlNil,rcsNil,owsNil⟩ Tryz.func142 rfl (by decide) (by kernel_rfl) (by kernel_rfl) (by kernel_rfl) (by kernel_rfl) (fun x r _ h=>⟨Tz75,6,big,(lz75 big x).trans h⟩)
def Tz76:LT:={ live:=[],keep:=[] }
def Tz77:LT:={ live:=[],keep:=[] }
def Tz78:LT:={ live:=[(3,[0,4,10])],keep:=[(15,[0,4,5,10])] }
def Tz79:LT:={ live:=[],keep:=[(14,[1,2,4]),(15,[1,2,4])] }
noncomputable def Ez79:Env2:={ tab:=tab,fs:=[(138,Gz74),(142,Gz75)],inl:=[(139,Tryz.f139,Tz78),(140,Tryz.f140,Tz77),(160,Tryz.f160,Tz76)] }
noncomputable def ez79_0 (v:Int×Int×Y2×(Int×Unit)×Y6×Int):St:={ s:=[(0,(.clo 160 (.pair (.loc 0 []) .unit))),(4,(.val ⟨(.int .u64),v.1⟩)),(10,(.val ⟨Z2,v.2.1⟩))],l:=[(0,.var (.ptr Z3) (.loc 1 [])),(1,.var Z3 (.val ⟨Z3,v.2.2.1⟩)),(2,.var Z3 (.pair (.row 3) (.val ⟨(.pair Z2 .unit),v.2.2.2.1⟩))),(3,.row Z8 v.2.2.2.2.1)],k:=[(4096,[(1,(.val ⟨(.int .u64),v.2.2.2.2.2⟩)),(2,(.loc 1 [])),(4,(.loc 2 []))])],b:=16842752 }
def hwire_Unvary_0 (self0:Int×Int×Y2×(Int×Unit)×Y6×Int→Option (Y2×Int×Int)) (v:Int×Int×Y2×(Int×Unit)×Y6×Int):Option (Y2×Int×Int):=
 (bif (decide (v.2.1 < (10:Int))) then ((cwire_left v.2.2.1).bind fun x3=>(bif (x3==(0:Int)) then (let x4:Y2:=(([]:Y6),((0:Int),()));(some (x4,(0:Int),(24:Int)))) else ((getI v.2.2.1.1 v.2.2.1.2.1).bind fun x5=>(let x6:Int:=(IntKind.i64.wrap (v.2.2.1.2.1+(1:Int)));(let x7:Y2:=(v.2.2.1.1,(x6,v.2.2.1.2.2));(bif (decide (v.2.1 > (0:Int))) then (bif (v.2.1==(9:Int)) then (bif (x5==(0:Int)) then (let x8:Y2:=(([]:Y6),((0:Int),()));(some (x8,(0:Int),(12:Int)))) else (bif (decide (x5 > (1:Int))) then (let x9:Y2:=(([]:Y6),((0:Int),()));(some (x9,(0:Int),(12:Int)))) else (let x10:Int:=(IntKind.u64.wrap (x5.tmod (128:Int)));(let x11:Int:=(IntKind.i64.wrap ((7:Int) * v.2.1));(bif (decide (x11 < 0)) then none else (let x12:Int:=(IntKind.u64.wrap (x10 * 2 ^ (min (Int.toNat x11) 64)));(bif (decide (x5 < (128:Int))) then (bif (decide ((bits .or .u64 v.1 x12) > v.2.2.2.2.2)) then (let x13:Y2:=(([]:Y6),((0:Int),()));(some (x13,(0:Int),(4:Int)))) else (some (x7,(bits .or .u64 v.1 x12),(0:Int)))) else (let x14:Int:=(IntKind.i64.wrap (v.2.1+(1:Int)));(self0 ((bits .or .u64 v.1 x12),x14,x7,v.2.2.2.1,v.2.2.2.2.1,v.2.2.2.2.2)))))))))) else (bif (x5==(0:Int)) then (let x15:Y2:=(([]:Y6),((0:Int),()));(some (x15,(0:Int),(12:Int)))) else (let x16:Int:=(IntKind.u64.wrap (x5.tmod (128:Int)));(let x17:Int:=(IntKind.i64.wrap ((7:Int) * v.2.1));(bif (decide (x17 < 0)) then none else (let x18:Int:=(IntKind.u64.wrap (x16 * 2 ^ (min (Int.toNat x17) 64)));(bif (decide (x5 < (128:Int))) then (bif (decide ((bits .or .u64 v.1 x18) > v.2.2.2.2.2)) then (let x19:Y2:=(([]:Y6),((0:Int),()));(some (x19,(0:Int),(4:Int)))) else (some (x7,(bits .or .u64 v.1 x18),(0:Int)))) else (let x20:Int:=(IntKind.i64.wrap (v.2.1+(1:Int)));(self0 ((bits .or .u64 v.1 x18),x20,x7,v.2.2.2.1,v.2.2.2.2.1,v.2.2.2.2.2)))))))))) else (bif (v.2.1==(9:Int)) then (bif (decide (x5 > (1:Int))) then (let x21:Y2:=(([]:Y6),((0:Int),()));(some (x21,(0:Int),(12:Int)))) else (let x22:Int:=(IntKind.u64.wrap (x5.tmod (128:Int)));(let x23:Int:=(IntKind.i64.wrap ((7:Int) * v.2.1));(bif (decide (x23 < 0)) then none else (let x24:Int:=(IntKind.u64.wrap (x22 * 2 ^ (min (Int.toNat x23) 64)));(bif (decide (x5 < (128:Int))) then (bif (decide ((bits .or .u64 v.1 x24) > v.2.2.2.2.2)) then (let x25:Y2:=(([]:Y6),((0:Int),()));(some (x25,(0:Int),(4:Int)))) else (some (x7,(bits .or .u64 v.1 x24),(0:Int)))) else (let x26:Int:=(IntKind.i64.wrap (v.2.1+(1:Int)));(self0 ((bits .or .u64 v.1 x24),x26,x7,v.2.2.2.1,v.2.2.2.2.1,v.2.2.2.2.2))))))))) else (let x27:Int:=(IntKind.u64.wrap (x5.tmod (128:Int)));(let x28:Int:=(IntKind.i64.wrap ((7:Int) * v.2.1));(bif (decide (x28 < 0)) then none else (let x29:Int:=(IntKind.u64.wrap (x27 * 2 ^ (min (Int.toNat x28) 64)));(bif (decide (x5 < (128:Int))) then (bif (decide ((bits .or .u64 v.1 x29) > v.2.2.2.2.2)) then (let x30:Y2:=(([]:Y6),((0:Int),()));(some (x30,(0:Int),(4:Int)))) else (some (x7,(bits .or .u64 v.1 x29),(0:Int)))) else (let x31:Int:=(IntKind.i64.wrap (v.2.1+(1:Int)));(self0 ((bits .or .u64 v.1 x29),x31,x7,v.2.2.2.1,v.2.2.2.2.1,v.2.2.2.2.2))))))))))))))) else (let x32:Y2:=(([]:Y6),((0:Int),()));(some (x32,(0:Int),(12:Int)))))
def gwire_Unvary_0 (N:Nat) (self0:Int×Int×Y2×(Int×Unit)×Y6×Int→Option (Y2×Int×Int)) (v:Int×Int×Y2×(Int×Unit)×Y6×Int):Option (Y2×Int×Int):=hwire_Unvary_0 self0 v
theorem kz79_0 (N:Nat) (s0:St→Option (Y2×Int×Int)) (v):(floc (Ez79) Tz79 6 N Tryz.f116 [Z3,(.int .u64),Z2] [false,false,false] [.call 3 1 139] 0 nowhereR) s0 (ez79_0 v)=hwire_Unvary_0 (fun v=>s0 (ez79_0 v)) v:=by kernel_rfl
theorem bz79_0 (N:Nat) (s0:St→Option (Y2×Int×Int)) (v):(floc (Ez79) Tz79 6 N Tryz.f116 [Z3,(.int .u64),Z2] [false,false,false] [.call 3 1 139] 0 nowhereR) s0 (ez79_0 v)=gwire_Unvary_0 N (fun v=>s0 (ez79_0 v)) v:=kz79_0 N s0 v
def nwire_Unvary (loop0:Int×Int×Y2×(Int×Unit)×Y6×Int→Option (Y2×Int×Int)) (x:Y2×Int):Option (Y2×Int×Int):=
 ((cwire_valid x.1).bind fun x1=>(bif (!x1) then (let x2:Y2:=(([]:Y6),((0:Int),()));(some (x2,(0:Int),(8:Int)))) else (loop0 ((0:Int),(0:Int),x.1,((0:Int),()),([]:List Int),x.2))))
def mwire_Unvary (N:Nat) (x:Y2×Int):Option (Y2×Int×Int):=nwire_Unvary (iterV (gwire_Unvary_0 N) N) x
theorem jz79 (N:Nat) (x:Y2×Int):rise (Ez79) Tz79 6 N Tryz.f116 [Z3,(.int .u64)] [Z3,(.int .u64),Z2] [false,false,false] x=nwire_Unvary (fun v=>iterR (floc (Ez79) Tz79 6 N Tryz.f116 [Z3,(.int .u64),Z2] [false,false,false] [.call 3 1 139] 0 nowhereR) N (ez79_0 v)) x:=by kernel_rfl
theorem lz79 (N:Nat) (x:Y2×Int):rise (Ez79) Tz79 6 N Tryz.f116 [Z3,(.int .u64)] [Z3,(.int .u64),Z2] [false,false,false] x=mwire_Unvary N x:=(jz79 N x).trans (by rw [funext (iterR_eq ez79_0 (bz79_0 N) N)];rfl)
def cwire_Unvary (x:Y2×Int):Option (Y2×Int×Int):=mwire_Unvary big x
def Gz79:Fn2:=⟨[Z3,(.int .u64)],[Z3,(.int .u64),Z2],[false,false,false],fun x=>cwire_Unvary x⟩
theorem Lz79:Rises Tryz.prog 116 Gz79:=rises_of (E:=Ez79) ⟨tabOk,(fsCons2 Lz74 (fsCons2 Lz75 fsNil2)),fun _ _ _=>rfl,mixed,(inlCons (inlB_of Tryz.func139 rfl rfl (by kernel_rfl)) (inlCons (inlB_of Tryz.func140 rfl rfl (by kernel_rfl)) (inlCons (inlB_of Tryz.func160 rfl rfl (by kernel_rfl)) inlNil))),rcsNil,owsNil⟩ Tryz.func116 rfl (by decide) (by kernel_rfl) (by kernel_rfl) (by kernel_rfl) (by kernel_rfl) (fun x r _ h=>⟨Tz79,6,big,(lz79 big x).trans h⟩)
def Tz80:LT:={ live:=[],keep:=[] }
def Tz81:LT:={ live:=[],keep:=[(22,[6])] }
def Tz82:LT:={ live:=[(3,[0,2,7,14,15])],keep:=[] }
def Tz83:LT:={ live:=[],keep:=[] }
noncomputable def Ez83:Env2:={ tab:=tab,fs:=[],inl:=[] }
def nwire_isWidth (x:Int):Option (Bool):=
 (bif (x==(1:Int)) then (some true) else (bif (x==(2:Int)) then (some true) else (bif (x==(4:Int)) then (some true) else (some (x==(8:Int))))))
def mwire_isWidth (N:Nat) (x:Int):Option (Bool):=nwire_isWidth x
theorem jz83 (N:Nat) (x:Int):rise (Ez83) Tz83 6 N Tryz.f141 [Z2] [.bool] [false] x=nwire_isWidth x:=by kernel_rfl
theorem lz83 (N:Nat) (x:Int):rise (Ez83) Tz83 6 N Tryz.f141 [Z2] [.bool] [false] x=mwire_isWidth N x:=(jz83 N x).trans rfl
def cwire_isWidth (x:Int):Option (Bool):=mwire_isWidth big x
def Gz83:Fn2:=⟨[Z2],[.bool],[false],fun x=>cwire_isWidth x⟩
theorem Lz83:Rises Tryz.prog 141 Gz83:=rises_of (E:=Ez83) ⟨tabOk,fsNil2,fun _ _ _=>rfl,mixed,inlNil,rcsNil,owsNil⟩ Tryz.func141 rfl (by decide) (by kernel_rfl) (by kernel_rfl) (by kernel_rfl) (by kernel_rfl) (fun x r _ h=>⟨Tz83,6,big,(lz83 big x).trans h⟩)
def Tz84:LT:={ live:=[(9,[1,2,4,7,22,23])],keep:=[] }
noncomputable def Ez84:Env2:={ tab:=tab,fs:=[(138,Gz74),(141,Gz83),(142,Gz75)],inl:=[] }
noncomputable def ez84_0 (v:Int×Int×Int×Int×Y2×(Int×Unit)×Y6):St:={ s:=[(1,(.val ⟨Z2,v.1⟩)),(2,(.loc 0 [])),(4,(.loc 1 [])),(7,(.val ⟨(.int .u64),v.2.1⟩)),(22,(.val ⟨Z2,v.2.2.1⟩)),(23,(.val ⟨Z2,v.2.2.2.1⟩))],l:=[(0,.var Z3 (.val ⟨Z3,v.2.2.2.2.1⟩)),(1,.var Z3 (.pair (.row 2) (.val ⟨(.pair Z2 .unit),v.2.2.2.2.2.1⟩))),(2,.row Z8 v.2.2.2.2.2.2)],k:=[],b:=4096 }
def hwire_Unfixed_0 (self0:Int×Int×Int×Int×Y2×(Int×Unit)×Y6→Option (Y2×Int×Int)) (v:Int×Int×Int×Int×Y2×(Int×Unit)×Y6):Option (Y2×Int×Int):=
 (bif (decide (v.2.2.2.1 < v.2.2.1)) then (let x7:Int:=(IntKind.i64.wrap (v.2.2.2.2.1.2.1+v.2.2.2.1));((getI v.2.2.2.2.1.1 x7).bind fun x8=>(let x9:Int:=(IntKind.i64.wrap ((8:Int) * v.2.2.2.1));(bif (decide (x9 < 0)) then none else (let x10:Int:=(IntKind.u64.wrap ((IntKind.u64.wrap x8) * 2 ^ (min (Int.toNat x9) 64)));(let x11:Int:=(bits .or .u64 v.2.1 x10);(let x12:Int:=(IntKind.i64.wrap (v.2.2.2.1+(1:Int)));(self0 (v.1,x11,v.2.2.1,x12,v.2.2.2.2.1,v.2.2.2.2.2.1,v.2.2.2.2.2.2))))))))) else (let x13:Int:=(IntKind.i64.wrap (v.2.2.2.2.1.2.1+v.1));(let x14:Y2:=(v.2.2.2.2.1.1,(x13,v.2.2.2.2.1.2.2));(some (x14,v.2.1,(0:Int))))))
def gwire_Unfixed_0 (N:Nat) (self0:Int×Int×Int×Int×Y2×(Int×Unit)×Y6→Option (Y2×Int×Int)) (v:Int×Int×Int×Int×Y2×(Int×Unit)×Y6):Option (Y2×Int×Int):=hwire_Unfixed_0 self0 v
theorem kz84_0 (N:Nat) (s0:St→Option (Y2×Int×Int)) (v):(floc (Ez84) Tz84 6 N Tryz.f118 [Z3,(.int .u64),Z2] [false,false,false] [] 0 nowhereR) s0 (ez84_0 v)=hwire_Unfixed_0 (fun v=>s0 (ez84_0 v)) v:=by kernel_rfl
theorem bz84_0 (N:Nat) (s0:St→Option (Y2×Int×Int)) (v):(floc (Ez84) Tz84 6 N Tryz.f118 [Z3,(.int .u64),Z2] [false,false,false] [] 0 nowhereR) s0 (ez84_0 v)=gwire_Unfixed_0 N (fun v=>s0 (ez84_0 v)) v:=kz84_0 N s0 v
def nwire_Unfixed (loop0:Int×Int×Int×Int×Y2×(Int×Unit)×Y6→Option (Y2×Int×Int)) (x:Y2×Int):Option (Y2×Int×Int):=
 ((cwire_valid x.1).bind fun x1=>(bif (!x1) then (let x2:Y2:=(([]:Y6),((0:Int),()));(some (x2,(0:Int),(8:Int)))) else ((cwire_isWidth x.2).bind fun x3=>(bif (!x3) then (let x4:Y2:=(([]:Y6),((0:Int),()));(some (x4,(0:Int),(2:Int)))) else ((cwire_left x.1).bind fun x5=>(bif (decide (x5 < x.2)) then (let x6:Y2:=(([]:Y6),((0:Int),()));(some (x6,(0:Int),(24:Int)))) else (loop0 (x.2,(0:Int),x.2,(0:Int),x.1,((0:Int),()),([]:List Int)))))))))
def mwire_Unfixed (N:Nat) (x:Y2×Int):Option (Y2×Int×Int):=nwire_Unfixed (iterV (gwire_Unfixed_0 N) N) x
theorem jz84 (N:Nat) (x:Y2×Int):rise (Ez84) Tz84 6 N Tryz.f118 [Z3,Z2] [Z3,(.int .u64),Z2] [false,false,false] x=nwire_Unfixed (fun v=>iterR (floc (Ez84) Tz84 6 N Tryz.f118 [Z3,(.int .u64),Z2] [false,false,false] [] 0 nowhereR) N (ez84_0 v)) x:=by kernel_rfl
theorem lz84 (N:Nat) (x:Y2×Int):rise (Ez84) Tz84 6 N Tryz.f118 [Z3,Z2] [Z3,(.int .u64),Z2] [false,false,false] x=mwire_Unfixed N x:=(jz84 N x).trans (by rw [funext (iterR_eq ez84_0 (bz84_0 N) N)];rfl)
def cwire_Unfixed (x:Y2×Int):Option (Y2×Int×Int):=mwire_Unfixed big x
def Gz84:Fn2:=⟨[Z3,Z2],[Z3,(.int .u64),Z2],[false,false,false],fun x=>cwire_Unfixed x⟩
theorem Lz84:Rises Tryz.prog 118 Gz84:=rises_of (E:=Ez84) ⟨tabOk,(fsCons2 Lz74 (fsCons2 Lz83 (fsCons2 Lz75 fsNil2))),fun _ _ _=>rfl,mixed,inlNil,rcsNil,owsNil⟩ Tryz.func118 rfl (by decide) (by kernel_rfl) (by kernel_rfl) (by kernel_rfl) (by kernel_rfl) (fun x r _ h=>⟨Tz84,6,big,(lz84 big x).trans h⟩)
def Tz85:LT:={ live:=[],keep:=[(18,[4])] }
def Tz86:LT:={ live:=[(3,[0,2,7,14,15])],keep:=[] }
def Tz87:LT:={ live:=[],keep:=[] }
noncomputable def Ez87:Env2:={ tab:=tab,fs:=[(116,Gz79),(138,Gz74),(142,Gz75)],inl:=[] }
def nwire_Untext (x:Y2×Int):Option (Y2×Y6×Int):=
 ((cwire_valid x.1).bind fun x1=>(bif (!x1) then (let x2:Y2:=(([]:Y6),((0:Int),()));(some (x2,([]:List Int),(8:Int)))) else (bif (decide (x.2 < (0:Int))) then (let x3:Y2:=(([]:Y6),((0:Int),()));(some (x3,([]:List Int),(2:Int)))) else (bif (decide (x.2 > (200000:Int))) then (let x4:Y2:=(([]:Y6),((0:Int),()));(some (x4,([]:List Int),(2:Int)))) else ((cwire_Unvary (x.1,(IntKind.u64.wrap x.2))).bind fun x5=>(bif (x5.2.2 != (0:Int)) then (let x6:Y2:=(([]:Y6),((0:Int),()));(some (x6,([]:List Int),x5.2.2))) else ((cwire_left x5.1).bind fun x7=>(let x8:Int:=(IntKind.i64.wrap x5.2.1);(bif (decide (x7 < x8)) then (let x9:Y2:=(([]:Y6),((0:Int),()));(some (x9,([]:List Int),(24:Int)))) else (let x10:Int:=(IntKind.i64.wrap x5.2.1);(let x11:Int:=(IntKind.i64.wrap (x5.1.2.1+x10));(let x12:Y2:=(x5.1.1,(x11,x5.1.2.2));(bif (decide (0≤x5.1.2.1)&&(decide (x5.1.2.1≤x12.2.1)&&decide (x12.2.1≤(List.length x12.1:Int)))) then (let x13:Y6:=(List.drop (Int.toNat x5.1.2.1) (List.take (Int.toNat x12.2.1) x12.1));(some (x12,x13,(0:Int)))) else none)))))))))))))
def mwire_Untext (N:Nat) (x:Y2×Int):Option (Y2×Y6×Int):=nwire_Untext x
theorem jz87 (N:Nat) (x:Y2×Int):rise (Ez87) Tz87 6 N Tryz.f119 [Z3,Z2] [Z3,.str,Z2] [false,false,false] x=nwire_Untext x:=by kernel_rfl
theorem lz87 (N:Nat) (x:Y2×Int):rise (Ez87) Tz87 6 N Tryz.f119 [Z3,Z2] [Z3,.str,Z2] [false,false,false] x=mwire_Untext N x:=(jz87 N x).trans rfl
def cwire_Untext (x:Y2×Int):Option (Y2×Y6×Int):=mwire_Untext big x
def Gz87:Fn2:=⟨[Z3,Z2],[Z3,.str,Z2],[false,false,false],fun x=>cwire_Untext x⟩
theorem Lz87:Rises Tryz.prog 119 Gz87:=rises_of (E:=Ez87) ⟨tabOk,(fsCons2 Lz79 (fsCons2 Lz74 (fsCons2 Lz75 fsNil2))),fun _ _ _=>rfl,mixed,inlNil,rcsNil,owsNil⟩ Tryz.func119 rfl (by decide) (by kernel_rfl) (by kernel_rfl) (by kernel_rfl) (by kernel_rfl) (fun x r _ h=>⟨Tz87,6,big,(lz87 big x).trans h⟩)
def Tz88:LT:={ live:=[],keep:=[(21,[6])] }
def Tz89:LT:={ live:=[],keep:=[] }
def Tz90:LT:={ live:=[],keep:=[] }
def Tz91:LT:={ live:=[],keep:=[(26,[2,3])] }
def Tz92:LT:={ live:=[(3,[0,2,7,14,15])],keep:=[] }
def Tz93:LT:={ live:=[],keep:=[] }
def Tz94:LT:={ live:=[(3,[0,2,7,14,15])],keep:=[] }
def Tz95:LT:={ live:=[],keep:=[] }
noncomputable def Ez95:Env2:={ tab:=tab,fs:=[(116,Gz79)],inl:=[] }
def nwire_Unsigned (x:Y2):Option (Y2×Int×Int):=
 ((cwire_Unvary (x,(18446744073709551615:Int))).bind fun x1=>(bif (x1.2.2 != (0:Int)) then (let x2:Y2:=(([]:Y6),((0:Int),()));(some (x2,(0:Int),x1.2.2))) else (let x3:Int:=(IntKind.i64.wrap (x1.2.1.fdiv (2 ^ 1)));(let x4:Int:=(bits .and .u64 x1.2.1 (1:Int));(bif (x4==(1:Int)) then (let x5:Int:=(bits .xor .i64 (if IntKind.signed .i64 then -1 else IntKind.max .i64) x3);(some (x1.1,x5,(0:Int)))) else (some (x1.1,x3,(0:Int))))))))
def mwire_Unsigned (N:Nat) (x:Y2):Option (Y2×Int×Int):=nwire_Unsigned x
theorem jz95 (N:Nat) (x:Y2):rise (Ez95) Tz95 6 N Tryz.f120 [Z3] [Z3,Z2,Z2] [false,false,false] x=nwire_Unsigned x:=by kernel_rfl
theorem lz95 (N:Nat) (x:Y2):rise (Ez95) Tz95 6 N Tryz.f120 [Z3] [Z3,Z2,Z2] [false,false,false] x=mwire_Unsigned N x:=(jz95 N x).trans rfl
def cwire_Unsigned (x:Y2):Option (Y2×Int×Int):=mwire_Unsigned big x
def Gz95:Fn2:=⟨[Z3],[Z3,Z2,Z2],[false,false,false],fun x=>cwire_Unsigned x⟩
theorem Lz95:Rises Tryz.prog 120 Gz95:=rises_of (E:=Ez95) ⟨tabOk,(fsCons2 Lz79 fsNil2),fun _ _ _=>rfl,mixed,inlNil,rcsNil,owsNil⟩ Tryz.func120 rfl (by decide) (by kernel_rfl) (by kernel_rfl) (by kernel_rfl) (by kernel_rfl) (fun x r _ h=>⟨Tz95,6,big,(lz95 big x).trans h⟩)
def Tz96:LT:={ live:=[],keep:=[(18,[4])] }
def Tz97:LT:={ live:=[(3,[0,2,7,14,15])],keep:=[] }
def Tz98:LT:={ live:=[],keep:=[] }
noncomputable def Ez98:Env2:={ tab:=tab,fs:=[(116,Gz79),(120,Gz95),(159,Gz54)],inl:=[] }
def nops_readOperand (x:Y2×Int):Option (Y2×Int×Int):=
 ((cops_isSigned x.2).bind fun x1=>(bif x1 then ((cwire_Unsigned x.1).bind fun x2=>(some (x2.1,x2.2.1,x2.2.2))) else ((cwire_Unvary (x.1,(18446744073709551615:Int))).bind fun x3=>(let x4:Int:=(if (9223372036854775807:Int) < x3.2.1 then (9223372036854775807:Int) else x3.2.1);(some (x3.1,(IntKind.i64.wrap x4),x3.2.2))))))
def mops_readOperand (N:Nat) (x:Y2×Int):Option (Y2×Int×Int):=nops_readOperand x
theorem jz98 (N:Nat) (x:Y2×Int):rise (Ez98) Tz98 6 N Tryz.f144 [Z3,Z8] [Z3,Z2,Z2] [false,false,false] x=nops_readOperand x:=by kernel_rfl
theorem lz98 (N:Nat) (x:Y2×Int):rise (Ez98) Tz98 6 N Tryz.f144 [Z3,Z8] [Z3,Z2,Z2] [false,false,false] x=mops_readOperand N x:=(jz98 N x).trans rfl
def cops_readOperand (x:Y2×Int):Option (Y2×Int×Int):=mops_readOperand big x
def Gz98:Fn2:=⟨[Z3,Z8],[Z3,Z2,Z2],[false,false,false],fun x=>cops_readOperand x⟩
theorem Lz98:Rises Tryz.prog 144 Gz98:=rises_of (E:=Ez98) ⟨tabOk,(fsCons2 Lz79 (fsCons2 Lz95 (fsCons2 Lz54 fsNil2))),fun _ _ _=>rfl,mixed,inlNil,rcsNil,owsNil⟩ Tryz.func144 rfl (by decide) (by kernel_rfl) (by kernel_rfl) (by kernel_rfl) (by kernel_rfl) (fun x r _ h=>⟨Tz98,6,big,(lz98 big x).trans h⟩)
def Tz99:LT:={ live:=[(9,[1,2,3,7,8,33,34])],keep:=[] }
noncomputable def Ez99:Env2:={ tab:=tab,fs:=[(118,Gz84),(143,Gz27),(144,Gz98),(145,Gz31)],inl:=[] }
noncomputable def ez99_0 (v:Int×Y6×Int×Y2×(Int×Unit)×Y6×Y7×Y6):St:={ s:=[(1,(.loc 0 [])),(2,(.loc 1 [])),(3,(.loc 3 [])),(7,(.val ⟨Z8,v.1⟩)),(8,(.loc 4 [])),(33,(.val ⟨(.arr 3 Z8),v.2.1⟩)),(34,(.val ⟨Z2,v.2.2.1⟩))],l:=[(0,.var Z3 (.val ⟨Z3,v.2.2.2.1⟩)),(1,.var Z3 (.pair (.row 2) (.val ⟨(.pair Z2 .unit),v.2.2.2.2.1⟩))),(2,.row Z8 v.2.2.2.2.2.1),(3,.var Z5 (.val ⟨Z5,v.2.2.2.2.2.2.1⟩)),(4,.var (.arr 3 Z2) (.val ⟨(.arr 3 Z2),v.2.2.2.2.2.2.2⟩))],k:=[],b:=4096 }
def hops_Decode_0 (self0:Int×Y6×Int×Y2×(Int×Unit)×Y6×Y7×Y6→Option (Y2×Y7×Int)) (v:Int×Y6×Int×Y2×(Int×Unit)×Y6×Y7×Y6):Option (Y2×Y7×Int):=
 (bif (decide (v.2.2.1 < (3:Int))) then ((getI v.2.1 v.2.2.1).bind fun x8=>(bif (x8==(0:Int)) then (let x9:Int:=(IntKind.i64.wrap (v.2.2.1+(1:Int)));(self0 (v.1,v.2.1,x9,v.2.2.2.1,v.2.2.2.2.1,v.2.2.2.2.2.1,v.2.2.2.2.2.2.1,v.2.2.2.2.2.2.2))) else ((cops_readOperand (v.2.2.2.1,x8)).bind fun x10=>(bif (decide (0≤v.2.2.1)&&decide (v.2.2.1 < (3:Int))) then (let x11:Y6:=(List.set v.2.2.2.2.2.2.2 (Int.toNat v.2.2.1) x10.2.1);(bif (x10.2.2 != (0:Int)) then (let x12:Y2:=(([]:Y6),((0:Int),()));(let x13:Y7:=((0:Int),((0:Int),((0:Int),((0:Int),()))));(some (x12,x13,x10.2.2)))) else (let x14:Int:=(IntKind.i64.wrap (v.2.2.1+(1:Int)));(self0 (v.1,v.2.1,x14,x10.1,v.2.2.2.2.1,v.2.2.2.2.2.1,v.2.2.2.2.2.2.1,x11))))) else none)))) else (bif (decide (0≤(0:Int))&&decide ((0:Int) < (3:Int))) then ((nth v.2.2.2.2.2.2.2 (Int.toNat (0:Int))).bind fun x15=>(bif (decide (0≤(1:Int))&&decide ((1:Int) < (3:Int))) then ((nth v.2.2.2.2.2.2.2 (Int.toNat (1:Int))).bind fun x16=>(bif (decide (0≤(2:Int))&&decide ((2:Int) < (3:Int))) then ((nth v.2.2.2.2.2.2.2 (Int.toNat (2:Int))).bind fun x17=>(let x18:Y7:=(v.1,(x15,(x16,(x17,()))));((cops_Check x18).bind fun x19=>(bif (x19 != (0:Int)) then (let x20:Y2:=(([]:Y6),((0:Int),()));(let x21:Y7:=((0:Int),((0:Int),((0:Int),((0:Int),()))));(some (x20,x21,(12:Int))))) else (some (v.2.2.2.1,x18,(0:Int))))))) else none)) else none)) else none))
def gops_Decode_0 (N:Nat) (self0:Int×Y6×Int×Y2×(Int×Unit)×Y6×Y7×Y6→Option (Y2×Y7×Int)) (v:Int×Y6×Int×Y2×(Int×Unit)×Y6×Y7×Y6):Option (Y2×Y7×Int):=hops_Decode_0 self0 v
theorem kz99_0 (N:Nat) (s0:St→Option (Y2×Y7×Int)) (v):(floc (Ez99) Tz99 6 N Tryz.f121 [Z3,Z5,Z2] [false,false,false] [] 0 nowhereR) s0 (ez99_0 v)=hops_Decode_0 (fun v=>s0 (ez99_0 v)) v:=by kernel_rfl
theorem bz99_0 (N:Nat) (s0:St→Option (Y2×Y7×Int)) (v):(floc (Ez99) Tz99 6 N Tryz.f121 [Z3,Z5,Z2] [false,false,false] [] 0 nowhereR) s0 (ez99_0 v)=gops_Decode_0 N (fun v=>s0 (ez99_0 v)) v:=kz99_0 N s0 v
def nops_Decode (loop0:Int×Y6×Int×Y2×(Int×Unit)×Y6×Y7×Y6→Option (Y2×Y7×Int)) (x:Y2):Option (Y2×Y7×Int):=
 ((cwire_Unfixed (x,(1:Int))).bind fun x1=>(bif (x1.2.2 != (0:Int)) then (let x2:Y2:=(([]:Y6),((0:Int),()));(let x3:Y7:=((0:Int),((0:Int),((0:Int),((0:Int),()))));(some (x2,x3,x1.2.2)))) else ((cops_isOperation (IntKind.u8.wrap x1.2.1)).bind fun x4=>(bif (!x4) then (let x5:Y2:=(([]:Y6),((0:Int),()));(let x6:Y7:=((0:Int),((0:Int),((0:Int),((0:Int),()))));(some (x5,x6,(12:Int))))) else ((getI gl0 (IntKind.u8.wrap x1.2.1)).bind fun x7=>(loop0 ((IntKind.u8.wrap x1.2.1),x7.2.1,(0:Int),x1.1,((0:Int),()),([]:List Int),((0:Int),((0:Int),((0:Int),((0:Int),())))),(List.replicate 3 (0:Int)))))))))
def mops_Decode (N:Nat) (x:Y2):Option (Y2×Y7×Int):=nops_Decode (iterV (gops_Decode_0 N) N) x
theorem jz99 (N:Nat) (x:Y2):rise (Ez99) Tz99 6 N Tryz.f121 [Z3] [Z3,Z5,Z2] [false,false,false] x=nops_Decode (fun v=>iterR (floc (Ez99) Tz99 6 N Tryz.f121 [Z3,Z5,Z2] [false,false,false] [] 0 nowhereR) N (ez99_0 v)) x:=by kernel_rfl
theorem lz99 (N:Nat) (x:Y2):rise (Ez99) Tz99 6 N Tryz.f121 [Z3] [Z3,Z5,Z2] [false,false,false] x=mops_Decode N x:=(jz99 N x).trans (by rw [funext (iterR_eq ez99_0 (bz99_0 N) N)];rfl)
def cops_Decode (x:Y2):Option (Y2×Y7×Int):=mops_Decode big x
def Gz99:Fn2:=⟨[Z3],[Z3,Z5,Z2],[false,false,false],fun x=>cops_Decode x⟩
theorem Lz99:Rises Tryz.prog 121 Gz99:=rises_of (E:=Ez99) ⟨tabOk,(fsCons2 Lz84 (fsCons2 Lz27 (fsCons2 Lz98 (fsCons2 Lz31 fsNil2)))),fun _ _ _=>rfl,mixed,inlNil,rcsNil,owsNil⟩ Tryz.func121 rfl (by decide) (by kernel_rfl) (by kernel_rfl) (by kernel_rfl) (by kernel_rfl) (fun x r _ h=>⟨Tz99,6,big,(lz99 big x).trans h⟩)
def Tz100:LT:={ live:=[],keep:=[(18,[2,4])] }
def Tz101:LT:={ live:=[],keep:=[] }
noncomputable def Ez101:Env2:={ tab:=tab,fs:=[(138,Gz74),(142,Gz75)],inl:=[] }
def nwire_Left (x:Y2):Option (Int×Int):=
 ((cwire_valid x).bind fun x1=>(bif (!x1) then (some ((0:Int),(8:Int))) else ((cwire_left x).bind fun x2=>(some (x2,(0:Int))))))
def mwire_Left (N:Nat) (x:Y2):Option (Int×Int):=nwire_Left x
theorem jz101 (N:Nat) (x:Y2):rise (Ez101) Tz101 6 N Tryz.f146 [Z3] [Z2,Z2] [false,false] x=nwire_Left x:=by kernel_rfl
theorem lz101 (N:Nat) (x:Y2):rise (Ez101) Tz101 6 N Tryz.f146 [Z3] [Z2,Z2] [false,false] x=mwire_Left N x:=(jz101 N x).trans rfl
def cwire_Left (x:Y2):Option (Int×Int):=mwire_Left big x
def Gz101:Fn2:=⟨[Z3],[Z2,Z2],[false,false],fun x=>cwire_Left x⟩
theorem Lz101:Rises Tryz.prog 146 Gz101:=rises_of (E:=Ez101) ⟨tabOk,(fsCons2 Lz74 (fsCons2 Lz75 fsNil2)),fun _ _ _=>rfl,mixed,inlNil,rcsNil,owsNil⟩ Tryz.func146 rfl (by decide) (by kernel_rfl) (by kernel_rfl) (by kernel_rfl) (by kernel_rfl) (fun x r _ h=>⟨Tz101,6,big,(lz101 big x).trans h⟩)
def Tz102:LT:={ live:=[],keep:=[] }
noncomputable def Ez102:Env2:={ tab:=tab,fs:=[(116,Gz79)],inl:=[] }
def ntables_readRun (x:Y2×Int×Int):Option (Y2×Y4×Int):=
 ((cwire_Unvary (x.1,(18446744073709551615:Int))).bind fun x1=>(bif (x1.2.2 != (0:Int)) then (let x2:Y2:=(([]:Y6),((0:Int),()));(let x3:Y4:=((0:Int),((0:Int),()));(some (x2,x3,x1.2.2)))) else ((cwire_Unvary (x1.1,(18446744073709551615:Int))).bind fun x4=>(bif (x4.2.2 != (0:Int)) then (let x5:Y2:=(([]:Y6),((0:Int),()));(let x6:Y4:=((0:Int),((0:Int),()));(some (x5,x6,x4.2.2)))) else (let x7:Int:=(if (IntKind.u64.wrap x.2.2) < x1.2.1 then (IntKind.u64.wrap x.2.2) else x1.2.1);(let x8:Int:=(IntKind.i64.wrap (x.2.1+(IntKind.i64.wrap x7)));(some (x4.1,(x8,(x4.2.1,())),(0:Int)))))))))
def mtables_readRun (N:Nat) (x:Y2×Int×Int):Option (Y2×Y4×Int):=ntables_readRun x
theorem jz102 (N:Nat) (x:Y2×Int×Int):rise (Ez102) Tz102 6 N Tryz.f148 [Z3,Z2,Z2] [Z3,Z6,Z2] [false,false,false] x=ntables_readRun x:=by kernel_rfl
theorem lz102 (N:Nat) (x:Y2×Int×Int):rise (Ez102) Tz102 6 N Tryz.f148 [Z3,Z2,Z2] [Z3,Z6,Z2] [false,false,false] x=mtables_readRun N x:=(jz102 N x).trans rfl
def ctables_readRun (x:Y2×Int×Int):Option (Y2×Y4×Int):=mtables_readRun big x
def Gz102:Fn2:=⟨[Z3,Z2,Z2],[Z3,Z6,Z2],[false,false,false],fun x=>ctables_readRun x⟩
theorem Lz102:Rises Tryz.prog 148 Gz102:=rises_of (E:=Ez102) ⟨tabOk,(fsCons2 Lz79 fsNil2),fun _ _ _=>rfl,mixed,inlNil,rcsNil,owsNil⟩ Tryz.func148 rfl (by decide) (by kernel_rfl) (by kernel_rfl) (by kernel_rfl) (by kernel_rfl) (fun x r _ h=>⟨Tz102,6,big,(lz102 big x).trans h⟩)
def Tz103:LT:={ live:=[(12,[1,2,4,11,12,42,43])],keep:=[] }
noncomputable def Ez103 (mk:(α:Type)→Nat→α→List α):Env2:={ tab:=tab,fs:=[(116,Gz79),(126,Gz35),(146,Gz101),(147,Gz33),(148,Gz102)],inl:=[],rep:=mk }
noncomputable def ez103_0 (v:Int×Int×Int×Int×Y2×(Int×Unit)×Y6×Y10):St:={ s:=[(1,(.val ⟨Z2,v.1⟩)),(2,(.loc 0 [])),(4,(.loc 1 [])),(11,(.row 3)),(12,(.val ⟨Z2,v.2.1⟩)),(42,(.val ⟨Z2,v.2.2.1⟩)),(43,(.val ⟨Z2,v.2.2.2.1⟩))],l:=[(0,.var Z3 (.val ⟨Z3,v.2.2.2.2.1⟩)),(1,.var Z3 (.pair (.row 2) (.val ⟨(.pair Z2 .unit),v.2.2.2.2.2.1⟩))),(2,.row Z8 v.2.2.2.2.2.2.1),(3,.row Z6 v.2.2.2.2.2.2.2)],k:=[],b:=4096 }
def htables_Decode_0 (mk:(α:Type)→Nat→α→List α) (self0:Int×Int×Int×Int×Y2×(Int×Unit)×Y6×Y10→Option (Y2×Y10×Int)) (v:Int×Int×Int×Int×Y2×(Int×Unit)×Y6×Y10):Option (Y2×Y10×Int):=
 (bif (decide (v.2.2.2.1 < v.2.2.1)) then ((ctables_readRun (v.2.2.2.2.1,v.2.1,v.1)).bind fun x8=>(bif (decide (0≤v.2.2.2.1)&&decide (v.2.2.2.1 < (List.length v.2.2.2.2.2.2.2:Int))) then (let x9:Y10:=(List.set v.2.2.2.2.2.2.2 (Int.toNat v.2.2.2.1) x8.2.1);(bif (x8.2.2 != (0:Int)) then (let x10:Y2:=(([]:Y6),((0:Int),()));(some (x10,([]:List Y4),x8.2.2))) else (bif (decide (0≤v.2.2.2.1)&&decide (v.2.2.2.1 < (List.length x9:Int))) then ((nth x9 (Int.toNat v.2.2.2.1)).bind fun x11=>(let x12:Int:=(IntKind.i64.wrap (v.2.2.2.1+(1:Int)));(self0 (v.1,x11.1,v.2.2.1,x12,x8.1,v.2.2.2.2.2.1,v.2.2.2.2.2.2.1,x9)))) else none))) else none)) else ((ctables_Check (v.2.2.2.2.2.2.2,v.1)).bind fun x13=>(bif (x13 != (0:Int)) then (let x14:Y2:=(([]:Y6),((0:Int),()));(some (x14,([]:List Y4),(12:Int)))) else (some (v.2.2.2.2.1,v.2.2.2.2.2.2.2,(0:Int))))))
def gtables_Decode_0 (mk:(α:Type)→Nat→α→List α) (N:Nat) (self0:Int×Int×Int×Int×Y2×(Int×Unit)×Y6×Y10→Option (Y2×Y10×Int)) (v:Int×Int×Int×Int×Y2×(Int×Unit)×Y6×Y10):Option (Y2×Y10×Int):=htables_Decode_0 mk self0 v
theorem kz103_0 (mk:(α:Type)→Nat→α→List α) (N:Nat) (s0:St→Option (Y2×Y10×Int)) (v):(floc (Ez103 mk) Tz103 6 N Tryz.f122 [Z3,(.slice Z6),Z2] [false,true,false] [] 0 nowhereR) s0 (ez103_0 v)=htables_Decode_0 mk (fun v=>s0 (ez103_0 v)) v:=by kernel_rfl
theorem bz103_0 (mk:(α:Type)→Nat→α→List α) (N:Nat) (s0:St→Option (Y2×Y10×Int)) (v):(floc (Ez103 mk) Tz103 6 N Tryz.f122 [Z3,(.slice Z6),Z2] [false,true,false] [] 0 nowhereR) s0 (ez103_0 v)=gtables_Decode_0 mk N (fun v=>s0 (ez103_0 v)) v:=kz103_0 mk N s0 v
def ntables_Decode (mk:(α:Type)→Nat→α→List α) (loop0:Int×Int×Int×Int×Y2×(Int×Unit)×Y6×Y10→Option (Y2×Y10×Int)) (x:Y2×Int):Option (Y2×Y10×Int):=
 ((cwire_Left x.1).bind fun x1=>(bif (x1.2 != (0:Int)) then (let x2:Y2:=(([]:Y6),((0:Int),()));(some (x2,([]:List Y4),x1.2))) else ((ctables_isCount x.2).bind fun x3=>(bif (!x3) then (let x4:Y2:=(([]:Y6),((0:Int),()));(some (x4,([]:List Y4),(2:Int)))) else ((cwire_Unvary (x.1,(IntKind.u64.wrap x.2))).bind fun x5=>(bif (x5.2.2 != (0:Int)) then (let x6:Y2:=(([]:Y6),((0:Int),()));(some (x6,([]:List Y4),x5.2.2))) else (bif (decide (0≤x5.2.1)&&(decide (x5.2.1≤x5.2.1)&&(decide (x5.2.1≤68719476736)&&true))) then (let x7:Y10:=(mk Y4 (Int.toNat x5.2.1) ((0:Int),((0:Int),())));(loop0 (x.2,(0:Int),(List.length x7:Int),(0:Int),x5.1,((0:Int),()),([]:List Int),x7))) else none)))))))
def mtables_Decode (mk:(α:Type)→Nat→α→List α) (N:Nat) (x:Y2×Int):Option (Y2×Y10×Int):=ntables_Decode mk (iterV (gtables_Decode_0 mk N) N) x
theorem jz103 (mk:(α:Type)→Nat→α→List α) (N:Nat) (x:Y2×Int):rise (Ez103 mk) Tz103 6 N Tryz.f122 [Z3,Z2] [Z3,(.slice Z6),Z2] [false,true,false] x=ntables_Decode mk (fun v=>iterR (floc (Ez103 mk) Tz103 6 N Tryz.f122 [Z3,(.slice Z6),Z2] [false,true,false] [] 0 nowhereR) N (ez103_0 v)) x:=by kernel_rfl
theorem lz103 (mk:(α:Type)→Nat→α→List α) (N:Nat) (x:Y2×Int):rise (Ez103 mk) Tz103 6 N Tryz.f122 [Z3,Z2] [Z3,(.slice Z6),Z2] [false,true,false] x=mtables_Decode mk N x:=(jz103 mk N x).trans (by rw [funext (iterR_eq ez103_0 (bz103_0 mk N) N)];rfl)
def ctables_Decode (x:Y2×Int):Option (Y2×Y10×Int):=mtables_Decode (fun _=>List.replicate) big x
def Gz103:Fn2:=⟨[Z3,Z2],[Z3,(.slice Z6),Z2],[false,true,false],fun x=>ctables_Decode x⟩
theorem Lz103:Rises Tryz.prog 122 Gz103:=rises_of (E:=Ez103 (fun _=>List.replicate)) ⟨tabOk,(fsCons2 Lz79 (fsCons2 Lz35 (fsCons2 Lz101 (fsCons2 Lz33 (fsCons2 Lz102 fsNil2))))),fun _ _ _=>rfl,mixed,inlNil,rcsNil,owsNil⟩ Tryz.func122 rfl (by decide) (by kernel_rfl) (by kernel_rfl) (by kernel_rfl) (by kernel_rfl) (fun x r _ h=>⟨Tz103,6,big,(lz103 (fun _=>List.replicate) big x).trans h⟩)
def Tz104:LT:={ live:=[],keep:=[(21,[6])] }
def Tz105:LT:={ live:=[],keep:=[(14,[0,2,3]),(17,[0,2,3])] }
def Tz106:LT:={ live:=[],keep:=[(5,[0,2,3]),(8,[0,2,3]),(11,[2,3])] }
def Tz107:LT:={ live:=[],keep:=[(13,[0,2,4])] }
@[reducible] def Pz81 (me:Y15→Y9→Option (Y5×Int)):RecC:=⟨[.fix (.loc 0 []),.hole Z2],[.var Z9 (.hole Z9)],0,[Z2],me⟩
noncomputable def Ez81 (me:Y15→Y9→Option (Y5×Int)):Env2:={ tab:=tab,fs:=[(116,Gz79)],inl:=[(117,Tryz.f117,Tz80)],rcs:=[(78,Pz81 me)] }
def nimage_reader_number (me:Y15→Y9→Option (Y5×Int)) (y:Y9) (x:Y15):Option (Y5×Int):=
 ((cwire_Unvary (y.1.1,(IntKind.u64.wrap x.2.1))).bind fun x1=>(bif (x1.1,y.1.2).2.1 then (let x2:Y5:=((x1.1,y.1.2).1,(true,(x1.1,y.1.2).2.2));(let x3:Int:=(IntKind.i64.wrap x1.2.1);(some (x2,x3)))) else (let x4:Y5:=((x1.1,y.1.2).1,((x1.2.2 != (0:Int)),(x1.1,y.1.2).2.2));(let x5:Int:=(IntKind.i64.wrap x1.2.1);(some (x4,x5))))))
def mimage_reader_number (me:Y15→Y9→Option (Y5×Int)) (y:Y9) (N:Nat) (x:Y15):Option (Y5×Int):=nimage_reader_number me y x
theorem jz81 (me:Y15→Y9→Option (Y5×Int)) (y:Y9) (N:Nat) (x:Y15):riseR (Ez81 me) Tz81 6 N Tryz.f78 (Pz81 me) x y=nimage_reader_number me y x:=by kernel_rfl
theorem lz81 (me:Y15→Y9→Option (Y5×Int)) (y:Y9) (N:Nat) (x:Y15):riseR (Ez81 me) Tz81 6 N Tryz.f78 (Pz81 me) x y=mimage_reader_number me y N x:=(jz81 me y N x).trans rfl
def rimage_reader_number:Nat→Y15→Y9→Option (Y5×Int)
 | 0,_,_=>none
 | k+1,x,y=>mimage_reader_number (rimage_reader_number k) y big x
def cimage_reader_number (x:Y15) (y:Y9):Option (Y5×Int):=rimage_reader_number big x y
@[reducible] def Cz81:RecC:=Pz81 cimage_reader_number
theorem Rz81:∀ k,RecOk Tryz.prog 78 (Pz81 (rimage_reader_number k))
 | 0=>rec_none Tryz.func78 rfl (by decide)
 | k+1=>by
  have ih:=Rz81 k
  exact rec_of (E:=Ez81 (rimage_reader_number k)) ⟨tabOk,(fsCons2 Lz79 fsNil2),fun _ _ _=>rfl,mixed,(inlCons (inlB_of Tryz.func117 rfl rfl (by kernel_rfl)) inlNil),rcsCons ih rcsNil,owsNil⟩ Tryz.func78 rfl (by decide) (by kernel_rfl) (by kernel_rfl) (by kernel_rfl) (fun x y r h=>⟨Tz81,6,big,(lz81 (rimage_reader_number k) y big x).trans h⟩)
theorem Lz81:RecOk Tryz.prog 78 Cz81:=Rz81 big
@[reducible] def Pz85 (me:Y11→Y9→Option (Y5×Int)):RecC:=⟨[.fix (.loc 0 [])],[.var Z9 (.hole Z9)],0,[Z8],me⟩
noncomputable def Ez85 (me:Y11→Y9→Option (Y5×Int)):Env2:={ tab:=tab,fs:=[(118,Gz84)],inl:=[(117,Tryz.f117,Tz80)],rcs:=[(79,Pz85 me)] }
def nimage_reader_kind (me:Y11→Y9→Option (Y5×Int)) (y:Y9) (x:Y11):Option (Y5×Int):=
 ((cwire_Unfixed (y.1.1,(1:Int))).bind fun x1=>(bif (x1.1,y.1.2).2.1 then (let x2:Y5:=((x1.1,y.1.2).1,(true,(x1.1,y.1.2).2.2));(some (x2,(IntKind.u8.wrap x1.2.1)))) else (let x3:Y5:=((x1.1,y.1.2).1,((x1.2.2 != (0:Int)),(x1.1,y.1.2).2.2));(some (x3,(IntKind.u8.wrap x1.2.1))))))
def mimage_reader_kind (me:Y11→Y9→Option (Y5×Int)) (y:Y9) (N:Nat) (x:Y11):Option (Y5×Int):=nimage_reader_kind me y x
theorem jz85 (me:Y11→Y9→Option (Y5×Int)) (y:Y9) (N:Nat) (x:Y11):riseR (Ez85 me) Tz85 6 N Tryz.f79 (Pz85 me) x y=nimage_reader_kind me y x:=by kernel_rfl
theorem lz85 (me:Y11→Y9→Option (Y5×Int)) (y:Y9) (N:Nat) (x:Y11):riseR (Ez85 me) Tz85 6 N Tryz.f79 (Pz85 me) x y=mimage_reader_kind me y N x:=(jz85 me y N x).trans rfl
def rimage_reader_kind:Nat→Y11→Y9→Option (Y5×Int)
 | 0,_,_=>none
 | k+1,x,y=>mimage_reader_kind (rimage_reader_kind k) y big x
def cimage_reader_kind (x:Y11) (y:Y9):Option (Y5×Int):=rimage_reader_kind big x y
@[reducible] def Cz85:RecC:=Pz85 cimage_reader_kind
theorem Rz85:∀ k,RecOk Tryz.prog 79 (Pz85 (rimage_reader_kind k))
 | 0=>rec_none Tryz.func79 rfl (by decide)
 | k+1=>by
  have ih:=Rz85 k
  exact rec_of (E:=Ez85 (rimage_reader_kind k)) ⟨tabOk,(fsCons2 Lz84 fsNil2),fun _ _ _=>rfl,mixed,(inlCons (inlB_of Tryz.func117 rfl rfl (by kernel_rfl)) inlNil),rcsCons ih rcsNil,owsNil⟩ Tryz.func79 rfl (by decide) (by kernel_rfl) (by kernel_rfl) (by kernel_rfl) (fun x y r h=>⟨Tz85,6,big,(lz85 (rimage_reader_kind k) y big x).trans h⟩)
theorem Lz85:RecOk Tryz.prog 79 Cz85:=Rz85 big
@[reducible] def Pz88 (me:Y15→Y9→Option (Y5×Y6)):RecC:=⟨[.fix (.loc 0 []),.hole Z2],[.var Z9 (.hole Z9)],0,[.str],me⟩
noncomputable def Ez88 (me:Y15→Y9→Option (Y5×Y6)):Env2:={ tab:=tab,fs:=[(119,Gz87)],inl:=[(117,Tryz.f117,Tz80)],rcs:=[(82,Pz88 me)] }
def nimage_reader_upTo (me:Y15→Y9→Option (Y5×Y6)) (y:Y9) (x:Y15):Option (Y5×Y6):=
 ((cwire_Untext (y.1.1,x.2.1)).bind fun x1=>(bif (x1.1,y.1.2).2.1 then (let x2:Y5:=((x1.1,y.1.2).1,(true,(x1.1,y.1.2).2.2));(some (x2,x1.2.1))) else (let x3:Y5:=((x1.1,y.1.2).1,((x1.2.2 != (0:Int)),(x1.1,y.1.2).2.2));(some (x3,x1.2.1)))))
def mimage_reader_upTo (me:Y15→Y9→Option (Y5×Y6)) (y:Y9) (N:Nat) (x:Y15):Option (Y5×Y6):=nimage_reader_upTo me y x
theorem jz88 (me:Y15→Y9→Option (Y5×Y6)) (y:Y9) (N:Nat) (x:Y15):riseR (Ez88 me) Tz88 6 N Tryz.f82 (Pz88 me) x y=nimage_reader_upTo me y x:=by kernel_rfl
theorem lz88 (me:Y15→Y9→Option (Y5×Y6)) (y:Y9) (N:Nat) (x:Y15):riseR (Ez88 me) Tz88 6 N Tryz.f82 (Pz88 me) x y=mimage_reader_upTo me y N x:=(jz88 me y N x).trans rfl
def rimage_reader_upTo:Nat→Y15→Y9→Option (Y5×Y6)
 | 0,_,_=>none
 | k+1,x,y=>mimage_reader_upTo (rimage_reader_upTo k) y big x
def cimage_reader_upTo (x:Y15) (y:Y9):Option (Y5×Y6):=rimage_reader_upTo big x y
@[reducible] def Cz88:RecC:=Pz88 cimage_reader_upTo
theorem Rz88:∀ k,RecOk Tryz.prog 82 (Pz88 (rimage_reader_upTo k))
 | 0=>rec_none Tryz.func82 rfl (by decide)
 | k+1=>by
  have ih:=Rz88 k
  exact rec_of (E:=Ez88 (rimage_reader_upTo k)) ⟨tabOk,(fsCons2 Lz87 fsNil2),fun _ _ _=>rfl,mixed,(inlCons (inlB_of Tryz.func117 rfl rfl (by kernel_rfl)) inlNil),rcsCons ih rcsNil,owsNil⟩ Tryz.func82 rfl (by decide) (by kernel_rfl) (by kernel_rfl) (by kernel_rfl) (fun x y r h=>⟨Tz88,6,big,(lz88 (rimage_reader_upTo k) y big x).trans h⟩)
theorem Lz88:RecOk Tryz.prog 82 Cz88:=Rz88 big
@[reducible] def Pz89 (me:Y11→Y9→Option (Y5×Y6)):RecC:=⟨[.fix (.loc 0 [])],[.var Z9 (.hole Z9)],0,[.str],me⟩
noncomputable def Ez89 (me:Y11→Y9→Option (Y5×Y6)):Env2:={ tab:=tab,fs:=[],inl:=[],rcs:=[(82,Cz88),(83,Pz89 me)] }
def nimage_reader_name (me:Y11→Y9→Option (Y5×Y6)) (y:Y9) (x:Y11):Option (Y5×Y6):=
 ((cimage_reader_upTo ((),((16:Int),())) (y.1,())).bind fun x1=>(some (x1.1,x1.2)))
def mimage_reader_name (me:Y11→Y9→Option (Y5×Y6)) (y:Y9) (N:Nat) (x:Y11):Option (Y5×Y6):=nimage_reader_name me y x
theorem jz89 (me:Y11→Y9→Option (Y5×Y6)) (y:Y9) (N:Nat) (x:Y11):riseR (Ez89 me) Tz89 6 N Tryz.f83 (Pz89 me) x y=nimage_reader_name me y x:=by kernel_rfl
theorem lz89 (me:Y11→Y9→Option (Y5×Y6)) (y:Y9) (N:Nat) (x:Y11):riseR (Ez89 me) Tz89 6 N Tryz.f83 (Pz89 me) x y=mimage_reader_name me y N x:=(jz89 me y N x).trans rfl
def rimage_reader_name:Nat→Y11→Y9→Option (Y5×Y6)
 | 0,_,_=>none
 | k+1,x,y=>mimage_reader_name (rimage_reader_name k) y big x
def cimage_reader_name (x:Y11) (y:Y9):Option (Y5×Y6):=rimage_reader_name big x y
@[reducible] def Cz89:RecC:=Pz89 cimage_reader_name
theorem Rz89:∀ k,RecOk Tryz.prog 83 (Pz89 (rimage_reader_name k))
 | 0=>rec_none Tryz.func83 rfl (by decide)
 | k+1=>by
  have ih:=Rz89 k
  exact rec_of (E:=Ez89 (rimage_reader_name k)) ⟨tabOk,fsNil2,fun _ _ _=>rfl,mixed,inlNil,rcsCons Lz88 (rcsCons ih rcsNil),owsNil⟩ Tryz.func83 rfl (by decide) (by kernel_rfl) (by kernel_rfl) (by kernel_rfl) (fun x y r h=>⟨Tz89,6,big,(lz89 (rimage_reader_name k) y big x).trans h⟩)
theorem Lz89:RecOk Tryz.prog 83 Cz89:=Rz89 big
@[reducible] def Pz90 (me:Y11→Y9→Option (Y5×Y2)):RecC:=⟨[.fix (.loc 0 [])],[.var Z9 (.hole Z9)],0,[Z7],me⟩
noncomputable def Ez90 (me:Y11→Y9→Option (Y5×Y2)):Env2:={ tab:=tab,fs:=[],inl:=[],rcs:=[(78,Cz81),(83,Cz89),(81,Pz90 me)] }
def nimage_reader_field (me:Y11→Y9→Option (Y5×Y2)) (y:Y9) (x:Y11):Option (Y5×Y2):=
 ((cimage_reader_name ((),()) (y.1,())).bind fun x1=>(let x2:Y2:=(x1.2,(([]:List Int),((0:Int),())).2);((cimage_reader_number ((),((32:Int),())) (x1.1,())).bind fun x3=>(some (x3.1,(x2.1,(x3.2,x2.2.2)))))))
def mimage_reader_field (me:Y11→Y9→Option (Y5×Y2)) (y:Y9) (N:Nat) (x:Y11):Option (Y5×Y2):=nimage_reader_field me y x
theorem jz90 (me:Y11→Y9→Option (Y5×Y2)) (y:Y9) (N:Nat) (x:Y11):riseR (Ez90 me) Tz90 6 N Tryz.f81 (Pz90 me) x y=nimage_reader_field me y x:=by kernel_rfl
theorem lz90 (me:Y11→Y9→Option (Y5×Y2)) (y:Y9) (N:Nat) (x:Y11):riseR (Ez90 me) Tz90 6 N Tryz.f81 (Pz90 me) x y=mimage_reader_field me y N x:=(jz90 me y N x).trans rfl
def rimage_reader_field:Nat→Y11→Y9→Option (Y5×Y2)
 | 0,_,_=>none
 | k+1,x,y=>mimage_reader_field (rimage_reader_field k) y big x
def cimage_reader_field (x:Y11) (y:Y9):Option (Y5×Y2):=rimage_reader_field big x y
@[reducible] def Cz90:RecC:=Pz90 cimage_reader_field
theorem Rz90:∀ k,RecOk Tryz.prog 81 (Pz90 (rimage_reader_field k))
 | 0=>rec_none Tryz.func81 rfl (by decide)
 | k+1=>by
  have ih:=Rz90 k
  exact rec_of (E:=Ez90 (rimage_reader_field k)) ⟨tabOk,fsNil2,fun _ _ _=>rfl,mixed,inlNil,rcsCons Lz81 (rcsCons Lz89 (rcsCons ih rcsNil)),owsNil⟩ Tryz.func81 rfl (by decide) (by kernel_rfl) (by kernel_rfl) (by kernel_rfl) (fun x y r h=>⟨Tz90,6,big,(lz90 (rimage_reader_field k) y big x).trans h⟩)
theorem Lz90:RecOk Tryz.prog 81 Cz90:=Rz90 big
@[reducible] def Pz91 (me:Y11→Y9→Option (Y5×Y1)):RecC:=⟨[.fix (.loc 0 [])],[.var Z9 (.hole Z9)],0,[Z1],me⟩
noncomputable def Ez91 (me:Y11→Y9→Option (Y5×Y1)) (mk:(α:Type)→Nat→α→List α):Env2:={ tab:=tab,fs:=[],inl:=[(80,Tryz.f80,Tz86)],rep:=mk,rcs:=[(78,Cz81),(79,Cz85),(81,Cz90),(44,Pz91 me)] }
noncomputable def ez91_0 (v:Y22):St:={ s:=[(0,(.loc 0 [])),(2,(.clo 81 .unit)),(7,(.row 1)),(14,(.val ⟨Z2,v.1⟩)),(15,(.val ⟨Z2,v.2.1⟩))],l:=[(0,.var Z9 (.val ⟨Z9,v.2.2.1⟩)),(1,.row Z7 v.2.2.2.1),(2,.var Z1 (.pair (.val ⟨Z8,v.2.2.2.2.1⟩) (.pair (.val ⟨Z2,v.2.2.2.2.2.1⟩) (.pair (.val ⟨Z2,v.2.2.2.2.2.2.1⟩) (.pair (.row 3) (.val ⟨.unit,v.2.2.2.2.2.2.2.1⟩)))))),(3,.row Z7 v.2.2.2.2.2.2.2.2.1),(4,.var Z1 (.val ⟨Z1,v.2.2.2.2.2.2.2.2.2⟩))],k:=[(4096,[(2,(.loc 2 [])),(3,(.loc 4 []))]),(0,[(0,(.loc 0 []))])],b:=16887808 }
def himage_reader_typeOfTable_0 (me:Y11→Y9→Option (Y5×Y1)) (y:Y9) (mk:(α:Type)→Nat→α→List α) (self0:Y22→Option (Y5×Y1)) (v:Y22):Option (Y5×Y1):=
 (bif (decide (v.2.1 < v.1)) then ((cimage_reader_field ((),()) (v.2.2.1,())).bind fun x9=>(bif (decide (0≤v.2.1)&&decide (v.2.1 < (List.length v.2.2.2.1:Int))) then (let x10:Y12:=(List.set v.2.2.2.1 (Int.toNat v.2.1) x9.2);(let x11:Int:=(IntKind.i64.wrap (v.2.1+(1:Int)));(self0 (v.1,x11,x9.1,x10,v.2.2.2.2.1,v.2.2.2.2.2.1,v.2.2.2.2.2.2.1,v.2.2.2.2.2.2.2.1,v.2.2.2.2.2.2.2.2.1,v.2.2.2.2.2.2.2.2.2)))) else none)) else (some (v.2.2.1,(v.2.2.2.2.2.2.2.2.2.1,(v.2.2.2.2.2.2.2.2.2.2.1,(v.2.2.2.2.2.2.2.2.2.2.2.1,(v.2.2.2.1,v.2.2.2.2.2.2.2.2.2.2.2.2.2)))))))
def gimage_reader_typeOfTable_0 (me:Y11→Y9→Option (Y5×Y1)) (y:Y9) (mk:(α:Type)→Nat→α→List α) (N:Nat) (self0:Y22→Option (Y5×Y1)) (v:Y22):Option (Y5×Y1):=himage_reader_typeOfTable_0 me y mk self0 v
theorem kz91_0 (me:Y11→Y9→Option (Y5×Y1)) (y:Y9) (mk:(α:Type)→Nat→α→List α) (N:Nat) (s0:St→Option (Y5×Y1)) (v):(flocR (Ez91 me mk) Tz91 6 N Tryz.f44 (Pz91 me) y [.call 10 1 80] 0 nowhereR) s0 (ez91_0 v)=himage_reader_typeOfTable_0 me y mk (fun v=>s0 (ez91_0 v)) v:=by kernel_rfl
theorem bz91_0 (me:Y11→Y9→Option (Y5×Y1)) (y:Y9) (mk:(α:Type)→Nat→α→List α) (N:Nat) (s0:St→Option (Y5×Y1)) (v):(flocR (Ez91 me mk) Tz91 6 N Tryz.f44 (Pz91 me) y [.call 10 1 80] 0 nowhereR) s0 (ez91_0 v)=gimage_reader_typeOfTable_0 me y mk N (fun v=>s0 (ez91_0 v)) v:=kz91_0 me y mk N s0 v
def nimage_reader_typeOfTable (me:Y11→Y9→Option (Y5×Y1)) (y:Y9) (mk:(α:Type)→Nat→α→List α) (loop0:Y22→Option (Y5×Y1)) (x:Y11):Option (Y5×Y1):=
 ((cimage_reader_kind ((),()) (y.1,())).bind fun x1=>(let x2:Y1:=(x1.2,((0:Int),((0:Int),(([]:Y12),()))));(bif (x2.1==(4:Int)) then (bif (x2.1==(4:Int)) then ((cimage_reader_number ((),((32:Int),())) (x1.1,())).bind fun x3=>(some (x3.1,(x2.1,(x3.2,x2.2.2))))) else (bif (x2.1==(6:Int)) then ((cimage_reader_number ((),((32:Int),())) (x1.1,())).bind fun x4=>((cimage_reader_number ((),((16:Int),())) (x4.1,())).bind fun x5=>(let x6:Y1:=((x2.1,(x4.2,x2.2.2)).1,((x2.1,(x4.2,x2.2.2)).2.1,(x5.2,(x2.1,(x4.2,x2.2.2)).2.2.2)));(some (x5.1,x6))))) else (bif (x2.1==(5:Int)) then ((cimage_reader_number ((),((8:Int),())) (x1.1,())).bind fun x7=>(bif (decide (0≤x7.2)&&(decide (x7.2≤x7.2)&&(decide (x7.2≤68719476736)&&true))) then (let x8:Y12:=(mk Y2 (Int.toNat x7.2) (([]:List Int),((0:Int),())));(loop0 ((List.length x8:Int),(0:Int),x7.1,x8,(0:Int),(0:Int),(0:Int),(),([]:List Y2),x2))) else none)) else (some (x1.1,x2))))) else (bif (x2.1==(7:Int)) then ((cimage_reader_number ((),((32:Int),())) (x1.1,())).bind fun x12=>(some (x12.1,(x2.1,(x12.2,x2.2.2))))) else (bif (x2.1==(6:Int)) then ((cimage_reader_number ((),((32:Int),())) (x1.1,())).bind fun x13=>((cimage_reader_number ((),((16:Int),())) (x13.1,())).bind fun x14=>(let x15:Y1:=((x2.1,(x13.2,x2.2.2)).1,((x2.1,(x13.2,x2.2.2)).2.1,(x14.2,(x2.1,(x13.2,x2.2.2)).2.2.2)));(some (x14.1,x15))))) else (bif (x2.1==(5:Int)) then ((cimage_reader_number ((),((8:Int),())) (x1.1,())).bind fun x16=>(bif (decide (0≤x16.2)&&(decide (x16.2≤x16.2)&&(decide (x16.2≤68719476736)&&true))) then (let x17:Y12:=(mk Y2 (Int.toNat x16.2) (([]:List Int),((0:Int),())));(loop0 ((List.length x17:Int),(0:Int),x16.1,x17,(0:Int),(0:Int),(0:Int),(),([]:List Y2),x2))) else none)) else (some (x1.1,x2))))))))
def mimage_reader_typeOfTable (me:Y11→Y9→Option (Y5×Y1)) (y:Y9) (mk:(α:Type)→Nat→α→List α) (N:Nat) (x:Y11):Option (Y5×Y1):=nimage_reader_typeOfTable me y mk (iterV (gimage_reader_typeOfTable_0 me y mk N) N) x
theorem jz91 (me:Y11→Y9→Option (Y5×Y1)) (y:Y9) (mk:(α:Type)→Nat→α→List α) (N:Nat) (x:Y11):riseR (Ez91 me mk) Tz91 6 N Tryz.f44 (Pz91 me) x y=nimage_reader_typeOfTable me y mk (fun v=>iterR (flocR (Ez91 me mk) Tz91 6 N Tryz.f44 (Pz91 me) y [.call 10 1 80] 0 nowhereR) N (ez91_0 v)) x:=by kernel_rfl
theorem lz91 (me:Y11→Y9→Option (Y5×Y1)) (y:Y9) (mk:(α:Type)→Nat→α→List α) (N:Nat) (x:Y11):riseR (Ez91 me mk) Tz91 6 N Tryz.f44 (Pz91 me) x y=mimage_reader_typeOfTable me y mk N x:=(jz91 me y mk N x).trans (by rw [funext (iterR_eq ez91_0 (bz91_0 me y mk N) N)];rfl)
def rimage_reader_typeOfTable:Nat→Y11→Y9→Option (Y5×Y1)
 | 0,_,_=>none
 | k+1,x,y=>mimage_reader_typeOfTable (rimage_reader_typeOfTable k) y (fun _=>List.replicate) big x
def cimage_reader_typeOfTable (x:Y11) (y:Y9):Option (Y5×Y1):=rimage_reader_typeOfTable big x y
@[reducible] def Cz91:RecC:=Pz91 cimage_reader_typeOfTable
theorem Rz91:∀ k,RecOk Tryz.prog 44 (Pz91 (rimage_reader_typeOfTable k))
 | 0=>rec_none Tryz.func44 rfl (by decide)
 | k+1=>by
  have ih:=Rz91 k
  exact rec_of (E:=Ez91 (rimage_reader_typeOfTable k) (fun _=>List.replicate)) ⟨tabOk,fsNil2,fun _ _ _=>rfl,mixed,(inlCons (inlB_of Tryz.func80 rfl rfl (by kernel_rfl)) inlNil),rcsCons Lz81 (rcsCons Lz85 (rcsCons Lz90 (rcsCons ih rcsNil))),owsNil⟩ Tryz.func44 rfl (by decide) (by kernel_rfl) (by kernel_rfl) (by kernel_rfl) (fun x y r h=>⟨Tz91,6,big,(lz91 (rimage_reader_typeOfTable k) y (fun _=>List.replicate) big x).trans h⟩)
theorem Lz91:RecOk Tryz.prog 44 Cz91:=Rz91 big
@[reducible] def Pz93 (me:Y11→Y9→Option (Y5×Y6)):RecC:=⟨[.fix (.loc 0 [])],[.var Z9 (.hole Z9)],0,[.str],me⟩
noncomputable def Ez93 (me:Y11→Y9→Option (Y5×Y6)):Env2:={ tab:=tab,fs:=[],inl:=[],rcs:=[(82,Cz88),(46,Pz93 me)] }
def nimage_reader_text (me:Y11→Y9→Option (Y5×Y6)) (y:Y9) (x:Y11):Option (Y5×Y6):=
 ((cimage_reader_upTo ((),((64:Int),())) (y.1,())).bind fun x1=>(some (x1.1,x1.2)))
def mimage_reader_text (me:Y11→Y9→Option (Y5×Y6)) (y:Y9) (N:Nat) (x:Y11):Option (Y5×Y6):=nimage_reader_text me y x
theorem jz93 (me:Y11→Y9→Option (Y5×Y6)) (y:Y9) (N:Nat) (x:Y11):riseR (Ez93 me) Tz93 6 N Tryz.f46 (Pz93 me) x y=nimage_reader_text me y x:=by kernel_rfl
theorem lz93 (me:Y11→Y9→Option (Y5×Y6)) (y:Y9) (N:Nat) (x:Y11):riseR (Ez93 me) Tz93 6 N Tryz.f46 (Pz93 me) x y=mimage_reader_text me y N x:=(jz93 me y N x).trans rfl
def rimage_reader_text:Nat→Y11→Y9→Option (Y5×Y6)
 | 0,_,_=>none
 | k+1,x,y=>mimage_reader_text (rimage_reader_text k) y big x
def cimage_reader_text (x:Y11) (y:Y9):Option (Y5×Y6):=rimage_reader_text big x y
@[reducible] def Cz93:RecC:=Pz93 cimage_reader_text
theorem Rz93:∀ k,RecOk Tryz.prog 46 (Pz93 (rimage_reader_text k))
 | 0=>rec_none Tryz.func46 rfl (by decide)
 | k+1=>by
  have ih:=Rz93 k
  exact rec_of (E:=Ez93 (rimage_reader_text k)) ⟨tabOk,fsNil2,fun _ _ _=>rfl,mixed,inlNil,rcsCons Lz88 (rcsCons ih rcsNil),owsNil⟩ Tryz.func46 rfl (by decide) (by kernel_rfl) (by kernel_rfl) (by kernel_rfl) (fun x y r h=>⟨Tz93,6,big,(lz93 (rimage_reader_text k) y big x).trans h⟩)
theorem Lz93:RecOk Tryz.prog 46 Cz93:=Rz93 big
@[reducible] def Pz96 (me:Y11→Y9→Option (Y5×Int)):RecC:=⟨[.fix (.loc 0 [])],[.var Z9 (.hole Z9)],0,[Z2],me⟩
noncomputable def Ez96 (me:Y11→Y9→Option (Y5×Int)):Env2:={ tab:=tab,fs:=[(120,Gz95)],inl:=[(117,Tryz.f117,Tz80)],rcs:=[(84,Pz96 me)] }
def nimage_reader_signed (me:Y11→Y9→Option (Y5×Int)) (y:Y9) (x:Y11):Option (Y5×Int):=
 ((cwire_Unsigned y.1.1).bind fun x1=>(bif (x1.1,y.1.2).2.1 then (let x2:Y5:=((x1.1,y.1.2).1,(true,(x1.1,y.1.2).2.2));(some (x2,x1.2.1))) else (let x3:Y5:=((x1.1,y.1.2).1,((x1.2.2 != (0:Int)),(x1.1,y.1.2).2.2));(some (x3,x1.2.1)))))
def mimage_reader_signed (me:Y11→Y9→Option (Y5×Int)) (y:Y9) (N:Nat) (x:Y11):Option (Y5×Int):=nimage_reader_signed me y x
theorem jz96 (me:Y11→Y9→Option (Y5×Int)) (y:Y9) (N:Nat) (x:Y11):riseR (Ez96 me) Tz96 6 N Tryz.f84 (Pz96 me) x y=nimage_reader_signed me y x:=by kernel_rfl
theorem lz96 (me:Y11→Y9→Option (Y5×Int)) (y:Y9) (N:Nat) (x:Y11):riseR (Ez96 me) Tz96 6 N Tryz.f84 (Pz96 me) x y=mimage_reader_signed me y N x:=(jz96 me y N x).trans rfl
def rimage_reader_signed:Nat→Y11→Y9→Option (Y5×Int)
 | 0,_,_=>none
 | k+1,x,y=>mimage_reader_signed (rimage_reader_signed k) y big x
def cimage_reader_signed (x:Y11) (y:Y9):Option (Y5×Int):=rimage_reader_signed big x y
@[reducible] def Cz96:RecC:=Pz96 cimage_reader_signed
theorem Rz96:∀ k,RecOk Tryz.prog 84 (Pz96 (rimage_reader_signed k))
 | 0=>rec_none Tryz.func84 rfl (by decide)
 | k+1=>by
  have ih:=Rz96 k
  exact rec_of (E:=Ez96 (rimage_reader_signed k)) ⟨tabOk,(fsCons2 Lz95 fsNil2),fun _ _ _=>rfl,mixed,(inlCons (inlB_of Tryz.func117 rfl rfl (by kernel_rfl)) inlNil),rcsCons ih rcsNil,owsNil⟩ Tryz.func84 rfl (by decide) (by kernel_rfl) (by kernel_rfl) (by kernel_rfl) (fun x y r h=>⟨Tz96,6,big,(lz96 (rimage_reader_signed k) y big x).trans h⟩)
theorem Lz96:RecOk Tryz.prog 84 Cz96:=Rz96 big
@[reducible] def Pz100 (me:Y11→Y9→Option (Y5×Y7)):RecC:=⟨[.fix (.loc 0 [])],[.var Z9 (.hole Z9)],0,[Z5],me⟩
noncomputable def Ez100 (me:Y11→Y9→Option (Y5×Y7)):Env2:={ tab:=tab,fs:=[(121,Gz99)],inl:=[(117,Tryz.f117,Tz80)],rcs:=[(86,Pz100 me)] }
def nimage_reader_instr (me:Y11→Y9→Option (Y5×Y7)) (y:Y9) (x:Y11):Option (Y5×Y7):=
 ((cops_Decode y.1.1).bind fun x1=>(bif (x1.1,y.1.2).2.1 then (let x2:Y5:=((x1.1,y.1.2).1,(true,(x1.1,y.1.2).2.2));(some (x2,x1.2.1))) else (let x3:Y5:=((x1.1,y.1.2).1,((x1.2.2 != (0:Int)),(x1.1,y.1.2).2.2));(some (x3,x1.2.1)))))
def mimage_reader_instr (me:Y11→Y9→Option (Y5×Y7)) (y:Y9) (N:Nat) (x:Y11):Option (Y5×Y7):=nimage_reader_instr me y x
theorem jz100 (me:Y11→Y9→Option (Y5×Y7)) (y:Y9) (N:Nat) (x:Y11):riseR (Ez100 me) Tz100 6 N Tryz.f86 (Pz100 me) x y=nimage_reader_instr me y x:=by kernel_rfl
theorem lz100 (me:Y11→Y9→Option (Y5×Y7)) (y:Y9) (N:Nat) (x:Y11):riseR (Ez100 me) Tz100 6 N Tryz.f86 (Pz100 me) x y=mimage_reader_instr me y N x:=(jz100 me y N x).trans rfl
def rimage_reader_instr:Nat→Y11→Y9→Option (Y5×Y7)
 | 0,_,_=>none
 | k+1,x,y=>mimage_reader_instr (rimage_reader_instr k) y big x
def cimage_reader_instr (x:Y11) (y:Y9):Option (Y5×Y7):=rimage_reader_instr big x y
@[reducible] def Cz100:RecC:=Pz100 cimage_reader_instr
theorem Rz100:∀ k,RecOk Tryz.prog 86 (Pz100 (rimage_reader_instr k))
 | 0=>rec_none Tryz.func86 rfl (by decide)
 | k+1=>by
  have ih:=Rz100 k
  exact rec_of (E:=Ez100 (rimage_reader_instr k)) ⟨tabOk,(fsCons2 Lz99 fsNil2),fun _ _ _=>rfl,mixed,(inlCons (inlB_of Tryz.func117 rfl rfl (by kernel_rfl)) inlNil),rcsCons ih rcsNil,owsNil⟩ Tryz.func86 rfl (by decide) (by kernel_rfl) (by kernel_rfl) (by kernel_rfl) (fun x y r h=>⟨Tz100,6,big,(lz100 (rimage_reader_instr k) y big x).trans h⟩)
theorem Lz100:RecOk Tryz.prog 86 Cz100:=Rz100 big
@[reducible] def Pz104 (me:Y15→Y9→Option (Y5×Y10)):RecC:=⟨[.fix (.loc 0 []),.hole Z2],[.var Z9 (.hole Z9)],0,[(.slice Z6)],me⟩
noncomputable def Ez104 (me:Y15→Y9→Option (Y5×Y10)):Env2:={ tab:=tab,fs:=[(122,Gz103)],inl:=[(117,Tryz.f117,Tz80)],rcs:=[(87,Pz104 me)] }
def nimage_reader_runs (me:Y15→Y9→Option (Y5×Y10)) (y:Y9) (x:Y15):Option (Y5×Y10):=
 ((ctables_Decode (y.1.1,x.2.1)).bind fun x1=>(bif (x1.1,y.1.2).2.1 then (let x2:Y5:=((x1.1,y.1.2).1,(true,(x1.1,y.1.2).2.2));(some (x2,x1.2.1))) else (let x3:Y5:=((x1.1,y.1.2).1,((x1.2.2 != (0:Int)),(x1.1,y.1.2).2.2));(some (x3,x1.2.1)))))
def mimage_reader_runs (me:Y15→Y9→Option (Y5×Y10)) (y:Y9) (N:Nat) (x:Y15):Option (Y5×Y10):=nimage_reader_runs me y x
theorem jz104 (me:Y15→Y9→Option (Y5×Y10)) (y:Y9) (N:Nat) (x:Y15):riseR (Ez104 me) Tz104 6 N Tryz.f87 (Pz104 me) x y=nimage_reader_runs me y x:=by kernel_rfl
theorem lz104 (me:Y15→Y9→Option (Y5×Y10)) (y:Y9) (N:Nat) (x:Y15):riseR (Ez104 me) Tz104 6 N Tryz.f87 (Pz104 me) x y=mimage_reader_runs me y N x:=(jz104 me y N x).trans rfl
def rimage_reader_runs:Nat→Y15→Y9→Option (Y5×Y10)
 | 0,_,_=>none
 | k+1,x,y=>mimage_reader_runs (rimage_reader_runs k) y big x
def cimage_reader_runs (x:Y15) (y:Y9):Option (Y5×Y10):=rimage_reader_runs big x y
@[reducible] def Cz104:RecC:=Pz104 cimage_reader_runs
theorem Rz104:∀ k,RecOk Tryz.prog 87 (Pz104 (rimage_reader_runs k))
 | 0=>rec_none Tryz.func87 rfl (by decide)
 | k+1=>by
  have ih:=Rz104 k
  exact rec_of (E:=Ez104 (rimage_reader_runs k)) ⟨tabOk,(fsCons2 Lz103 fsNil2),fun _ _ _=>rfl,mixed,(inlCons (inlB_of Tryz.func117 rfl rfl (by kernel_rfl)) inlNil),rcsCons ih rcsNil,owsNil⟩ Tryz.func87 rfl (by decide) (by kernel_rfl) (by kernel_rfl) (by kernel_rfl) (fun x y r h=>⟨Tz104,6,big,(lz104 (rimage_reader_runs k) y big x).trans h⟩)
theorem Lz104:RecOk Tryz.prog 87 Cz104:=Rz104 big
@[reducible] def Pz105 (me:Y11→Y9→Option (Y5×Y0)):RecC:=⟨[.fix (.loc 0 [])],[.var Z9 (.hole Z9)],0,[Z0],me⟩
noncomputable def Ez105 (me:Y11→Y9→Option (Y5×Y0)) (mk:(α:Type)→Nat→α→List α):Env2:={ tab:=tab,fs:=[],inl:=[(80,Tryz.f80,Tz86),(85,Tryz.f85,Tz97)],rep:=mk,rcs:=[(78,Cz81),(81,Cz90),(83,Cz89),(84,Cz96),(86,Cz100),(87,Cz104),(48,Pz105 me)] }
noncomputable def ez105_1 (v:Y17):St:={ s:=[(0,(.loc 0 [])),(2,(.clo 86 .unit)),(7,(.row 1)),(14,(.val ⟨Z2,v.1⟩)),(15,(.val ⟨Z2,v.2.1⟩))],l:=[(0,.var Z9 (.val ⟨Z9,v.2.2.1⟩)),(1,.row Z5 v.2.2.2.1),(2,.var Z0 (.pair (.val ⟨.str,v.2.2.2.2.1⟩) (.pair (.val ⟨Z2,v.2.2.2.2.2.1⟩) (.pair (.val ⟨Z2,v.2.2.2.2.2.2.1⟩) (.pair (.row 3) (.pair (.row 4) (.pair (.row 5) (.pair (.row 6) (.val ⟨.unit,v.2.2.2.2.2.2.2.1⟩))))))))),(3,.row Z7 v.2.2.2.2.2.2.2.2.1),(4,.row Z5 v.2.2.2.2.2.2.2.2.2.1),(5,.row Z6 v.2.2.2.2.2.2.2.2.2.2.1),(6,.row Z6 v.2.2.2.2.2.2.2.2.2.2.2.1),(7,.var Z0 (.pair (.val ⟨.str,v.2.2.2.2.2.2.2.2.2.2.2.2.1⟩) (.pair (.val ⟨Z2,v.2.2.2.2.2.2.2.2.2.2.2.2.2.1⟩) (.pair (.val ⟨Z2,v.2.2.2.2.2.2.2.2.2.2.2.2.2.2.1⟩) (.pair (.row 8) (.pair (.row 9) (.pair (.row 10) (.pair (.row 11) (.val ⟨.unit,v.2.2.2.2.2.2.2.2.2.2.2.2.2.2.2.1⟩))))))))),(8,.row Z7 v.2.2.2.2.2.2.2.2.2.2.2.2.2.2.2.2.1),(9,.row Z5 v.2.2.2.2.2.2.2.2.2.2.2.2.2.2.2.2.2.1),(10,.row Z6 v.2.2.2.2.2.2.2.2.2.2.2.2.2.2.2.2.2.2.1),(11,.row Z6 v.2.2.2.2.2.2.2.2.2.2.2.2.2.2.2.2.2.2.2)],k:=[(4096,[(0,(.loc 0 [])),(2,(.loc 2 [])),(3,(.loc 7 []))]),(0,[(0,(.loc 0 []))])],b:=16850944 }
noncomputable def ez105_0 (v:Y18):St:={ s:=[(0,(.loc 0 [])),(2,(.clo 81 .unit)),(7,(.row 1)),(14,(.val ⟨Z2,v.1⟩)),(15,(.val ⟨Z2,v.2.1⟩))],l:=[(0,.var Z9 (.val ⟨Z9,v.2.2.1⟩)),(1,.row Z7 v.2.2.2.1),(2,.var Z0 (.pair (.val ⟨.str,v.2.2.2.2.1⟩) (.pair (.val ⟨Z2,v.2.2.2.2.2.1⟩) (.pair (.val ⟨Z2,v.2.2.2.2.2.2.1⟩) (.pair (.row 3) (.pair (.row 4) (.pair (.row 5) (.pair (.row 6) (.val ⟨.unit,v.2.2.2.2.2.2.2.1⟩))))))))),(3,.row Z7 v.2.2.2.2.2.2.2.2.1),(4,.row Z5 v.2.2.2.2.2.2.2.2.2.1),(5,.row Z6 v.2.2.2.2.2.2.2.2.2.2.1),(6,.row Z6 v.2.2.2.2.2.2.2.2.2.2.2.1),(7,.var Z0 (.pair (.val ⟨.str,v.2.2.2.2.2.2.2.2.2.2.2.2.1⟩) (.pair (.val ⟨Z2,v.2.2.2.2.2.2.2.2.2.2.2.2.2.1⟩) (.pair (.val ⟨Z2,v.2.2.2.2.2.2.2.2.2.2.2.2.2.2.1⟩) (.pair (.row 8) (.pair (.row 9) (.pair (.row 10) (.pair (.row 11) (.val ⟨.unit,v.2.2.2.2.2.2.2.2.2.2.2.2.2.2.2.1⟩))))))))),(8,.row Z7 v.2.2.2.2.2.2.2.2.2.2.2.2.2.2.2.2.1),(9,.row Z5 v.2.2.2.2.2.2.2.2.2.2.2.2.2.2.2.2.2.1),(10,.row Z6 v.2.2.2.2.2.2.2.2.2.2.2.2.2.2.2.2.2.2.1),(11,.row Z6 v.2.2.2.2.2.2.2.2.2.2.2.2.2.2.2.2.2.2.2)],k:=[(4096,[(0,(.loc 0 [])),(2,(.loc 2 [])),(3,(.loc 7 []))]),(0,[(0,(.loc 0 []))])],b:=16838656 }
def himage_reader_function_1 (me:Y11→Y9→Option (Y5×Y0)) (y:Y9) (mk:(α:Type)→Nat→α→List α) (self0:Y18→Option (Y5×Y0)) (self1:Y17→Option (Y5×Y0)) (v:Y17):Option (Y5×Y0):=
 (bif (decide (v.2.1 < v.1)) then ((cimage_reader_instr ((),()) (v.2.2.1,())).bind fun x11=>(bif (decide (0≤v.2.1)&&decide (v.2.1 < (List.length v.2.2.2.1:Int))) then (let x12:Y16:=(List.set v.2.2.2.1 (Int.toNat v.2.1) x11.2);(let x13:Int:=(IntKind.i64.wrap (v.2.1+(1:Int)));(self1 (v.1,x13,x11.1,x12,v.2.2.2.2.1,v.2.2.2.2.2.1,v.2.2.2.2.2.2.1,v.2.2.2.2.2.2.2.1,v.2.2.2.2.2.2.2.2.1,v.2.2.2.2.2.2.2.2.2.1,v.2.2.2.2.2.2.2.2.2.2.1,v.2.2.2.2.2.2.2.2.2.2.2.1,v.2.2.2.2.2.2.2.2.2.2.2.2.1,v.2.2.2.2.2.2.2.2.2.2.2.2.2.1,v.2.2.2.2.2.2.2.2.2.2.2.2.2.2.1,v.2.2.2.2.2.2.2.2.2.2.2.2.2.2.2.1,v.2.2.2.2.2.2.2.2.2.2.2.2.2.2.2.2.1,v.2.2.2.2.2.2.2.2.2.2.2.2.2.2.2.2.2.1,v.2.2.2.2.2.2.2.2.2.2.2.2.2.2.2.2.2.2.1,v.2.2.2.2.2.2.2.2.2.2.2.2.2.2.2.2.2.2.2)))) else none)) else ((cimage_reader_runs ((),((List.length v.2.2.2.1:Int),())) (v.2.2.1,())).bind fun x14=>((cimage_reader_runs ((),((List.length v.2.2.2.1:Int),())) (x14.1,())).bind fun x15=>(some (x15.1,(v.2.2.2.2.2.2.2.2.2.2.2.2.1,(v.2.2.2.2.2.2.2.2.2.2.2.2.2.1,(v.2.2.2.2.2.2.2.2.2.2.2.2.2.2.1,(v.2.2.2.2.2.2.2.2.2.2.2.2.2.2.2.2.1,(v.2.2.2.1,(x14.2,(x15.2,v.2.2.2.2.2.2.2.2.2.2.2.2.2.2.2.1))))))))))))
def gimage_reader_function_1 (me:Y11→Y9→Option (Y5×Y0)) (y:Y9) (mk:(α:Type)→Nat→α→List α) (N:Nat) (self0:Y18→Option (Y5×Y0)) (self1:Y17→Option (Y5×Y0)) (v:Y17):Option (Y5×Y0):=himage_reader_function_1 me y mk self0 self1 v
theorem kz105_1 (me:Y11→Y9→Option (Y5×Y0)) (y:Y9) (mk:(α:Type)→Nat→α→List α) (N:Nat) (s0:St→Option (Y5×Y0)) (s1:St→Option (Y5×Y0)) (v):(flocR (Ez105 me mk) Tz105 6 N Tryz.f48 (Pz105 me) y [.call 6 1 85] 0 nowhereR) s1 (ez105_1 v)=himage_reader_function_1 me y mk (fun v=>s0 (ez105_0 v)) (fun v=>s1 (ez105_1 v)) v:=by kernel_rfl
theorem bz105_1 (me:Y11→Y9→Option (Y5×Y0)) (y:Y9) (mk:(α:Type)→Nat→α→List α) (N:Nat) (s0:St→Option (Y5×Y0)) (s1:St→Option (Y5×Y0)) (v):(flocR (Ez105 me mk) Tz105 6 N Tryz.f48 (Pz105 me) y [.call 6 1 85] 0 nowhereR) s1 (ez105_1 v)=gimage_reader_function_1 me y mk N (fun v=>s0 (ez105_0 v)) (fun v=>s1 (ez105_1 v)) v:=kz105_1 me y mk N s0 s1 v
def himage_reader_function_0 (me:Y11→Y9→Option (Y5×Y0)) (y:Y9) (mk:(α:Type)→Nat→α→List α) (loop1:Y17→Option (Y5×Y0)) (self0:Y18→Option (Y5×Y0)) (v:Y18):Option (Y5×Y0):=
 (bif (decide (v.2.1 < v.1)) then ((cimage_reader_field ((),()) (v.2.2.1,())).bind fun x6=>(bif (decide (0≤v.2.1)&&decide (v.2.1 < (List.length v.2.2.2.1:Int))) then (let x7:Y12:=(List.set v.2.2.2.1 (Int.toNat v.2.1) x6.2);(let x8:Int:=(IntKind.i64.wrap (v.2.1+(1:Int)));(self0 (v.1,x8,x6.1,x7,v.2.2.2.2.1,v.2.2.2.2.2.1,v.2.2.2.2.2.2.1,v.2.2.2.2.2.2.2.1,v.2.2.2.2.2.2.2.2.1,v.2.2.2.2.2.2.2.2.2.1,v.2.2.2.2.2.2.2.2.2.2.1,v.2.2.2.2.2.2.2.2.2.2.2.1,v.2.2.2.2.2.2.2.2.2.2.2.2.1,v.2.2.2.2.2.2.2.2.2.2.2.2.2.1,v.2.2.2.2.2.2.2.2.2.2.2.2.2.2.1,v.2.2.2.2.2.2.2.2.2.2.2.2.2.2.2.1,v.2.2.2.2.2.2.2.2.2.2.2.2.2.2.2.2.1,v.2.2.2.2.2.2.2.2.2.2.2.2.2.2.2.2.2.1,v.2.2.2.2.2.2.2.2.2.2.2.2.2.2.2.2.2.2.1,v.2.2.2.2.2.2.2.2.2.2.2.2.2.2.2.2.2.2.2)))) else none)) else ((cimage_reader_number ((),((200:Int),())) (v.2.2.1,())).bind fun x9=>(bif (decide (0≤x9.2)&&(decide (x9.2≤x9.2)&&(decide (x9.2≤68719476736)&&true))) then (let x10:Y16:=(mk Y7 (Int.toNat x9.2) ((0:Int),((0:Int),((0:Int),((0:Int),())))));(loop1 ((List.length x10:Int),(0:Int),x9.1,x10,v.2.2.2.2.1,v.2.2.2.2.2.1,v.2.2.2.2.2.2.1,v.2.2.2.2.2.2.2.1,v.2.2.2.2.2.2.2.2.1,v.2.2.2.2.2.2.2.2.2.1,v.2.2.2.2.2.2.2.2.2.2.1,v.2.2.2.2.2.2.2.2.2.2.2.1,v.2.2.2.2.2.2.2.2.2.2.2.2.1,v.2.2.2.2.2.2.2.2.2.2.2.2.2.1,v.2.2.2.2.2.2.2.2.2.2.2.2.2.2.1,v.2.2.2.2.2.2.2.2.2.2.2.2.2.2.2.1,v.2.2.2.1,v.2.2.2.2.2.2.2.2.2.2.2.2.2.2.2.2.2.1,v.2.2.2.2.2.2.2.2.2.2.2.2.2.2.2.2.2.2.1,v.2.2.2.2.2.2.2.2.2.2.2.2.2.2.2.2.2.2.2))) else none)))
def gimage_reader_function_0 (me:Y11→Y9→Option (Y5×Y0)) (y:Y9) (mk:(α:Type)→Nat→α→List α) (N:Nat) (self0:Y18→Option (Y5×Y0)) (v:Y18):Option (Y5×Y0):=himage_reader_function_0 me y mk (iterV (gimage_reader_function_1 me y mk N self0) N) self0 v
theorem kz105_0 (me:Y11→Y9→Option (Y5×Y0)) (y:Y9) (mk:(α:Type)→Nat→α→List α) (N:Nat) (s0:St→Option (Y5×Y0)) (v):(flocR (Ez105 me mk) Tz105 6 N Tryz.f48 (Pz105 me) y [.call 5 1 80] 0 nowhereR) s0 (ez105_0 v)=himage_reader_function_0 me y mk (fun v=>iterR (flocR (Ez105 me mk) Tz105 6 N Tryz.f48 (Pz105 me) y [.call 6 1 85] 0 nowhereR) N (ez105_1 v)) (fun v=>s0 (ez105_0 v)) v:=by kernel_rfl
theorem bz105_0 (me:Y11→Y9→Option (Y5×Y0)) (y:Y9) (mk:(α:Type)→Nat→α→List α) (N:Nat) (s0:St→Option (Y5×Y0)) (v):(flocR (Ez105 me mk) Tz105 6 N Tryz.f48 (Pz105 me) y [.call 5 1 80] 0 nowhereR) s0 (ez105_0 v)=gimage_reader_function_0 me y mk N (fun v=>s0 (ez105_0 v)) v:=(kz105_0 me y mk N s0 v).trans (by rw [funext (iterR_eq ez105_1 (bz105_1 me y mk N s0) N)];rfl)
def nimage_reader_function (me:Y11→Y9→Option (Y5×Y0)) (y:Y9) (mk:(α:Type)→Nat→α→List α) (loop0:Y18→Option (Y5×Y0)) (x:Y11):Option (Y5×Y0):=
 ((cimage_reader_name ((),()) (y.1,())).bind fun x1=>((cimage_reader_number ((),((16:Int),())) (x1.1,())).bind fun x2=>((cimage_reader_signed ((),()) (x2.1,())).bind fun x3=>((cimage_reader_number ((),((16:Int),())) (x3.1,())).bind fun x4=>(bif (decide (0≤x4.2)&&(decide (x4.2≤x4.2)&&(decide (x4.2≤68719476736)&&true))) then (let x5:Y12:=(mk Y2 (Int.toNat x4.2) (([]:List Int),((0:Int),())));(loop0 ((List.length x5:Int),(0:Int),x4.1,x5,([]:List Int),(0:Int),(0:Int),(),([]:List Y2),([]:List Y7),([]:List Y4),([]:List Y4),x1.2,x2.2,x3.2,(),([]:List Y2),([]:List Y7),([]:List Y4),([]:List Y4)))) else none)))))
def mimage_reader_function (me:Y11→Y9→Option (Y5×Y0)) (y:Y9) (mk:(α:Type)→Nat→α→List α) (N:Nat) (x:Y11):Option (Y5×Y0):=nimage_reader_function me y mk (iterV (gimage_reader_function_0 me y mk N) N) x
theorem jz105 (me:Y11→Y9→Option (Y5×Y0)) (y:Y9) (mk:(α:Type)→Nat→α→List α) (N:Nat) (x:Y11):riseR (Ez105 me mk) Tz105 6 N Tryz.f48 (Pz105 me) x y=nimage_reader_function me y mk (fun v=>iterR (flocR (Ez105 me mk) Tz105 6 N Tryz.f48 (Pz105 me) y [.call 5 1 80] 0 nowhereR) N (ez105_0 v)) x:=by kernel_rfl
theorem lz105 (me:Y11→Y9→Option (Y5×Y0)) (y:Y9) (mk:(α:Type)→Nat→α→List α) (N:Nat) (x:Y11):riseR (Ez105 me mk) Tz105 6 N Tryz.f48 (Pz105 me) x y=mimage_reader_function me y mk N x:=(jz105 me y mk N x).trans (by rw [funext (iterR_eq ez105_0 (bz105_0 me y mk N) N)];rfl)
def rimage_reader_function:Nat→Y11→Y9→Option (Y5×Y0)
 | 0,_,_=>none
 | k+1,x,y=>mimage_reader_function (rimage_reader_function k) y (fun _=>List.replicate) big x
def cimage_reader_function (x:Y11) (y:Y9):Option (Y5×Y0):=rimage_reader_function big x y
@[reducible] def Cz105:RecC:=Pz105 cimage_reader_function
theorem Rz105:∀ k,RecOk Tryz.prog 48 (Pz105 (rimage_reader_function k))
 | 0=>rec_none Tryz.func48 rfl (by decide)
 | k+1=>by
  have ih:=Rz105 k
  exact rec_of (E:=Ez105 (rimage_reader_function k) (fun _=>List.replicate)) ⟨tabOk,fsNil2,fun _ _ _=>rfl,mixed,(inlCons (inlB_of Tryz.func80 rfl rfl (by kernel_rfl)) (inlCons (inlB_of Tryz.func85 rfl rfl (by kernel_rfl)) inlNil)),rcsCons Lz81 (rcsCons Lz90 (rcsCons Lz89 (rcsCons Lz96 (rcsCons Lz100 (rcsCons Lz104 (rcsCons ih rcsNil)))))),owsNil⟩ Tryz.func48 rfl (by decide) (by kernel_rfl) (by kernel_rfl) (by kernel_rfl) (fun x y r h=>⟨Tz105,6,big,(lz105 (rimage_reader_function k) y (fun _=>List.replicate) big x).trans h⟩)
theorem Lz105:RecOk Tryz.prog 48 Cz105:=Rz105 big
noncomputable def Ez107 (mk:(α:Type)→Nat→α→List α):Env2:={ tab:=tab,fs:=[(29,Gz40)],inl:=[(28,Tryz.f28,Tz106),(43,Tryz.f43,Tz82),(45,Tryz.f45,Tz92),(47,Tryz.f47,Tz94)],rep:=mk,rcs:=[(44,Cz91),(46,Cz93),(48,Cz105),(78,Cz81)] }
noncomputable def ez107_2 (v:Y19):St:={ s:=[(0,(.loc 0 [])),(2,(.clo 48 .unit)),(7,(.row 1)),(14,(.val ⟨Z2,v.1⟩)),(15,(.val ⟨Z2,v.2.1⟩))],l:=[(0,.var Z9 (.val ⟨Z9,v.2.2.1⟩)),(1,.row Z0 v.2.2.2.1),(2,.var Z4 (.pair (.row 3) (.pair (.row 4) (.pair (.row 5) (.val ⟨.unit,v.2.2.2.2.1⟩))))),(3,.row Z1 v.2.2.2.2.2.1),(4,.row .str v.2.2.2.2.2.2.1),(5,.row Z0 v.2.2.2.2.2.2.2.1),(6,.var Z4 (.pair (.row 7) (.pair (.row 8) (.pair (.row 9) (.val ⟨.unit,v.2.2.2.2.2.2.2.2.1⟩))))),(7,.row Z1 v.2.2.2.2.2.2.2.2.2.1),(8,.row .str v.2.2.2.2.2.2.2.2.2.2.1),(9,.row Z0 v.2.2.2.2.2.2.2.2.2.2.2.1),(10,.var Z4 (.pair (.row 11) (.pair (.row 12) (.pair (.row 13) (.val ⟨.unit,v.2.2.2.2.2.2.2.2.2.2.2.2.1⟩))))),(11,.row Z1 v.2.2.2.2.2.2.2.2.2.2.2.2.2.1),(12,.row .str v.2.2.2.2.2.2.2.2.2.2.2.2.2.2.1),(13,.row Z0 v.2.2.2.2.2.2.2.2.2.2.2.2.2.2.2.1)],k:=[(16834560,[(2,(.loc 2 [])),(3,(.loc 6 []))]),(4096,[(0,(.val ⟨Z11,v.2.2.2.2.2.2.2.2.2.2.2.2.2.2.2.2⟩)),(2,(.loc 10 [])),(4,(.loc 0 []))])],b:=68954406912 }
noncomputable def ez107_1 (v:Y20):St:={ s:=[(0,(.loc 0 [])),(2,(.clo 46 .unit)),(7,(.row 1)),(14,(.val ⟨Z2,v.1⟩)),(15,(.val ⟨Z2,v.2.1⟩))],l:=[(0,.var Z9 (.val ⟨Z9,v.2.2.1⟩)),(1,.row .str v.2.2.2.1),(2,.var Z4 (.pair (.row 3) (.pair (.row 4) (.pair (.row 5) (.val ⟨.unit,v.2.2.2.2.1⟩))))),(3,.row Z1 v.2.2.2.2.2.1),(4,.row .str v.2.2.2.2.2.2.1),(5,.row Z0 v.2.2.2.2.2.2.2.1),(6,.var Z4 (.pair (.row 7) (.pair (.row 8) (.pair (.row 9) (.val ⟨.unit,v.2.2.2.2.2.2.2.2.1⟩))))),(7,.row Z1 v.2.2.2.2.2.2.2.2.2.1),(8,.row .str v.2.2.2.2.2.2.2.2.2.2.1),(9,.row Z0 v.2.2.2.2.2.2.2.2.2.2.2.1),(10,.var Z4 (.pair (.row 11) (.pair (.row 12) (.pair (.row 13) (.val ⟨.unit,v.2.2.2.2.2.2.2.2.2.2.2.2.1⟩))))),(11,.row Z1 v.2.2.2.2.2.2.2.2.2.2.2.2.2.1),(12,.row .str v.2.2.2.2.2.2.2.2.2.2.2.2.2.2.1),(13,.row Z0 v.2.2.2.2.2.2.2.2.2.2.2.2.2.2.2.1)],k:=[(16834560,[(0,(.loc 0 [])),(2,(.loc 2 [])),(3,(.loc 6 []))]),(4096,[(0,(.val ⟨Z11,v.2.2.2.2.2.2.2.2.2.2.2.2.2.2.2.2⟩)),(2,(.loc 10 [])),(4,(.loc 0 []))])],b:=68954394624 }
noncomputable def ez107_0 (v:Y21):St:={ s:=[(0,(.loc 0 [])),(2,(.clo 44 .unit)),(7,(.row 1)),(14,(.val ⟨Z2,v.1⟩)),(15,(.val ⟨Z2,v.2.1⟩))],l:=[(0,.var Z9 (.val ⟨Z9,v.2.2.1⟩)),(1,.row Z1 v.2.2.2.1),(2,.var Z4 (.pair (.row 3) (.pair (.row 4) (.pair (.row 5) (.val ⟨.unit,v.2.2.2.2.1⟩))))),(3,.row Z1 v.2.2.2.2.2.1),(4,.row .str v.2.2.2.2.2.2.1),(5,.row Z0 v.2.2.2.2.2.2.2.1),(6,.var Z4 (.pair (.row 7) (.pair (.row 8) (.pair (.row 9) (.val ⟨.unit,v.2.2.2.2.2.2.2.2.1⟩))))),(7,.row Z1 v.2.2.2.2.2.2.2.2.2.1),(8,.row .str v.2.2.2.2.2.2.2.2.2.2.1),(9,.row Z0 v.2.2.2.2.2.2.2.2.2.2.2.1),(10,.var Z4 (.pair (.row 11) (.pair (.row 12) (.pair (.row 13) (.val ⟨.unit,v.2.2.2.2.2.2.2.2.2.2.2.2.1⟩))))),(11,.row Z1 v.2.2.2.2.2.2.2.2.2.2.2.2.2.1),(12,.row .str v.2.2.2.2.2.2.2.2.2.2.2.2.2.2.1),(13,.row Z0 v.2.2.2.2.2.2.2.2.2.2.2.2.2.2.2.1)],k:=[(16834560,[(0,(.loc 0 [])),(2,(.loc 2 [])),(3,(.loc 6 []))]),(4096,[(0,(.val ⟨Z11,v.2.2.2.2.2.2.2.2.2.2.2.2.2.2.2.2⟩)),(2,(.loc 10 [])),(4,(.loc 0 []))])],b:=68954382336 }
def himage_Decode_2 (mk:(α:Type)→Nat→α→List α) (self0:Y21→Option (Y3×Int)) (self1:Y20→Option (Y3×Int)) (self2:Y19→Option (Y3×Int)) (v:Y19):Option (Y3×Int):=
 (bif (decide (v.2.1 < v.1)) then ((cimage_reader_function ((),()) (v.2.2.1,())).bind fun x15=>(bif (decide (0≤v.2.1)&&decide (v.2.1 < (List.length v.2.2.2.1:Int))) then (let x16:Y14:=(List.set v.2.2.2.1 (Int.toNat v.2.1) x15.2);(let x17:Int:=(IntKind.i64.wrap (v.2.1+(1:Int)));(self2 (v.1,x17,x15.1,x16,v.2.2.2.2.1,v.2.2.2.2.2.1,v.2.2.2.2.2.2.1,v.2.2.2.2.2.2.2.1,v.2.2.2.2.2.2.2.2.1,v.2.2.2.2.2.2.2.2.2.1,v.2.2.2.2.2.2.2.2.2.2.1,v.2.2.2.2.2.2.2.2.2.2.2.1,v.2.2.2.2.2.2.2.2.2.2.2.2.1,v.2.2.2.2.2.2.2.2.2.2.2.2.2.1,v.2.2.2.2.2.2.2.2.2.2.2.2.2.2.1,v.2.2.2.2.2.2.2.2.2.2.2.2.2.2.2.1,v.2.2.2.2.2.2.2.2.2.2.2.2.2.2.2.2)))) else none)) else (bif v.2.2.1.2.1 then (let x18:Y3:=(([]:Y8),(([]:Y13),(([]:Y14),())));(some (x18,(12:Int)))) else (bif (v.2.2.1.1.2.1 != (List.length v.2.2.2.2.2.2.2.2.2.2.2.2.2.2.2.2:Int)) then (let x19:Y3:=(([]:Y8),(([]:Y13),(([]:Y14),())));(some (x19,(12:Int)))) else ((cimage_isValid (v.2.2.2.2.2.2.2.2.2.1,(v.2.2.2.2.2.2.2.2.2.2.1,(v.2.2.2.1,v.2.2.2.2.2.2.2.2.1)))).bind fun x20=>(bif (!x20) then (let x21:Y3:=(([]:Y8),(([]:Y13),(([]:Y14),())));(some (x21,(12:Int)))) else (some ((v.2.2.2.2.2.2.2.2.2.1,(v.2.2.2.2.2.2.2.2.2.2.1,(v.2.2.2.1,v.2.2.2.2.2.2.2.2.1))),(0:Int))))))))
def gimage_Decode_2 (mk:(α:Type)→Nat→α→List α) (N:Nat) (self0:Y21→Option (Y3×Int)) (self1:Y20→Option (Y3×Int)) (self2:Y19→Option (Y3×Int)) (v:Y19):Option (Y3×Int):=himage_Decode_2 mk self0 self1 self2 v
theorem kz107_2 (mk:(α:Type)→Nat→α→List α) (N:Nat) (s0:St→Option (Y3×Int)) (s1:St→Option (Y3×Int)) (s2:St→Option (Y3×Int)) (v):(floc (Ez107 mk) Tz107 6 N Tryz.f13 [Z4,Z2] [false,false] [.call 4 0 28,.call 4 1 47] 0 nowhereR) s2 (ez107_2 v)=himage_Decode_2 mk (fun v=>s0 (ez107_0 v)) (fun v=>s1 (ez107_1 v)) (fun v=>s2 (ez107_2 v)) v:=by kernel_rfl
theorem bz107_2 (mk:(α:Type)→Nat→α→List α) (N:Nat) (s0:St→Option (Y3×Int)) (s1:St→Option (Y3×Int)) (s2:St→Option (Y3×Int)) (v):(floc (Ez107 mk) Tz107 6 N Tryz.f13 [Z4,Z2] [false,false] [.call 4 0 28,.call 4 1 47] 0 nowhereR) s2 (ez107_2 v)=gimage_Decode_2 mk N (fun v=>s0 (ez107_0 v)) (fun v=>s1 (ez107_1 v)) (fun v=>s2 (ez107_2 v)) v:=kz107_2 mk N s0 s1 s2 v
def himage_Decode_1 (mk:(α:Type)→Nat→α→List α) (loop2:Y19→Option (Y3×Int)) (self0:Y21→Option (Y3×Int)) (self1:Y20→Option (Y3×Int)) (v:Y20):Option (Y3×Int):=
 (bif (decide (v.2.1 < v.1)) then ((cimage_reader_text ((),()) (v.2.2.1,())).bind fun x10=>(bif (decide (0≤v.2.1)&&decide (v.2.1 < (List.length v.2.2.2.1:Int))) then (let x11:Y13:=(List.set v.2.2.2.1 (Int.toNat v.2.1) x10.2);(let x12:Int:=(IntKind.i64.wrap (v.2.1+(1:Int)));(self1 (v.1,x12,x10.1,x11,v.2.2.2.2.1,v.2.2.2.2.2.1,v.2.2.2.2.2.2.1,v.2.2.2.2.2.2.2.1,v.2.2.2.2.2.2.2.2.1,v.2.2.2.2.2.2.2.2.2.1,v.2.2.2.2.2.2.2.2.2.2.1,v.2.2.2.2.2.2.2.2.2.2.2.1,v.2.2.2.2.2.2.2.2.2.2.2.2.1,v.2.2.2.2.2.2.2.2.2.2.2.2.2.1,v.2.2.2.2.2.2.2.2.2.2.2.2.2.2.1,v.2.2.2.2.2.2.2.2.2.2.2.2.2.2.2.1,v.2.2.2.2.2.2.2.2.2.2.2.2.2.2.2.2)))) else none)) else ((cimage_reader_number ((),((32:Int),())) (v.2.2.1,())).bind fun x13=>(bif (decide (0≤x13.2)&&(decide (x13.2≤x13.2)&&(decide (x13.2≤68719476736)&&true))) then (let x14:Y14:=(mk Y0 (Int.toNat x13.2) (([]:List Int),((0:Int),((0:Int),(([]:Y12),(([]:Y16),(([]:Y10),(([]:Y10),()))))))));(loop2 ((List.length x14:Int),(0:Int),x13.1,x14,v.2.2.2.2.1,v.2.2.2.2.2.1,v.2.2.2.2.2.2.1,v.2.2.2.2.2.2.2.1,v.2.2.2.2.2.2.2.2.1,v.2.2.2.2.2.2.2.2.2.1,v.2.2.2.1,v.2.2.2.2.2.2.2.2.2.2.2.1,v.2.2.2.2.2.2.2.2.2.2.2.2.1,v.2.2.2.2.2.2.2.2.2.2.2.2.2.1,v.2.2.2.2.2.2.2.2.2.2.2.2.2.2.1,v.2.2.2.2.2.2.2.2.2.2.2.2.2.2.2.1,v.2.2.2.2.2.2.2.2.2.2.2.2.2.2.2.2))) else none)))
def gimage_Decode_1 (mk:(α:Type)→Nat→α→List α) (N:Nat) (self0:Y21→Option (Y3×Int)) (self1:Y20→Option (Y3×Int)) (v:Y20):Option (Y3×Int):=himage_Decode_1 mk (iterV (gimage_Decode_2 mk N self0 self1) N) self0 self1 v
theorem kz107_1 (mk:(α:Type)→Nat→α→List α) (N:Nat) (s0:St→Option (Y3×Int)) (s1:St→Option (Y3×Int)) (v):(floc (Ez107 mk) Tz107 6 N Tryz.f13 [Z4,Z2] [false,false] [.call 4 0 28,.call 3 1 45] 0 nowhereR) s1 (ez107_1 v)=himage_Decode_1 mk (fun v=>iterR (floc (Ez107 mk) Tz107 6 N Tryz.f13 [Z4,Z2] [false,false] [.call 4 0 28,.call 4 1 47] 0 nowhereR) N (ez107_2 v)) (fun v=>s0 (ez107_0 v)) (fun v=>s1 (ez107_1 v)) v:=by kernel_rfl
theorem bz107_1 (mk:(α:Type)→Nat→α→List α) (N:Nat) (s0:St→Option (Y3×Int)) (s1:St→Option (Y3×Int)) (v):(floc (Ez107 mk) Tz107 6 N Tryz.f13 [Z4,Z2] [false,false] [.call 4 0 28,.call 3 1 45] 0 nowhereR) s1 (ez107_1 v)=gimage_Decode_1 mk N (fun v=>s0 (ez107_0 v)) (fun v=>s1 (ez107_1 v)) v:=(kz107_1 mk N s0 s1 v).trans (by rw [funext (iterR_eq ez107_2 (bz107_2 mk N s0 s1) N)];rfl)
def himage_Decode_0 (mk:(α:Type)→Nat→α→List α) (loop1:Y20→Option (Y3×Int)) (self0:Y21→Option (Y3×Int)) (v:Y21):Option (Y3×Int):=
 (bif (decide (v.2.1 < v.1)) then ((cimage_reader_typeOfTable ((),()) (v.2.2.1,())).bind fun x5=>(bif (decide (0≤v.2.1)&&decide (v.2.1 < (List.length v.2.2.2.1:Int))) then (let x6:Y8:=(List.set v.2.2.2.1 (Int.toNat v.2.1) x5.2);(let x7:Int:=(IntKind.i64.wrap (v.2.1+(1:Int)));(self0 (v.1,x7,x5.1,x6,v.2.2.2.2.1,v.2.2.2.2.2.1,v.2.2.2.2.2.2.1,v.2.2.2.2.2.2.2.1,v.2.2.2.2.2.2.2.2.1,v.2.2.2.2.2.2.2.2.2.1,v.2.2.2.2.2.2.2.2.2.2.1,v.2.2.2.2.2.2.2.2.2.2.2.1,v.2.2.2.2.2.2.2.2.2.2.2.2.1,v.2.2.2.2.2.2.2.2.2.2.2.2.2.1,v.2.2.2.2.2.2.2.2.2.2.2.2.2.2.1,v.2.2.2.2.2.2.2.2.2.2.2.2.2.2.2.1,v.2.2.2.2.2.2.2.2.2.2.2.2.2.2.2.2)))) else none)) else ((cimage_reader_number ((),((32:Int),())) (v.2.2.1,())).bind fun x8=>(bif (decide (0≤x8.2)&&(decide (x8.2≤x8.2)&&(decide (x8.2≤68719476736)&&true))) then (let x9:Y13:=(mk Y6 (Int.toNat x8.2) ([]:List Int));(loop1 ((List.length x9:Int),(0:Int),x8.1,x9,v.2.2.2.2.1,v.2.2.2.2.2.1,v.2.2.2.2.2.2.1,v.2.2.2.2.2.2.2.1,v.2.2.2.2.2.2.2.2.1,v.2.2.2.1,v.2.2.2.2.2.2.2.2.2.2.1,v.2.2.2.2.2.2.2.2.2.2.2.1,v.2.2.2.2.2.2.2.2.2.2.2.2.1,v.2.2.2.2.2.2.2.2.2.2.2.2.2.1,v.2.2.2.2.2.2.2.2.2.2.2.2.2.2.1,v.2.2.2.2.2.2.2.2.2.2.2.2.2.2.2.1,v.2.2.2.2.2.2.2.2.2.2.2.2.2.2.2.2))) else none)))
def gimage_Decode_0 (mk:(α:Type)→Nat→α→List α) (N:Nat) (self0:Y21→Option (Y3×Int)) (v:Y21):Option (Y3×Int):=himage_Decode_0 mk (iterV (gimage_Decode_1 mk N self0) N) self0 v
theorem kz107_0 (mk:(α:Type)→Nat→α→List α) (N:Nat) (s0:St→Option (Y3×Int)) (v):(floc (Ez107 mk) Tz107 6 N Tryz.f13 [Z4,Z2] [false,false] [.call 4 0 28,.call 2 1 43] 0 nowhereR) s0 (ez107_0 v)=himage_Decode_0 mk (fun v=>iterR (floc (Ez107 mk) Tz107 6 N Tryz.f13 [Z4,Z2] [false,false] [.call 4 0 28,.call 3 1 45] 0 nowhereR) N (ez107_1 v)) (fun v=>s0 (ez107_0 v)) v:=by kernel_rfl
theorem bz107_0 (mk:(α:Type)→Nat→α→List α) (N:Nat) (s0:St→Option (Y3×Int)) (v):(floc (Ez107 mk) Tz107 6 N Tryz.f13 [Z4,Z2] [false,false] [.call 4 0 28,.call 2 1 43] 0 nowhereR) s0 (ez107_0 v)=gimage_Decode_0 mk N (fun v=>s0 (ez107_0 v)) v:=(kz107_0 mk N s0 v).trans (by rw [funext (iterR_eq ez107_1 (bz107_1 mk N s0) N)];rfl)
def nimage_Decode (mk:(α:Type)→Nat→α→List α) (loop0:Y21→Option (Y3×Int)) (x:Y6):Option (Y3×Int):=
 (bif (decide ((List.length x:Int) > (20000:Int))) then (let x1:Y3:=(([]:Y8),(([]:Y13),(([]:Y14),())));(some (x1,(4:Int)))) else (let x2:Y5:=((x,((0:Int),())),(false,()));((cimage_reader_number ((),((32:Int),())) (x2,())).bind fun x3=>(bif (decide (0≤x3.2)&&(decide (x3.2≤x3.2)&&(decide (x3.2≤68719476736)&&true))) then (let x4:Y8:=(mk Y1 (Int.toNat x3.2) ((0:Int),((0:Int),((0:Int),(([]:Y12),())))));(loop0 ((List.length x4:Int),(0:Int),x3.1,x4,(),([]:List Y1),([]:List Y6),([]:List Y0),(),([]:List Y1),([]:List Y6),([]:List Y0),(),([]:List Y1),([]:List Y6),([]:List Y0),x))) else none))))
def mimage_Decode (mk:(α:Type)→Nat→α→List α) (N:Nat) (x:Y6):Option (Y3×Int):=nimage_Decode mk (iterV (gimage_Decode_0 mk N) N) x
theorem jz107 (mk:(α:Type)→Nat→α→List α) (N:Nat) (x:Y6):rise (Ez107 mk) Tz107 6 N Tryz.f13 [Z11] [Z4,Z2] [false,false] x=nimage_Decode mk (fun v=>iterR (floc (Ez107 mk) Tz107 6 N Tryz.f13 [Z4,Z2] [false,false] [.call 4 0 28,.call 2 1 43] 0 nowhereR) N (ez107_0 v)) x:=by kernel_rfl
theorem lz107 (mk:(α:Type)→Nat→α→List α) (N:Nat) (x:Y6):rise (Ez107 mk) Tz107 6 N Tryz.f13 [Z11] [Z4,Z2] [false,false] x=mimage_Decode mk N x:=(jz107 mk N x).trans (by rw [funext (iterR_eq ez107_0 (bz107_0 mk N) N)];rfl)
def cimage_Decode (x:Y6):Option (Y3×Int):=mimage_Decode (fun _=>List.replicate) big x
def Gz107:Fn2:=⟨[Z11],[Z4,Z2],[false,false],fun x=>cimage_Decode x⟩
theorem Lz107:Rises Tryz.prog 13 Gz107:=rises_of (E:=Ez107 (fun _=>List.replicate)) ⟨tabOk,(fsCons2 Lz40 fsNil2),fun _ _ _=>rfl,mixed,(inlCons (inlB_of Tryz.func28 rfl rfl (by kernel_rfl)) (inlCons (inlB_of Tryz.func43 rfl rfl (by kernel_rfl)) (inlCons (inlB_of Tryz.func45 rfl rfl (by kernel_rfl)) (inlCons (inlB_of Tryz.func47 rfl rfl (by kernel_rfl)) inlNil)))),(rcsCons Lz91 (rcsCons Lz93 (rcsCons Lz105 (rcsCons Lz81 rcsNil)))),owsNil⟩ Tryz.func13 rfl (by decide) (by kernel_rfl) (by kernel_rfl) (by kernel_rfl) (by kernel_rfl) (fun x r _ h=>⟨Tz107,6,big,(lz107 (fun _=>List.replicate) big x).trans h⟩)
end Go.Proofs.YtlhnlcbcikbokaaGreatDoor
