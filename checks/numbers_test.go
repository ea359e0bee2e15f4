package checks

import (
	"errors"
	"fmt"
	"testing"

	"conduit/api"
)

func TestErrorsHaveTheDocumentsNumbers(t *testing.T) {
	for name, pair := range map[string][2]api.Errno{
		"OK":         {api.OK, 0},
		"ErrToken":   {api.ErrToken, 10},
		"ErrQuote":   {api.ErrQuote, 11},
		"ErrParam":   {api.ErrParam, 12},
		"ErrDate":    {api.ErrDate, 20},
		"ErrUri":     {api.ErrUri, 30},
		"ErrScheme":  {api.ErrScheme, 31},
		"ErrHost":    {api.ErrHost, 32},
		"ErrPort":    {api.ErrPort, 33},
		"ErrField":   {api.ErrField, 40},
		"ErrFold":    {api.ErrFold, 41},
		"ErrMany":    {api.ErrMany, 42},
		"ErrLine":    {api.ErrLine, 50},
		"ErrHead":    {api.ErrHead, 51},
		"ErrVersion": {api.ErrVersion, 52},
		"ErrStatus":  {api.ErrStatus, 53},
		"ErrLength":  {api.ErrLength, 60},
		"ErrBoth":    {api.ErrBoth, 61},
		"ErrCoding":  {api.ErrCoding, 62},
		"ErrChunk":   {api.ErrChunk, 70},
		"ErrBody":    {api.ErrBody, 71},
		"ErrCut":     {api.ErrCut, 80},
		"ErrNone":    {api.ErrNone, 90},
		"ErrExist":   {api.ErrExist, 91},
		"ErrFull":    {api.ErrFull, 92},
		"ErrPower":   {api.ErrPower, 93},
		"ErrFault":   {api.ErrFault, 94},
		"ErrName":    {api.ErrName, 95},
		"ErrRecord":  {api.ErrRecord, 100},
		"ErrLong":    {api.ErrLong, 101},
		"ErrLog":     {api.ErrLog, 110},
		"ErrObject":  {api.ErrObject, 120},
		"ErrRoom":    {api.ErrRoom, 130},
		"ErrConfig":  {api.ErrConfig, 131},
		"ErrRange":   {api.ErrRange, 190},
		"ErrUnsat":   {api.ErrUnsat, 191},
		"ErrRule":    {api.ErrRule, 210},
		"ErrCommand": {api.ErrCommand, 250},
		"ErrScript":  {api.ErrScript, 251},
	} {
		if pair[0] != pair[1] {
			t.Errorf("%s is %d, not %d", name, pair[0], pair[1])
		}
	}
}

func TestErrnoIsAnError(t *testing.T) {
	err := fmt.Errorf("a text: %w", api.ErrQuote)
	var number api.Errno
	if !errors.Is(err, api.ErrQuote) || errors.Is(err, api.ErrParam) || !errors.As(err, &number) || number != 11 {
		t.Errorf("a wrapped ErrQuote isn't found again: %v", err)
	}
	if api.ErrQuote.Error() == "" || api.ErrQuote.Error() == api.ErrParam.Error() {
		t.Errorf("two numbers in the same words: %q", api.ErrQuote.Error())
	}
}

func TestLimitsHaveTheDocumentsNumbers(t *testing.T) {
	for name, pair := range map[string][2]int{
		"HeadCap":   {api.HeadCap, 8_192},
		"FieldCap":  {api.FieldCap, 100},
		"BodyCap":   {api.BodyCap, 65_536},
		"HostCap":   {api.HostCap, 255},
		"KeyCap":    {api.KeyCap, 4_096},
		"NameCap":   {api.NameCap, 64},
		"RecordCap": {api.RecordCap, 8_192},
		"DiskCap":   {api.DiskCap, 1_073_741_824},
		"SlotCap":   {api.SlotCap, 4_096},
		"RuleCap":   {api.RuleCap, 200},
		"TimeCap":   {api.TimeCap, 253_402_300_799},
		"AgeCap":    {api.AgeCap, 2_147_483_648},
		"ConnCap":   {api.ConnCap, 64},
		"ScriptCap": {api.ScriptCap, 1_000},
		"LineCap":   {api.LineCap, 65_536},
		"OutCap":    {api.OutCap, 1_048_576},
		"HeldCap":   {api.HeldCap, 262_144},
	} {
		if pair[0] != pair[1] {
			t.Errorf("%s is %d, not %d", name, pair[0], pair[1])
		}
	}
}
